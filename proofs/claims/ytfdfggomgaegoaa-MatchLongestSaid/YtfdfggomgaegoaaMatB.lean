/-
  The chains: from each place how far back the same three bytes stand.
-/
import Derived.Test.YtfdfggomgaegoaaMatA
import Derived.Test.YtfdfggomgaegoaaRow
import Derived.Maps.OwnSet
import Derived.Maps.OwnOps
namespace Go.Proofs.Ytfdfggomgaegoaa.MatC
open Go.RowKit Go.My MatMath Go.Maps

/-- Three bytes as one number. -/
def key (s : List UInt8) (a : Nat) : Nat := (at_ s a).toNat + 256 * (at_ s (a + 1)).toNat + 65536 * (at_ s (a + 2)).toNat
theorem key_lt (s : List UInt8) (a : Nat) : key s a < 16777216 := by
  unfold key
  have h1 := (at_ s a).toNat_lt
  have h2 := (at_ s (a + 1)).toNat_lt
  have h3 := (at_ s (a + 2)).toNat_lt
  omega
theorem key_tri (s : List UInt8) (q a : Nat) : tri s q a = true ↔ key s q = key s a := by
  rw [tri_iff]
  unfold key
  have h1 := (at_ s a).toNat_lt
  have h2 := (at_ s (a + 1)).toNat_lt
  have h3 := (at_ s (a + 2)).toNat_lt
  have g1 := (at_ s q).toNat_lt
  have g2 := (at_ s (q + 1)).toNat_lt
  have g3 := (at_ s (q + 2)).toNat_lt
  constructor
  · rintro ⟨e1, e2, e3⟩; rw [e1, e2, e3]
  · intro e
    refine ⟨UInt8.toNat_inj.1 (by omega), UInt8.toNat_inj.1 (by omega), UInt8.toNat_inj.1 (by omega)⟩
def kl (s : List UInt8) (a : Nat) : Lit := .int .u32 (key s a : Int)
theorem kl_key (s : List UInt8) (a : Nat) : WideAt.IsKeyLit (kl s a) := by
  simp [WideAt.IsKeyLit, kl]
theorem kl_tri (s : List UInt8) (q a : Nat) : tri s q a = true ↔ kl s a = kl s q := by
  rw [key_tri]
  unfold kl
  constructor
  · intro e; rw [e]
  · intro e; injection e with _ e; omega
section
variable {H : Type}
/-- The map behind k rounds. -/
def Ds (s : List UInt8) : Nat → DataW H
  | 0 => .map []
  | k + 1 => (Ds s k).put (kl s k) (.lit (.int .i64 (k : Int)))
theorem Ds_map (s : List UInt8) (k : Nat) : IsMap (Ds (H := H) s k) := by
  induction k with
  | zero => exact isMap_empty
  | succ k ih => exact ih.put _ _
theorem Ds_has (s : List UInt8) (a k : Nat) : has (Ds (H := H) s k) (kl s a) = (prev s a k).isSome := by
  induction k with
  | zero => rfl
  | succ k ih =>
    unfold prev
    show has ((Ds s k).put (kl s k) _) (kl s a) = _
    by_cases h : tri s k a = true
    · rw [if_pos h, (kl_tri s k a).1 h, has_put_same (Ds_map s k) (kl_key s k)]; rfl
    · rw [if_neg h, has_put_other (fun e => h ((kl_tri s k a).2 e)), ih]
theorem Ds_at (s : List UInt8) (a k : Nat) (z : DataW H) : (Ds s k).atKey (kl s a) z = match prev s a k with | some e => .lit (.int .i64 (e : Int)) | none => z := by
  induction k with
  | zero => rfl
  | succ k ih =>
    unfold prev
    show ((Ds s k).put (kl s k) _).atKey (kl s a) z = _
    by_cases h : tri s k a = true
    · rw [if_pos h, (kl_tri s k a).1 h, atKey_put_same (Ds_map s k) (kl_key s k)]
    · rw [if_neg h, atKey_put_other (fun e => h ((kl_tri s k a).2 e)), ih]
end
theorem law32 : Keyed Try.prog 58 := int_keyed Try.underlying58
theorem zero_int (w : World) : (zeroValue 3).run Try.prog w = .ok (.int .i64 0) w := by kernel_rfl
theorem info32 : (Try.prog.info? 21).map (fun i => (i.zero, i.size, i.bytes)) = some (some (.int .i32 0), 1, 4) := by kernel_rfl

/-- The row behind k of n rounds. -/
def bk (s : List UInt8) (far k i : Nat) : Value := .int .i32 (if i < k then (back s far i : Int) else 0)
def bks (s : List UInt8) (far n k : Nat) : List Value := (List.range n).map (bk s far k)
theorem bks_zero (s : List UInt8) (far n : Nat) : bks s far n 0 = List.replicate n (.int .i32 0) := by
  unfold bks
  apply List.ext_getElem
  · simp
  · intro i h1 h2
    simp [bk]
theorem bks_len (s : List UInt8) (far n k : Nat) : (bks s far n k).length = n := by simp [bks]
theorem bks_get (s : List UInt8) (far n k i : Nat) (hi : i < n) : (bks s far n k)[i]'(by rw [bks_len]; exact hi) = bk s far k i := by simp [bks]
theorem bks_set (s : List UInt8) (far n k : Nat) : (bks s far n k).set k (.int .i32 (back s far k : Int)) = bks s far n (k + 1) := by
  apply List.ext_getElem
  · simp [bks_len]
  · intro i h1 h2
    have hi : i < n := by rw [bks_len] at h2; exact h2
    rw [bks_get _ _ _ _ _ hi, List.getElem_set]
    split
    · next e => subst e; simp [bk]
    · next e => rw [bks_get _ _ _ _ _ hi]; unfold bk; congr 1; split <;> split <;> first | rfl | omega
theorem bks_same (s : List UInt8) (far n k : Nat) (h0 : back s far k = 0) : bks s far n k = bks s far n (k + 1) := by
  rw [← bks_set s far n k, h0]
  apply List.ext_getElem
  · simp [bks_len]
  · intro i h1 h2
    rw [List.getElem_set]
    have hi : i < n := by rw [bks_len] at h1; exact h1
    split
    · next e => subst e; rw [bks_get _ _ _ _ _ hi]; simp [bk]
    · rfl

theorem or_key (x y z : Nat) (hx : x < 2 ^ 8) (hy : y < 2 ^ 8) (hz : z < 2 ^ 8) : bits .or .u32 (bits .or .u32 (x : Int) ((y : Int) * 256)) ((z : Int) * 65536) = ((x + 256 * y + 65536 * z : Nat) : Int) := by
  have st : ∀ a c i : Nat, a < 2 ^ i → a + 2 ^ i * c < 4294967296 → bits .or .u32 (a : Int) ((2 ^ i * c : Nat) : Int) = ((a + 2 ^ i * c : Nat) : Int) := by
    intro a c i ha hc
    show IntKind.u32.wrap ((BitVec.ofInt 32 (a : Int) ||| BitVec.ofInt 32 ((2 ^ i * c : Nat) : Int)).toNat : Int) = _
    rw [BitVec.toNat_or, BitVec.toNat_ofInt, BitVec.toNat_ofInt]
    have e1 : ((a : Int) % ((2 ^ 32 : Nat) : Int)).toNat = a := by omega
    have e2 : (((2 ^ i * c : Nat) : Int) % ((2 ^ 32 : Nat) : Int)).toNat = 2 ^ i * c := by generalize 2 ^ i * c = d at *; omega
    rw [e1, e2, Nat.or_comm, ← Nat.two_pow_add_eq_or_of_lt ha c, IntWalk.u32_in _ (by generalize 2 ^ i * c = d at *; omega)]
    rw [Nat.add_comm]
  have h1 := st x y 8 (by omega) (by omega)
  have h2 := st (x + 2 ^ 8 * y) z 16 (by omega) (by omega)
  rw [show (y : Int) * 256 = ((2 ^ 8 * y : Nat) : Int) by omega, show (z : Int) * 65536 = ((2 ^ 16 * z : Nat) : Int) by omega, h1, h2]
/-- Where the loop stands behind k rounds. -/
structure Ch (w wr : World) (G M n far k : Nat) (s : List UInt8) : Prop where
  own : OwnV 21 w.heap.size wr (.slice (some ⟨G, 0, none⟩) n n) (bks s far n k)
  map : wr.ownsMap Try.prog 58 (plainElem (H := Unit) Try.prog 3) M k (Ds s k)
  below : Below w.heap.size w wr
  ne : M ≠ G
  base : w.heap.size ≤ G ∧ w.heap.size ≤ M
theorem Ch.drew {w wr : World} {G M n far k : Nat} {s : List UInt8} (h : Ch w wr G M n far k s) (j : Nat) : Ch w (wr.drewN j) G M n far k s :=
  ⟨h.own.below (Nat.le_refl _) (quiet_below wr j), by have := h.map.kept (w' := wr.drewN j) (row := none) ⟨rfl, rfl, rfl, Nat.le_refl _, fun _ _ _ => rfl⟩ (by simp); exact this, h.below.trans ((quiet_below wr j).mono h.below.size), h.ne, h.base⟩
theorem Ch.next {w wr w2 : World} {G M n far k : Nat} {s : List UInt8} (h : OwnV 21 w.heap.size wr (.slice (some ⟨G, 0, none⟩) n n) (bks s far n (k + 1))) (hb : Below w.heap.size w wr) (ne : M ≠ G) (base : w.heap.size ≤ G ∧ w.heap.size ≤ M)
    (hm : w2.ownsMap Try.prog 58 (plainElem (H := Unit) Try.prog 3) M (k + 1) ((Ds s k).put (kl s k) (.lit (.int .i64 (k : Int))))) (hg : wr.grownBy w2 (some M)) : Ch w w2 G M n far (k + 1) s :=
  ⟨h.kept hg (.inr (fun e => ne (by injection e with e; exact e.symm))), hm, hb.grown hg hb.size (fun j hj => by cases hj; exact base.2), ne, base⟩

set_option maxRecDepth 100000 in
set_option maxHeartbeats 4000000 in
theorem chains_any {a : Option Addr} {len cap : Nat} {s : List UInt8} (w : World) (hb : Bytes w a len cap s) (hlen : len ≤ 1000000000) (far : Nat) :
    Calls Try.prog 25 #[.slice a len cap, .int .i64 (far : Int)] w fun e w' => ∃ g, e = .returned (.slice (some ⟨g, 0, none⟩) (len - 2) (len - 2)) ∧ OwnV 21 w.heap.size w' (.slice (some ⟨g, 0, none⟩) (len - 2) (len - 2)) (bks s far (len - 2) (len - 2)) ∧ Below w.heap.size w w' := by
  have HB := Lib.hid hb
  have hcl := hb.le_cap
  have hcm := hb.cap_le
  have HL := Lib.hid hb.len_eq
  clear hb
  obtain ⟨n, hn⟩ : ∃ n, n = len - 2 := ⟨_, rfl⟩
  rw [← hn]
  have hmk := @run_makeMap Try.prog
  have hmax : (if (0 : Int) < (len : Int) - 3 + 1 then (len : Int) - 3 + 1 else 0) = (n : Int) := by split <;> omega
  have hnl : n ≤ len := by omega
  have hn2 : n = 0 ∨ n + 2 = len := by omega
  clear hn
  go_enter Try.func25, Try.ntmps25
  go_upto_region 1 with (fail)
  go_wp2_with (at_make; refine wpList_make_row _ rfl _ _ 47 rfl w.heap.size 21 (.int .i32 0) 4 Try.underlying47 info32 rfl .i64 .i64 n rfl rfl (by omega) (by omega) (Nat.le_refl _) ?_)
  intro w1 hown hg
  have hlt : w.heap.size < w1.heap.size := hown.lt _ rfl
  have HS : Hid (Ch w (w1.alloc (.map #[] 0)) w.heap.size w1.heap.size n far 0 s) := Lib.hid ⟨by rw [bks_zero]; exact hown.kept (World.grownBy_alloc w1 _ none) (.inr (by simp [Value.ownBlock])), World.ownsMap_made _ _ _ _, ((Below.refl _ w).grown hg (Nat.le_refl _) (fun k hk => by cases hk)).alloc (by omega) _, by omega, by omega, by omega⟩
  clear hown hg hmax
  have hG : w.heap.size < w1.heap.size := hlt
  clear hlt
  generalize w.heap.size = G at *
  go_wp2_with fail
  obtain ⟨M, hM⟩ : ∃ M, M = w1.heap.size := ⟨_, rfl⟩
  rw [← hM] at HS ⊢
  clear hM
  go_loopw [20] (fun v wr => ∃ k : Nat, k ≤ n ∧ v = .int .i64 (k : Int) ∧ Hid (Ch w wr G M n far k s)) (fun v _ => n - (intOf v).toNat)
  case atStart => exact ⟨0, Nat.zero_le _, rfl, HS⟩
  case round =>
    clear HS
    obtain ⟨k, hk, rfl, HS⟩ := hrel
    by_cases hlt : k < n
    · have hkl : k + 2 < s.length := by rw [HL.out]; omega
      obtain ⟨b, off, rfl⟩ := HB.out.some_ (by omega)
      have HBr := Lib.hid (HB.out.below (Nat.le_refl _) HS.out.below)
      have x0 := byte_at HBr.out k (by omega)
      have x1 := byte_at HBr.out (k + 1) (by omega)
      have x2 := byte_at HBr.out (k + 2) (by omega)
      have k0 : at_ s k = s[k] := by simp [at_, List.getD_eq_getElem?_getD, List.getElem?_eq_getElem (show k < s.length by omega)]
      have k1 : at_ s (k + 1) = s[k + 1] := by simp [at_, List.getD_eq_getElem?_getD, List.getElem?_eq_getElem (show k + 1 < s.length by omega)]
      have k2 : at_ s (k + 2) = s[k + 2] := by simp [at_, List.getD_eq_getElem?_getD, List.getElem?_eq_getElem (show k + 2 < s.length by omega)]
      rw [← k0] at x0
      rw [← k1] at x1
      rw [← k2] at x2
      have HK : Hid (key s k = (at_ s k).toNat + 256 * (at_ s (k + 1)).toNat + 65536 * (at_ s (k + 2)).toNat) := Lib.hid rfl
      clear k0 k1 k2
      have c0 := (at_ s k).toNat_lt
      have c1 := (at_ s (k + 1)).toNat_lt
      have c2 := (at_ s (k + 2)).toNat_lt
      generalize (at_ s k).toNat = y0 at *
      generalize (at_ s (k + 1)).toNat = y1 at *
      generalize (at_ s (k + 2)).toNat = y2 at *
      have ek := or_key y0 y1 y2 c0 c1 c2
      have hK : y0 + 256 * y1 + 65536 * y2 = key s k := HK.out.symm
      rw [hK] at ek
      have hkb := key_lt s k
      have hkw : Hid ((Lit.int .u32 ((key s k : Nat) : Int)).wf = true) := Lib.hid (by simp [Lit.wf, IntKind.min, IntKind.max, IntKind.bits, IntKind.signed]; omega)
      have hkey : Hid (keyOf Try.prog 58 (.int .u32 ((key s k : Nat) : Int)) = some (kl s k)) := Lib.hid (keyOf_int_mk Try.underlying58 hkw.out)
      clear hK HK hkw
      generalize key s k = K at *
      have g1 : decide (k < n) = true := by simp; omega
      have e1 : IntKind.i64.wrap ((k : Int) + 1) = (k : Int) + 1 := IntWalk.i64_in _ (by omega)
      have e2 : IntKind.i64.wrap ((k : Int) + 2) = (k : Int) + 2 := IntWalk.i64_in _ (by omega)
      have e3 : ((k : Int) + 1).toNat = k + 1 := by omega
      have e4 : ((k : Int) + 2).toNat = k + 2 := by omega
      have f1 : (0 : Int) ≤ (k : Int) + 1 := by omega
      have f2 : (0 : Int) ≤ (k : Int) + 2 := by omega
      have f3 : (k : Int) + 1 < (len : Int) := by omega
      have f4 : (k : Int) + 2 < (len : Int) := by omega
      have f5 : k < len := by omega
      go_upto_region 6 with (fail)
      go_quiet (fail)
      have HS2 := Lib.hid (HS.out.drew nq)
      clear HS x0 x1 x2 c0 c1 c2 ek e1 e2 e3 e4 f1 f2 f3 f4 f5 g1 HBr hkb
      generalize wr.drewN nq = w2 at *
      have HMP := Lib.hid HS2.out.map
      go_upto_region 7 with (fail)
      go_wp2_with (at_lookup; refine wpList_lookup_own_ok_int _ rfl _ _ 57 rfl 58 3 .i64 law32 Try.underlying57 Try.underlying3 (zero_int _) M k (Ds s k) rfl HMP.out _ (kl s k) rfl hkey.out ?_)
      intro c hat hwc
      rw [Ds_at] at hat
      rw [Ds_has]
      have hbk : back s far k = match prev s k k with | none => 0 | some e => if k - e ≤ far then k - e else 0 := rfl
      cases hp : prev s k k with
      | none =>
        rw [hp] at hat hbk
        obtain rfl : c = 0 := by injection hat with hat; injection hat with _ hat; exact hat.symm
        simp only [Option.isSome_none]
        have HB0 : Hid (bks s far n k = bks s far n (k + 1)) := Lib.hid (bks_same s far n k hbk)
        clear hat hwc hbk hp
        go_wp2_with (at_mapUpdate; refine wpList_mapUpdate_own _ rfl _ _ _ 57 rfl 58 3 law32 Try.underlying57 _ M k _ rfl HMP.out (by unfold maxLen; omega) _ _ (kl s k) rfl rfl hkey.out _ [] (plainElem_int Try.underlying3 (WalkArith.wf_i64 (by omega))) ?_)
        intro w3 hm3 hg3
        have HS3 : Hid (Ch w w3 G M n far (k + 1) s) := Lib.hid (Ch.next (by rw [← HB0.out]; exact HS2.out.own) HS2.out.below HS2.out.ne HS2.out.base hm3 hg3)
        clear HS2 HMP hm3 hg3 HB0 hkey
        go_wp2_with fail
        go_roundw
        case rel => exact ⟨k + 1, by omega, by go_num, HS3⟩
        case measure => simp [intOf]; omega
      | some e =>
        obtain ⟨hek, _, _⟩ := prev_some _ hp
        rw [hp] at hat hbk
        obtain rfl : c = (e : Int) := by injection hat with hat; injection hat with _ hat; exact hat.symm
        simp only [Option.isSome_some]
        clear hat hwc hp
        by_cases hle : k - e ≤ far
        · have hbk2 : back s far k = k - e := by rw [hbk]; exact if_pos hle
          have hsub : ((back s far k : Nat) : Int) = (k : Int) - (e : Int) := by omega
          have hst := HS2.out.own.store (bks_len _ _ _ _) k (.int .i32 (back s far k : Int))
          rw [bks_set] at hst
          rw [hsub] at hst
          have HST := Lib.hid hst
          have hfr := HS2.out.own.free (bks_len _ _ _ _) k
          have hce := HS2.out.own.cell (bks_len _ _ _ _) k (by rw [bks_len]; exact hlt)
          have HM3 : Hid ((w2.setCell ⟨G, k, none⟩ (.int .i32 ((k : Int) - (e : Int)))).ownsMap Try.prog 58 (plainElem (H := Unit) Try.prog 3) M k (Ds s k)) := Lib.hid (HS2.out.map.setCell HS2.out.ne _)
          have HB3 : Hid (Below w.heap.size w (w2.setCell ⟨G, k, none⟩ (.int .i32 ((k : Int) - (e : Int))))) := Lib.hid (HS2.out.below.setCell HS2.out.base.1 _)
          clear hst hbk hbk2 hsub
          generalize (bks s far n k)[k]'(by rw [bks_len]; exact hlt) = x at *
          have g1 : decide ((k : Int) - (e : Int) ≤ (far : Int)) = true := by simp; omega
          go_upto_region 10 with (fail)
          clear hce hfr g1
          generalize w2.setCell ⟨G, k, none⟩ (.int .i32 ((k : Int) - (e : Int))) = w4 at *
          go_wp2_with (at_mapUpdate; refine wpList_mapUpdate_own _ rfl _ _ _ 57 rfl 58 3 law32 Try.underlying57 _ M k _ rfl HM3.out (by unfold maxLen; omega) _ _ (kl s k) rfl rfl hkey.out _ [] (plainElem_int Try.underlying3 (WalkArith.wf_i64 (by omega))) ?_)
          intro w3 hm3 hg3
          have HS3 : Hid (Ch w w3 G M n far (k + 1) s) := Lib.hid (Ch.next HST.out HB3.out HS2.out.ne HS2.out.base hm3 hg3)
          clear HS2 HMP hm3 hg3 HST HB3 HM3 hkey
          go_wp2_with fail
          go_roundw
          case rel => exact ⟨k + 1, by omega, by go_num, HS3⟩
          case measure => simp [intOf]; omega
        · have hbk2 : back s far k = 0 := by rw [hbk]; exact if_neg hle
          have HB0 : Hid (bks s far n k = bks s far n (k + 1)) := Lib.hid (bks_same s far n k hbk2)
          have g1 : decide ((k : Int) - (e : Int) ≤ (far : Int)) = false := by simp; omega
          clear hbk hbk2
          go_wp2_with (at_mapUpdate; refine wpList_mapUpdate_own _ rfl _ _ _ 57 rfl 58 3 law32 Try.underlying57 _ M k _ rfl HMP.out (by unfold maxLen; omega) _ _ (kl s k) rfl rfl hkey.out _ [] (plainElem_int Try.underlying3 (WalkArith.wf_i64 (by omega))) ?_)
          intro w3 hm3 hg3
          have HS3 : Hid (Ch w w3 G M n far (k + 1) s) := Lib.hid (Ch.next (by rw [← HB0.out]; exact HS2.out.own) HS2.out.below HS2.out.ne HS2.out.base hm3 hg3)
          clear HS2 HMP hm3 hg3 HB0 hkey g1
          go_wp2_with fail
          go_roundw
          case rel => exact ⟨k + 1, by omega, by go_num, HS3⟩
          case measure => simp [intOf]; omega
    · obtain rfl : k = n := by omega
      go_wp2_with fail
      go_ret
      exact ⟨G, rfl, HS.out.own, HS.out.below⟩
end Go.Proofs.Ytfdfggomgaegoaa.MatC
