import Derived.Test.YtbjjkhlebdaoaaaGreatDoorRows
import Derived.Test.YtbjjkhlebdaoaaaGreatDoorMgA
import Derived.Test.YtbjjkhlebdaoaaaGreatDoorMgB
import Derived.Deep.DeepCutAuto
import Derived.Deep.CutBlock
import Derived.Maps.OwnSet
import Derived.Maps.OwnOps
import Derived.Below
import Derived.Deep.QuietTactic
import Derived.BigQuiet

section
/-
  bytes.Equal; how many bytes are alike at the beginning of two slices.
-/
namespace Go.Proofs.YtbjjkhlebdaoaaaGreatDoor.MatC
open Go.RowKit Go.My MatMath

theorem quiet_below (w : World) (n : Nat) : Below w.heap.size w (w.drewN n) := ⟨rfl, rfl, rfl, Nat.le_refl _, fun _ _ => rfl⟩
theorem equal_any {a1 a2 : Option Addr} {n1 n2 c1 c2 : Nat} {l1 l2 : List UInt8} (w : World) (h1 : Bytes w a1 n1 c1 l1) (h2 : Bytes w a2 n2 c2 l2) (K : Bool) (hK : (l1 == l2) = K) :
    Calls Tryz.prog 95 #[.slice a1 n1 c1, .slice a2 n2 c2] w fun e w' => e = .returned (.bool K) ∧ w' = w := by
  have k1 := run_string_bytes (P := Tryz.prog) w 22 9 5 Tryz.underlying22 Tryz.underlying5 Tryz.underlying9 h1
  have k2 := run_string_bytes (P := Tryz.prog) w 22 9 5 Tryz.underlying22 Tryz.underlying5 Tryz.underlying9 h2
  clear h1 h2
  go_enter Tryz.func95, Tryz.ntmps95
  go_wp2_with fail
  go_ret
  exact ⟨rfl, rfl⟩

/-- How many bytes at the beginning of both are the same. -/
def pre : List UInt8 → List UInt8 → Nat
  | [], _ => 0
  | _ :: _, [] => 0
  | x :: xs, y :: ys => if x = y then pre xs ys + 1 else 0
theorem pre_eq : ∀ (l1 l2 : List UInt8) (n : Nat), n ≤ l1.length → n ≤ l2.length → (∀ i, i < n → l1[i]? = l2[i]?) → (n = l1.length ∨ n = l2.length ∨ l1[n]? ≠ l2[n]?) → pre l1 l2 = n := by
  intro l1
  induction l1 with
  | nil => intro l2 n h1 _ _ _; simp at h1; simp [pre, h1]
  | cons x xs ih =>
    intro l2 n h1 h2 h3 h4
    cases l2 with
    | nil => simp at h2; simp [pre, h2]
    | cons y ys =>
      cases n with
      | zero =>
        have : x ≠ y := by simpa using h4
        simp [pre, this]
      | succ n =>
        have e : x = y := by simpa using h3 0 (by omega)
        simp only [pre, if_pos e]
        rw [ih ys n (by simpa using h1) (by simpa using h2) (fun i hi => by simpa using h3 (i + 1) (by omega)) (by simpa using h4)]
/-- .. in one text. -/
theorem pre_ml (s : List UInt8) (q a m : Nat) (hm : a + m ≤ s.length) (hq : q ≤ a) : pre (s.drop q) ((s.drop a).take m) = ml s q a m := by
  have hg : ∀ i, i < s.length → s[i]? = some (at_ s i) := fun i hi => by rw [at_, List.getD_eq_getElem?_getD, List.getElem?_eq_getElem hi]; rfl
  have hl := ml_le s m q a
  refine pre_eq _ _ _ (by simp; omega) (by simp; omega) (fun i hi => ?_) ?_
  · rw [List.getElem?_take, if_pos (by omega), List.getElem?_drop, List.getElem?_drop, hg _ (by omega), hg _ (by omega), ml_same s m q a i hi]
  · by_cases h : ml s q a m < m
    · refine .inr (.inr ?_)
      rw [List.getElem?_take, if_pos h, List.getElem?_drop, List.getElem?_drop, hg _ (by omega), hg _ (by omega)]
      exact fun e => ml_stop s m q a h (Option.some.inj e)
    · exact .inr (.inl (by simp; omega))

theorem byte_at {w : World} {b off len cap : Nat} {l : List UInt8} (h : Bytes w (some ⟨b, off, none⟩) len cap l) (i : Nat) (hi : i < l.length) : w.cell? ⟨b, off + i, none⟩ = some (.int .u8 (l[i].toNat : Int)) := by
  rcases h.at_ with h5 | ⟨b', off', ha, hs, hc⟩
  · have := h.len_eq; omega
  · cases ha; exact hc i hi

/-- Only the draws have gone on. -/
def Drew (w w' : World) : Prop := ∃ m, w' = w.drewN m
theorem Drew.refl (w : World) : Drew w w := ⟨0, rfl⟩
theorem Drew.more {w w' : World} (h : Drew w w') (n : Nat) : Drew w (w'.drewN n) := by
  obtain ⟨m, rfl⟩ := h
  exact ⟨m + n, by rw [World.drewN_drewN]⟩
theorem Drew.below {w w' : World} (h : Drew w w') : Below w.heap.size w w' := by
  obtain ⟨m, rfl⟩ := h
  exact quiet_below w m
theorem Drew.bytes {w w' : World} {a : Option Addr} {len cap : Nat} {l : List UInt8} (h : Drew w w') (hb : Bytes w a len cap l) : Bytes w' a len cap l := hb.below (Nat.le_refl _) h.below

set_option maxRecDepth 100000 in
set_option maxHeartbeats 4000000 in
theorem alike_any {b1 b2 o1 o2 n1 n2 c1 c2 : Nat} {l1 l2 : List UInt8} (w : World) (h1 : Bytes w (some ⟨b1, o1, none⟩) n1 c1 l1) (h2 : Bytes w (some ⟨b2, o2, none⟩) n2 c2 l2) (hn : n1 ≤ 4611686018427387904) :
    Calls Tryz.prog 79 #[.slice (some ⟨b1, o1, none⟩) n1 c1, .slice (some ⟨b2, o2, none⟩) n2 c2] w fun e w' => e = .returned (.int .i64 ((pre l1 l2 : Nat) : Int)) ∧ Drew w w' := by
  have H1 := Lib.hid h1
  have H2 := Lib.hid h2
  have b1' := h1.le_cap
  have b1'' := h1.cap_le
  have b2' := h2.le_cap
  have b2'' := h2.cap_le
  have HL1 := Lib.hid h1.len_eq
  have HL2 := Lib.hid h2.len_eq
  clear h1 h2
  obtain ⟨N, hN⟩ : ∃ N, N = min n1 n2 := ⟨_, rfl⟩
  have hNa : N ≤ n1 := by omega
  have hNb : N ≤ n2 := by omega
  have hmin : (if n2 < n1 then (n2 : Int) else (n1 : Int)) = (N : Int) := by split <;> omega
  have HN := Lib.hid hN
  clear hN
  go_enter Tryz.func79, Tryz.ntmps79
  go_wp2_with fail
  go_loopw [5] (fun v wr => ∃ k : Nat, k ≤ N ∧ v = .int .i64 (k : Int) ∧ Hid (Drew w wr) ∧ Hid (∀ i, i < k → l1[i]? = l2[i]?)) (fun v _ => N - (intOf v).toNat)
  case atStart => exact ⟨0, by omega, rfl, Lib.hid (Drew.refl _), Lib.hid (fun i hi => by omega)⟩
  case round =>
    obtain ⟨k, hk, rfl, HD, HE⟩ := hrel
    go_upto_region 2 with (fail)
    go_cut [28] (fun v wc => ∃ K : Bool, v = .bool K ∧ Hid (Drew w wc) ∧ Hid (K = true → k + 32 ≤ N ∧ ∀ i, i < k + 32 → l1[i]? = l2[i]?))
    case first =>
      by_cases h32 : k + 32 ≤ N
      · have g1 : decide ((k : Int) + 32 ≤ (N : Int)) = true := by simp; omega
        have g1n : decide (k + 32 ≤ N) = true := by simp; omega
        obtain ⟨K, hK⟩ : ∃ K, K = ((l1.drop k).take 32 == (l2.drop k).take 32) := ⟨_, rfl⟩
        have p1 : ∀ q, Bytes (wr.drewN q) (some ⟨b1, o1 + k, none⟩) 32 (c1 - k) ((l1.drop k).take 32) := fun q => (HD.out.more q).bytes ((H1.out.drop k (by omega)).take 32 (by omega))
        have p2 : ∀ q, Bytes (wr.drewN q) (some ⟨b2, o2 + k, none⟩) 32 (c2 - k) ((l2.drop k).take 32) := fun q => (HD.out.more q).bytes ((H2.out.drop k (by omega)).take 32 (by omega))
        have HQ : Hid (∀ q, Calls Tryz.prog 95 #[.slice (some ⟨b1, o1 + k, none⟩) 32 (c1 - k), .slice (some ⟨b2, o2 + k, none⟩) 32 (c2 - k)] (wr.drewN q) fun e w' => e = .returned (.bool K) ∧ w' = wr.drewN q) := Lib.hid fun q => equal_any _ (p1 q) (p2 q) K hK.symm
        have HF : Hid (K = true → k + 32 ≤ N ∧ ∀ i, i < k + 32 → l1[i]? = l2[i]?) := Lib.hid fun e => ⟨h32, fun i hi => by
          by_cases hik : i < k
          · exact HE.out i hik
          · rw [e] at hK
            have hK' : ((l1.drop k).take 32)[i - k]? = ((l2.drop k).take 32)[i - k]? := by rw [beq_iff_eq.1 hK.symm]
            rw [List.getElem?_take, if_pos (by omega), List.getElem?_take, if_pos (by omega), List.getElem?_drop, List.getElem?_drop, show k + (i - k) = i from by omega] at hK'
            exact hK'⟩
        clear hK p1 p2 HE
        have e1 : IntKind.i64.wrap ((k : Int) + 32) = (k : Int) + 32 := IntWalk.i64_in _ (by omega)
        have e2 : (0 : Int) ≤ (k : Int) + 32 := by omega
        have e3 : ((k : Int) + 32).toNat = k + 32 := by omega
        have e4 : ¬ c1 = k := by omega
        have e5 : ¬ c2 = k := by omega
        have e6 : (k : Int) + 32 ≤ (c1 : Int) := by omega
        have e7 : (k : Int) + 32 ≤ (c2 : Int) := by omega
        go_quiet ((go_at_call 95; refine Calls.quiet_of_same (HQ.out _)))
        clear e1 e2 e3 e4 e5 e6 e7 g1 g1n HQ
        go_wp2_with fail
        go_meet
        case rel => exact ⟨K, rfl, Lib.hid (HD.out.more nq), HF⟩
      · have g1 : decide ((k : Int) + 32 ≤ (N : Int)) = false := by simp; omega
        have g1n : decide (k + 32 ≤ N) = false := by simp; omega
        have e1 : IntKind.i64.wrap ((k : Int) + 32) = (k : Int) + 32 := IntWalk.i64_in _ (by omega)
        go_quiet (fail)
        clear e1 g1 g1n
        go_wp2_with fail
        go_meet
        case rel => exact ⟨false, rfl, Lib.hid (HD.out.more nq), Lib.hid (fun e => by cases e)⟩
    obtain ⟨K, rfl, HD2, HK⟩ := hcut
    cases K
    · clear HK HD
      go_wp2_with fail
      go_loopw [5] (fun v wr => ∃ k : Nat, k ≤ N ∧ v = .int .i64 (k : Int) ∧ Hid (Drew w wr) ∧ Hid (∀ i, i < k → l1[i]? = l2[i]?)) (fun v _ => N - (intOf v).toNat)
      case atStart => exact ⟨k, hk, rfl, HD2, HE⟩
      case round =>
        clear HE HD2
        clear hk
        obtain ⟨j, hj, rfl, HD, HE⟩ := hrel
        by_cases hlt : j < N
        · have hj1 : j < l1.length := by rw [HL1.out]; omega
          have hj2 : j < l2.length := by rw [HL2.out]; omega
          have x1 := byte_at (HD.out.bytes H1.out) j hj1
          have x2 := byte_at (HD.out.bytes H2.out) j hj2
          have g1 : decide (j < N) = true := by simp; omega
          have g2 : j < n1 := by omega
          have g3 : j < n2 := by omega
          have HS1 : Hid (l1[j]? = some l1[j]) := Lib.hid (List.getElem?_eq_getElem hj1)
          have HS2 : Hid (l2[j]? = some l2[j]) := Lib.hid (List.getElem?_eq_getElem hj2)
          generalize l1[j] = x at *
          generalize l2[j] = y at *
          by_cases hxy : x = y
          · subst hxy
            have g4 : (((x.toNat : Nat) : Int) == ((x.toNat : Nat) : Int)) = true := by simp
            go_wp2_with fail
            go_quiet (fail)
            clear x1 x2 g1 g4
            go_wp2_with fail
            go_roundw
            case rel => exact ⟨j + 1, by omega, by go_num, Lib.hid (HD.out.more nq), Lib.hid (fun i hi => by
              by_cases hij : i < j
              · exact HE.out i hij
              · obtain rfl : i = j := by omega
                rw [HS1.out, HS2.out])⟩
            case measure => simp [intOf]; omega
          · have hne : ¬ (x.toNat : Int) = (y.toNat : Int) := fun e => hxy (UInt8.toNat_inj.1 (by omega))
            have g4 : (((x.toNat : Nat) : Int) == ((y.toNat : Nat) : Int)) = false := by simpa using hne
            go_wp2_with fail
            go_quiet (fail)
            clear x1 x2 g1 g4 hne
            go_wp2_with fail
            go_ret
            exact ⟨ret_int (by rw [pre_eq l1 l2 j (by omega) (by omega) HE.out (.inr (.inr (by rw [HS1.out, HS2.out]; exact fun e => hxy (Option.some.inj e))))]), HD.out.more nq⟩
        · have g1 : decide (j < N) = false := by simp; omega
          go_wp2_with fail
          go_quiet (fail)
          clear g1
          go_wp2_with fail
          go_ret
          have e1 := HL1.out
          have e2 := HL2.out
          have e3 := HN.out
          exact ⟨ret_int (by rw [pre_eq l1 l2 j (by omega) (by omega) HE.out (by omega)]), HD.out.more nq⟩
    · obtain ⟨h32, hE⟩ := HK.out rfl
      have HE2 := Lib.hid hE
      clear hE HK HE
      go_wp2_with fail
      go_roundw
      case rel => exact ⟨k + 32, h32, by go_num, HD2, HE2⟩
      case measure => simp [intOf]; omega
end Go.Proofs.YtbjjkhlebdaoaaaGreatDoor.MatC
end

section
/-
  The chains: from each place how far back the same three bytes stand.
-/
namespace Go.Proofs.YtbjjkhlebdaoaaaGreatDoor.MatC
open Go.RowKit Go.My MatMath Go.Maps

/-- Three bytes as one number. -/
def key (s : List UInt8) (a : Nat) : Nat := (at_ s a).toNat + 256 * (at_ s (a + 1)).toNat + 65536 * (at_ s (a + 2)).toNat
theorem key_lt (s : List UInt8) (a : Nat) : key s a < 16777216 := by
  unfold key
  have h1 := (at_ s a).toNat_lt
  have h2 := (at_ s (a + 1)).toNat_lt
  have h3 := (at_ s (a + 2)).toNat_lt
  omega
theorem key_tri (s : List UInt8) (q a : Nat) : tri s q a = true ↔ key s q = key s a := by
  rw [tri_iff]
  unfold key
  have h1 := (at_ s a).toNat_lt
  have h2 := (at_ s (a + 1)).toNat_lt
  have h3 := (at_ s (a + 2)).toNat_lt
  have g1 := (at_ s q).toNat_lt
  have g2 := (at_ s (q + 1)).toNat_lt
  have g3 := (at_ s (q + 2)).toNat_lt
  constructor
  · rintro ⟨e1, e2, e3⟩; rw [e1, e2, e3]
  · intro e
    refine ⟨UInt8.toNat_inj.1 (by omega), UInt8.toNat_inj.1 (by omega), UInt8.toNat_inj.1 (by omega)⟩
def kl (s : List UInt8) (a : Nat) : Lit := .int .u32 (key s a : Int)
theorem kl_key (s : List UInt8) (a : Nat) : WideAt.IsKeyLit (kl s a) := by
  simp [WideAt.IsKeyLit, kl]
theorem kl_tri (s : List UInt8) (q a : Nat) : tri s q a = true ↔ kl s a = kl s q := by
  rw [key_tri]
  unfold kl
  constructor
  · intro e; rw [e]
  · intro e; injection e with _ e; omega
section
variable {H : Type}
/-- The map behind k rounds. -/
def Ds (s : List UInt8) : Nat → DataW H
  | 0 => .map []
  | k + 1 => (Ds s k).put (kl s k) (.lit (.int .i64 (k : Int)))
theorem Ds_map (s : List UInt8) (k : Nat) : IsMap (Ds (H := H) s k) := by
  induction k with
  | zero => exact isMap_empty
  | succ k ih => exact ih.put _ _
theorem Ds_has (s : List UInt8) (a k : Nat) : has (Ds (H := H) s k) (kl s a) = (prev s a k).isSome := by
  induction k with
  | zero => rfl
  | succ k ih =>
    unfold prev
    show has ((Ds s k).put (kl s k) _) (kl s a) = _
    by_cases h : tri s k a = true
    · rw [if_pos h, (kl_tri s k a).1 h, has_put_same (Ds_map s k) (kl_key s k)]; rfl
    · rw [if_neg h, has_put_other (fun e => h ((kl_tri s k a).2 e)), ih]
theorem Ds_at (s : List UInt8) (a k : Nat) (z : DataW H) : (Ds s k).atKey (kl s a) z = match prev s a k with | some e => .lit (.int .i64 (e : Int)) | none => z := by
  induction k with
  | zero => rfl
  | succ k ih =>
    unfold prev
    show ((Ds s k).put (kl s k) _).atKey (kl s a) z = _
    by_cases h : tri s k a = true
    · rw [if_pos h, (kl_tri s k a).1 h, atKey_put_same (Ds_map s k) (kl_key s k)]
    · rw [if_neg h, atKey_put_other (fun e => h ((kl_tri s k a).2 e)), ih]
end
theorem law32 : Keyed Tryz.prog 63 := int_keyed Tryz.underlying63
theorem zero_int (w : World) : (zeroValue 3).run Tryz.prog w = .ok (.int .i64 0) w := by kernel_rfl
theorem info32 : (Tryz.prog.info? 21).map (fun i => (i.zero, i.size, i.bytes)) = some (some (.int .i32 0), 1, 4) := by kernel_rfl

/-- The row behind k of n rounds. -/
def bk (s : List UInt8) (far k i : Nat) : Value := .int .i32 (if i < k then (back s far i : Int) else 0)
def bks (s : List UInt8) (far n k : Nat) : List Value := (List.range n).map (bk s far k)
theorem bks_zero (s : List UInt8) (far n : Nat) : bks s far n 0 = List.replicate n (.int .i32 0) := by
  unfold bks
  apply List.ext_getElem
  · simp
  · intro i h1 h2
    simp [bk]
theorem bks_len (s : List UInt8) (far n k : Nat) : (bks s far n k).length = n := by simp [bks]
theorem bks_get (s : List UInt8) (far n k i : Nat) (hi : i < n) : (bks s far n k)[i]'(by rw [bks_len]; exact hi) = bk s far k i := by simp [bks]
theorem bks_set (s : List UInt8) (far n k : Nat) : (bks s far n k).set k (.int .i32 (back s far k : Int)) = bks s far n (k + 1) := by
  apply List.ext_getElem
  · simp [bks_len]
  · intro i h1 h2
    have hi : i < n := by rw [bks_len] at h2; exact h2
    rw [bks_get _ _ _ _ _ hi, List.getElem_set]
    split
    · next e => subst e; simp [bk]
    · next e => rw [bks_get _ _ _ _ _ hi]; unfold bk; congr 1; split <;> split <;> first | rfl | omega
theorem bks_same (s : List UInt8) (far n k : Nat) (h0 : back s far k = 0) : bks s far n k = bks s far n (k + 1) := by
  rw [← bks_set s far n k, h0]
  apply List.ext_getElem
  · simp [bks_len]
  · intro i h1 h2
    rw [List.getElem_set]
    have hi : i < n := by rw [bks_len] at h1; exact h1
    split
    · next e => subst e; rw [bks_get _ _ _ _ _ hi]; simp [bk]
    · rfl

theorem or_key (x y z : Nat) (hx : x < 2 ^ 8) (hy : y < 2 ^ 8) (hz : z < 2 ^ 8) : bits .or .u32 (bits .or .u32 (x : Int) ((y : Int) * 256)) ((z : Int) * 65536) = ((x + 256 * y + 65536 * z : Nat) : Int) := by
  have st : ∀ a c i : Nat, a < 2 ^ i → a + 2 ^ i * c < 4294967296 → bits .or .u32 (a : Int) ((2 ^ i * c : Nat) : Int) = ((a + 2 ^ i * c : Nat) : Int) := by
    intro a c i ha hc
    show IntKind.u32.wrap ((BitVec.ofInt 32 (a : Int) ||| BitVec.ofInt 32 ((2 ^ i * c : Nat) : Int)).toNat : Int) = _
    rw [BitVec.toNat_or, BitVec.toNat_ofInt, BitVec.toNat_ofInt]
    have e1 : ((a : Int) % ((2 ^ 32 : Nat) : Int)).toNat = a := by omega
    have e2 : (((2 ^ i * c : Nat) : Int) % ((2 ^ 32 : Nat) : Int)).toNat = 2 ^ i * c := by generalize 2 ^ i * c = d at *; omega
    rw [e1, e2, Nat.or_comm, ← Nat.two_pow_add_eq_or_of_lt ha c, IntWalk.u32_in _ (by generalize 2 ^ i * c = d at *; omega)]
    rw [Nat.add_comm]
  have h1 := st x y 8 (by omega) (by omega)
  have h2 := st (x + 2 ^ 8 * y) z 16 (by omega) (by omega)
  rw [show (y : Int) * 256 = ((2 ^ 8 * y : Nat) : Int) by omega, show (z : Int) * 65536 = ((2 ^ 16 * z : Nat) : Int) by omega, h1, h2]
/-- Where the loop stands behind k rounds. -/
structure Ch (w wr : World) (G M n far k : Nat) (s : List UInt8) : Prop where
  own : OwnV 21 w.heap.size wr (.slice (some ⟨G, 0, none⟩) n n) (bks s far n k)
  map : wr.ownsMap Tryz.prog 63 (plainElem (H := Unit) Tryz.prog 3) M k (Ds s k)
  below : Below w.heap.size w wr
  ne : M ≠ G
  base : w.heap.size ≤ G ∧ w.heap.size ≤ M
theorem Ch.drew {w wr : World} {G M n far k : Nat} {s : List UInt8} (h : Ch w wr G M n far k s) (j : Nat) : Ch w (wr.drewN j) G M n far k s :=
  ⟨h.own.below (Nat.le_refl _) (quiet_below wr j), by have := h.map.kept (w' := wr.drewN j) (row := none) ⟨rfl, rfl, rfl, Nat.le_refl _, fun _ _ _ => rfl⟩ (by simp); exact this, h.below.trans ((quiet_below wr j).mono h.below.size), h.ne, h.base⟩
theorem Ch.next {w wr w2 : World} {G M n far k : Nat} {s : List UInt8} (h : OwnV 21 w.heap.size wr (.slice (some ⟨G, 0, none⟩) n n) (bks s far n (k + 1))) (hb : Below w.heap.size w wr) (ne : M ≠ G) (base : w.heap.size ≤ G ∧ w.heap.size ≤ M)
    (hm : w2.ownsMap Tryz.prog 63 (plainElem (H := Unit) Tryz.prog 3) M (k + 1) ((Ds s k).put (kl s k) (.lit (.int .i64 (k : Int))))) (hg : wr.grownBy w2 (some M)) : Ch w w2 G M n far (k + 1) s :=
  ⟨h.kept hg (.inr (fun e => ne (by injection e with e; exact e.symm))), hm, hb.grown hg hb.size (fun j hj => by cases hj; exact base.2), ne, base⟩

set_option maxRecDepth 100000 in
set_option maxHeartbeats 4000000 in
theorem chains_any {a : Option Addr} {len cap : Nat} {s : List UInt8} (w : World) (hb : Bytes w a len cap s) (hlen : len ≤ 1000000000) (far : Nat) :
    Calls Tryz.prog 78 #[.slice a len cap, .int .i64 (far : Int)] w fun e w' => ∃ g, e = .returned (.slice (some ⟨g, 0, none⟩) (len - 2) (len - 2)) ∧ OwnV 21 w.heap.size w' (.slice (some ⟨g, 0, none⟩) (len - 2) (len - 2)) (bks s far (len - 2) (len - 2)) ∧ Below w.heap.size w w' := by
  have HB := Lib.hid hb
  have hcl := hb.le_cap
  have hcm := hb.cap_le
  have HL := Lib.hid hb.len_eq
  clear hb
  obtain ⟨n, hn⟩ : ∃ n, n = len - 2 := ⟨_, rfl⟩
  rw [← hn]
  have hmk := @run_makeMap Tryz.prog
  have hmax : (if (0 : Int) < (len : Int) - 3 + 1 then (len : Int) - 3 + 1 else 0) = (n : Int) := by split <;> omega
  have hnl : n ≤ len := by omega
  have hn2 : n = 0 ∨ n + 2 = len := by omega
  clear hn
  go_enter Tryz.func78, Tryz.ntmps78
  go_upto_region 1 with (fail)
  go_wp2_with (at_make; refine wpList_make_row _ rfl _ _ 128 rfl w.heap.size 21 (.int .i32 0) 4 Tryz.underlying128 info32 rfl .i64 .i64 n rfl rfl (by omega) (by omega) (Nat.le_refl _) ?_)
  intro w1 hown hg
  have hlt : w.heap.size < w1.heap.size := hown.lt _ rfl
  have HS : Hid (Ch w (w1.alloc (.map #[] 0)) w.heap.size w1.heap.size n far 0 s) := Lib.hid ⟨by rw [bks_zero]; exact hown.kept (World.grownBy_alloc w1 _ none) (.inr (by simp [Value.ownBlock])), World.ownsMap_made _ _ _ _, ((Below.refl _ w).grown hg (Nat.le_refl _) (fun k hk => by cases hk)).alloc (by omega) _, by omega, by omega, by omega⟩
  clear hown hg hmax
  have hG : w.heap.size < w1.heap.size := hlt
  clear hlt
  generalize w.heap.size = G at *
  go_wp2_with fail
  obtain ⟨M, hM⟩ : ∃ M, M = w1.heap.size := ⟨_, rfl⟩
  rw [← hM] at HS ⊢
  clear hM
  go_loopw [20] (fun v wr => ∃ k : Nat, k ≤ n ∧ v = .int .i64 (k : Int) ∧ Hid (Ch w wr G M n far k s)) (fun v _ => n - (intOf v).toNat)
  case atStart => exact ⟨0, Nat.zero_le _, rfl, HS⟩
  case round =>
    clear HS
    obtain ⟨k, hk, rfl, HS⟩ := hrel
    by_cases hlt : k < n
    · have hkl : k + 2 < s.length := by rw [HL.out]; omega
      obtain ⟨b, off, rfl⟩ := HB.out.some_ (by omega)
      have HBr := Lib.hid (HB.out.below (Nat.le_refl _) HS.out.below)
      have x0 := byte_at HBr.out k (by omega)
      have x1 := byte_at HBr.out (k + 1) (by omega)
      have x2 := byte_at HBr.out (k + 2) (by omega)
      have k0 : at_ s k = s[k] := by simp [at_, List.getD_eq_getElem?_getD, List.getElem?_eq_getElem (show k < s.length by omega)]
      have k1 : at_ s (k + 1) = s[k + 1] := by simp [at_, List.getD_eq_getElem?_getD, List.getElem?_eq_getElem (show k + 1 < s.length by omega)]
      have k2 : at_ s (k + 2) = s[k + 2] := by simp [at_, List.getD_eq_getElem?_getD, List.getElem?_eq_getElem (show k + 2 < s.length by omega)]
      rw [← k0] at x0
      rw [← k1] at x1
      rw [← k2] at x2
      have HK : Hid (key s k = (at_ s k).toNat + 256 * (at_ s (k + 1)).toNat + 65536 * (at_ s (k + 2)).toNat) := Lib.hid rfl
      clear k0 k1 k2
      have c0 := (at_ s k).toNat_lt
      have c1 := (at_ s (k + 1)).toNat_lt
      have c2 := (at_ s (k + 2)).toNat_lt
      generalize (at_ s k).toNat = y0 at *
      generalize (at_ s (k + 1)).toNat = y1 at *
      generalize (at_ s (k + 2)).toNat = y2 at *
      have ek := or_key y0 y1 y2 c0 c1 c2
      have hK : y0 + 256 * y1 + 65536 * y2 = key s k := HK.out.symm
      rw [hK] at ek
      have hkb := key_lt s k
      have hkw : Hid ((Lit.int .u32 ((key s k : Nat) : Int)).wf = true) := Lib.hid (by simp [Lit.wf, IntKind.min, IntKind.max, IntKind.bits, IntKind.signed]; omega)
      have hkey : Hid (keyOf Tryz.prog 63 (.int .u32 ((key s k : Nat) : Int)) = some (kl s k)) := Lib.hid (keyOf_int_mk Tryz.underlying63 hkw.out)
      clear hK HK hkw
      generalize key s k = K at *
      have g1 : decide (k < n) = true := by simp; omega
      have e1 : IntKind.i64.wrap ((k : Int) + 1) = (k : Int) + 1 := IntWalk.i64_in _ (by omega)
      have e2 : IntKind.i64.wrap ((k : Int) + 2) = (k : Int) + 2 := IntWalk.i64_in _ (by omega)
      have e3 : ((k : Int) + 1).toNat = k + 1 := by omega
      have e4 : ((k : Int) + 2).toNat = k + 2 := by omega
      have f1 : (0 : Int) ≤ (k : Int) + 1 := by omega
      have f2 : (0 : Int) ≤ (k : Int) + 2 := by omega
      have f3 : (k : Int) + 1 < (len : Int) := by omega
      have f4 : (k : Int) + 2 < (len : Int) := by omega
      have f5 : k < len := by omega
      go_upto_region 6 with (fail)
      go_quiet (fail)
      have HS2 := Lib.hid (HS.out.drew nq)
      clear HS x0 x1 x2 c0 c1 c2 ek e1 e2 e3 e4 f1 f2 f3 f4 f5 g1 HBr hkb
      generalize wr.drewN nq = w2 at *
      have HMP := Lib.hid HS2.out.map
      go_upto_region 7 with (fail)
      go_wp2_with (at_lookup; refine wpList_lookup_own_ok_int _ rfl _ _ 152 rfl 63 3 .i64 law32 Tryz.underlying152 Tryz.underlying3 (zero_int _) M k (Ds s k) rfl HMP.out _ (kl s k) rfl hkey.out ?_)
      intro c hat hwc
      rw [Ds_at] at hat
      rw [Ds_has]
      have hbk : back s far k = match prev s k k with | none => 0 | some e => if k - e ≤ far then k - e else 0 := rfl
      cases hp : prev s k k with
      | none =>
        rw [hp] at hat hbk
        obtain rfl : c = 0 := by injection hat with hat; injection hat with _ hat; exact hat.symm
        simp only [Option.isSome_none]
        have HB0 : Hid (bks s far n k = bks s far n (k + 1)) := Lib.hid (bks_same s far n k hbk)
        clear hat hwc hbk hp
        go_wp2_with (at_mapUpdate; refine wpList_mapUpdate_own _ rfl _ _ _ 152 rfl 63 3 law32 Tryz.underlying152 _ M k _ rfl HMP.out (by unfold maxLen; omega) _ _ (kl s k) rfl rfl hkey.out _ [] (plainElem_int Tryz.underlying3 (WalkArith.wf_i64 (by omega))) ?_)
        intro w3 hm3 hg3
        have HS3 : Hid (Ch w w3 G M n far (k + 1) s) := Lib.hid (Ch.next (by rw [← HB0.out]; exact HS2.out.own) HS2.out.below HS2.out.ne HS2.out.base hm3 hg3)
        clear HS2 HMP hm3 hg3 HB0 hkey
        go_wp2_with fail
        go_roundw
        case rel => exact ⟨k + 1, by omega, by go_num, HS3⟩
        case measure => simp [intOf]; omega
      | some e =>
        obtain ⟨hek, _, _⟩ := prev_some _ hp
        rw [hp] at hat hbk
        obtain rfl : c = (e : Int) := by injection hat with hat; injection hat with _ hat; exact hat.symm
        simp only [Option.isSome_some]
        clear hat hwc hp
        by_cases hle : k - e ≤ far
        · have hbk2 : back s far k = k - e := by rw [hbk]; exact if_pos hle
          have hsub : ((back s far k : Nat) : Int) = (k : Int) - (e : Int) := by omega
          have hst := HS2.out.own.store (bks_len _ _ _ _) k (.int .i32 (back s far k : Int))
          rw [bks_set] at hst
          rw [hsub] at hst
          have HST := Lib.hid hst
          have hfr := HS2.out.own.free (bks_len _ _ _ _) k
          have hce := HS2.out.own.cell (bks_len _ _ _ _) k (by rw [bks_len]; exact hlt)
          have HM3 : Hid ((w2.setCell ⟨G, k, none⟩ (.int .i32 ((k : Int) - (e : Int)))).ownsMap Tryz.prog 63 (plainElem (H := Unit) Tryz.prog 3) M k (Ds s k)) := Lib.hid (HS2.out.map.setCell HS2.out.ne _)
          have HB3 : Hid (Below w.heap.size w (w2.setCell ⟨G, k, none⟩ (.int .i32 ((k : Int) - (e : Int))))) := Lib.hid (HS2.out.below.setCell HS2.out.base.1 _)
          clear hst hbk hbk2 hsub
          generalize (bks s far n k)[k]'(by rw [bks_len]; exact hlt) = x at *
          have g1 : decide ((k : Int) - (e : Int) ≤ (far : Int)) = true := by simp; omega
          go_upto_region 10 with (fail)
          clear hce hfr g1
          generalize w2.setCell ⟨G, k, none⟩ (.int .i32 ((k : Int) - (e : Int))) = w4 at *
          go_wp2_with (at_mapUpdate; refine wpList_mapUpdate_own _ rfl _ _ _ 152 rfl 63 3 law32 Tryz.underlying152 _ M k _ rfl HM3.out (by unfold maxLen; omega) _ _ (kl s k) rfl rfl hkey.out _ [] (plainElem_int Tryz.underlying3 (WalkArith.wf_i64 (by omega))) ?_)
          intro w3 hm3 hg3
          have HS3 : Hid (Ch w w3 G M n far (k + 1) s) := Lib.hid (Ch.next HST.out HB3.out HS2.out.ne HS2.out.base hm3 hg3)
          clear HS2 HMP hm3 hg3 HST HB3 HM3 hkey
          go_wp2_with fail
          go_roundw
          case rel => exact ⟨k + 1, by omega, by go_num, HS3⟩
          case measure => simp [intOf]; omega
        · have hbk2 : back s far k = 0 := by rw [hbk]; exact if_neg hle
          have HB0 : Hid (bks s far n k = bks s far n (k + 1)) := Lib.hid (bks_same s far n k hbk2)
          have g1 : decide ((k : Int) - (e : Int) ≤ (far : Int)) = false := by simp; omega
          clear hbk hbk2
          go_wp2_with (at_mapUpdate; refine wpList_mapUpdate_own _ rfl _ _ _ 152 rfl 63 3 law32 Tryz.underlying152 _ M k _ rfl HMP.out (by unfold maxLen; omega) _ _ (kl s k) rfl rfl hkey.out _ [] (plainElem_int Tryz.underlying3 (WalkArith.wf_i64 (by omega))) ?_)
          intro w3 hm3 hg3
          have HS3 : Hid (Ch w w3 G M n far (k + 1) s) := Lib.hid (Ch.next (by rw [← HB0.out]; exact HS2.out.own) HS2.out.below HS2.out.ne HS2.out.base hm3 hg3)
          clear HS2 HMP hm3 hg3 HB0 hkey g1
          go_wp2_with fail
          go_roundw
          case rel => exact ⟨k + 1, by omega, by go_num, HS3⟩
          case measure => simp [intOf]; omega
    · obtain rfl : k = n := by omega
      go_wp2_with fail
      go_ret
      exact ⟨G, rfl, HS.out.own, HS.out.below⟩
end Go.Proofs.YtbjjkhlebdaoaaaGreatDoor.MatC
end

section
/-
  Regions that draw their order, whose own operations only read, and whose callees may make memory: one walk in the order of the text, in the class of the worlds that keep all that was there. No program, no dump.
-/
namespace Go.My
open Go.RowKit

/-- A world that has come of w, all that was there kept. -/
structure Later (w : World) where
  at' : World
  kept : Below w.heap.size w at'

instance {w : World} : Inhabited (Later w) := ⟨⟨w, Below.refl _ w⟩⟩

end Go.My
end

section
/-
  A Finder in memory; finder, New.
-/
namespace Go.Proofs.YtbjjkhlebdaoaaaGreatDoor.MatC
open Go.RowKit Go.My MatMath

/-- A Finder's eight cells. -/
def fc (a : Option Addr) (n c : Nat) (store : Bool) (chain : Int) (lazy : Bool) (good : Int) (wide : Bool) (G m : Nat) : Array Value :=
  #[.slice a n c, .bool store, .int .i64 chain, .bool lazy, .int .i64 good, .int .i64 ((long_ wide : Nat) : Int), .int .i64 ((far_ wide : Nat) : Int), .slice (some ⟨G, 0, none⟩) m m]
/-- Block g holds a Finder for s. -/
structure Fnd (w : World) (g : Nat) (store : Bool) (chain : Int) (lazy : Bool) (good : Int) (wide : Bool) (s : List UInt8) : Prop where
  ex : ∃ a c G, Blk w g 130 (fc a s.length c store chain lazy good wide G (s.length - 2)) ∧ Bytes w a s.length c s ∧ RowIn w (some ⟨G, 0, none⟩) (s.length - 2) (s.length - 2) (bks s (far_ wide) (s.length - 2) (s.length - 2))
  len : s.length ≤ 1000000000
theorem Fnd.below {w w' : World} {g : Nat} {store : Bool} {chain : Int} {lazy : Bool} {good : Int} {wide : Bool} {s : List UInt8} (h : Fnd w g store chain lazy good wide s) (hb : Below w.heap.size w w') : Fnd w' g store chain lazy good wide s := by
  obtain ⟨⟨a, c, G, h1, h2, h3⟩, h4⟩ := h
  exact ⟨⟨a, c, G, (hb.block g h1.lt).trans h1, h2.below (Nat.le_refl _) hb, h3.below (Nat.le_refl _) hb⟩, h4⟩
theorem Fnd.lt {w : World} {g : Nat} {store : Bool} {chain : Int} {lazy : Bool} {good : Int} {wide : Bool} {s : List UInt8} (h : Fnd w g store chain lazy good wide s) : g < w.heap.size := by
  obtain ⟨⟨a, c, G, h1, _, _⟩, _⟩ := h
  exact h1.lt
/-- A Plan by value. -/
def pv (store : Bool) (chain : Int) (lazy : Bool) (good : Int) : Value := .agg #[.bool store, .int .i64 chain, .bool lazy, .int .i64 good]

set_option maxRecDepth 100000 in
set_option maxHeartbeats 4000000 in
theorem finder_any {a : Option Addr} {cap : Nat} {s : List UInt8} (store : Bool) (chain : Int) (lazy : Bool) (good : Int) (wide : Bool) (w : World) (hb : Bytes w a s.length cap s) (hlen : s.length ≤ 1000000000) :
    Calls Tryz.prog 48 #[.slice a s.length cap, pv store chain lazy good, .bool wide] w fun e w' => ∃ g, e = .returned (.pointer (some ⟨g, 0, none⟩)) ∧ Fnd w' g store chain lazy good wide s ∧ Below w.heap.size w w' ∧ w.heap.size ≤ g := by
  have HB := Lib.hid hb
  clear hb
  unfold pv
  cases wide
  · go_enter Tryz.func48, Tryz.ntmps48
    go_wp2_with fail
    obtain ⟨W, hW⟩ : ∃ W, W = (w.alloc (.cells #[.bool store, .int .i64 chain, .bool lazy, .int .i64 good] 35)).alloc (.cells #[.slice a s.length cap, .bool store, .int .i64 chain, .bool lazy, .int .i64 good, .int .i64 258, .int .i64 32768, .slice none 0 0] 130) := ⟨_, rfl⟩
    rw [← hW]
    have hbl : Below w.heap.size w W := by rw [hW]; exact ((Below.refl _ w).alloc (Nat.le_refl _) _).alloc (by simp) _
    have HK : Hid (Blk W (w.heap.size + 1) 130 #[.slice a s.length cap, .bool store, .int .i64 chain, .bool lazy, .int .i64 good, .int .i64 258, .int .i64 32768, .slice none 0 0]) := Lib.hid (by
      rw [hW]
      have := Blk.new (w.alloc (.cells #[.bool store, .int .i64 chain, .bool lazy, .int .i64 good] 35)) 130 #[.slice a s.length cap, .bool store, .int .i64 chain, .bool lazy, .int .i64 good, .int .i64 258, .int .i64 32768, .slice none 0 0]
      rw [World.size_alloc] at this
      exact this)
    have hsz : W.heap.size = w.heap.size + 2 := by rw [hW]; simp
    have HBW := Lib.hid (HB.out.below (Nat.le_refl _) hbl)
    have HBL := Lib.hid hbl
    clear hW hbl
    refine (chains_any W HBW.out hlen 32768).mono ?_
    rintro e w3 ⟨G, rfl, hown, hb3⟩
    have HK3 : Hid (Blk w3 (w.heap.size + 1) 130 #[.slice a s.length cap, .bool store, .int .i64 chain, .bool lazy, .int .i64 good, .int .i64 258, .int .i64 32768, .slice none 0 0]) := Lib.hid ((hb3.block _ (by omega)).trans HK.out)
    have HO := Lib.hid hown
    have HL3 := Lib.hid (HBL.out.trans (hb3.mono HBL.out.size))
    have hGg : G ≠ w.heap.size + 1 := by have := hown.base G rfl; omega
    have x7 : w3.cell? ⟨w.heap.size + 1, 7, none⟩ = some (.slice none 0 0) := HK3.out.cell 7
    have y7 : w3.frozen? ⟨w.heap.size + 1, 7, none⟩ = false := HK3.out.frozen 7
    have hg2 : w.heap.size ≤ w.heap.size + 1 := by omega
    generalize w.heap.size + 1 = g at *
    clear HBW HK hown hb3
    go_wp2_with fail
    go_ret
    refine ⟨g, rfl, ⟨⟨a, cap, G, HK3.out.set_ 7 _, ?_, ?_⟩, hlen⟩, HL3.out.setCell hg2 _, hg2⟩
    · exact HB.out.below (Nat.le_refl _) (HL3.out.setCell hg2 _)
    · exact (HO.out.only (Only.setCell (S := fun k => k = g) (Only.refl _ w3) (p := ⟨g, 7, none⟩) (fun _ => rfl) _) (fun k hk => by simp only [Value.ownBlock, Option.some.injEq] at hk; subst hk; exact hGg)).rowIn (bks_len _ _ _ _)
  · go_enter Tryz.func48, Tryz.ntmps48
    go_wp2_with fail
    obtain ⟨W, hW⟩ : ∃ W, W = (w.alloc (.cells #[.bool store, .int .i64 chain, .bool lazy, .int .i64 good] 35)).alloc (.cells #[.slice a s.length cap, .bool store, .int .i64 chain, .bool lazy, .int .i64 good, .int .i64 65538, .int .i64 65536, .slice none 0 0] 130) := ⟨_, rfl⟩
    rw [← hW]
    have hbl : Below w.heap.size w W := by rw [hW]; exact ((Below.refl _ w).alloc (Nat.le_refl _) _).alloc (by simp) _
    have HK : Hid (Blk W (w.heap.size + 1) 130 #[.slice a s.length cap, .bool store, .int .i64 chain, .bool lazy, .int .i64 good, .int .i64 65538, .int .i64 65536, .slice none 0 0]) := Lib.hid (by
      rw [hW]
      have := Blk.new (w.alloc (.cells #[.bool store, .int .i64 chain, .bool lazy, .int .i64 good] 35)) 130 #[.slice a s.length cap, .bool store, .int .i64 chain, .bool lazy, .int .i64 good, .int .i64 65538, .int .i64 65536, .slice none 0 0]
      rw [World.size_alloc] at this
      exact this)
    have hsz : W.heap.size = w.heap.size + 2 := by rw [hW]; simp
    have HBW := Lib.hid (HB.out.below (Nat.le_refl _) hbl)
    have HBL := Lib.hid hbl
    clear hW hbl
    refine (chains_any W HBW.out hlen 65536).mono ?_
    rintro e w3 ⟨G, rfl, hown, hb3⟩
    have HK3 : Hid (Blk w3 (w.heap.size + 1) 130 #[.slice a s.length cap, .bool store, .int .i64 chain, .bool lazy, .int .i64 good, .int .i64 65538, .int .i64 65536, .slice none 0 0]) := Lib.hid ((hb3.block _ (by omega)).trans HK.out)
    have HO := Lib.hid hown
    have HL3 := Lib.hid (HBL.out.trans (hb3.mono HBL.out.size))
    have hGg : G ≠ w.heap.size + 1 := by have := hown.base G rfl; omega
    have x7 : w3.cell? ⟨w.heap.size + 1, 7, none⟩ = some (.slice none 0 0) := HK3.out.cell 7
    have y7 : w3.frozen? ⟨w.heap.size + 1, 7, none⟩ = false := HK3.out.frozen 7
    have hg2 : w.heap.size ≤ w.heap.size + 1 := by omega
    generalize w.heap.size + 1 = g at *
    clear HBW HK hown hb3
    go_wp2_with fail
    go_ret
    refine ⟨g, rfl, ⟨⟨a, cap, G, HK3.out.set_ 7 _, ?_, ?_⟩, hlen⟩, HL3.out.setCell hg2 _, hg2⟩
    · exact HB.out.below (Nat.le_refl _) (HL3.out.setCell hg2 _)
    · exact (HO.out.only (Only.setCell (S := fun k => k = g) (Only.refl _ w3) (p := ⟨g, 7, none⟩) (fun _ => rfl) _) (fun k hk => by simp only [Value.ownBlock, Option.some.injEq] at hk; subst hk; exact hGg)).rowIn (bks_len _ _ _ _)
end Go.Proofs.YtbjjkhlebdaoaaaGreatDoor.MatC
end
