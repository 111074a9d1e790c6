import Derived.Test.YtdbcendnibgcaaaGreatDoorMgAb
import Derived.Test.YtdbcendnibgcaaaGreatDoorRows
import Derived.Test.YtdbcendnibgcaaaGreatDoorMgAa
import Derived.Laws.Pointers
import Derived.Deep.QuietTactic
import Derived.BigQuiet
import Derived.StillTailTactics
import Derived.Test.YtdbcendnibgcaaaGreatDoorMgAi
import Derived.Deep.DeepCutAuto
import Derived.Deep.CutBlock
import Derived.Test.YtdbcendnibgcaaaGreatDoorMgAr

section
/-
  The document's own answer for bits (stevedoreref5): Number alone (R5's).
-/
namespace Go.Proofs.YtdbcendnibgcaaaGreatDoor.RefC
open Go.RowKit Go.My BitMath

theorem num_drop (L : List Bool) (p : Nat) (h : p < L.length) : num (L.drop p) = (L[p]).toNat + 2 * num (L.drop (p + 1)) := by
  rw [List.drop_eq_getElem_cons h]; rfl
theorem u32_shl (x b : Nat) (hx : x < 2147483648) (hb : b ≤ 1) : bits .or .u32 ((x : Int) * 2) ((((48 + b : Nat) : Int) - 48) % 256) = ((b + 2 * x : Nat) : Int) := by
  have hb2 : b < 2 ^ 1 := by omega
  rw [show (x : Int) * 2 = ((x * 2 : Nat) : Int) from by omega, show (((48 + b : Nat) : Int) - 48) % 256 = (b : Int) from by omega, u32_or_nat _ _ (by omega) (by omega), Nat.or_comm, show x * 2 = x * 2 ^ 1 from rfl, or_join 1 b x hb2]

set_option maxHeartbeats 2000000 in
theorem refnumber_any (L : List Bool) (w : World) (hl : L.length ≤ 32) :
    Calls Tryz.prog 64 #[.string (txt L)] w fun e w' => e = .returned (.int .u32 ((num L : Nat) : Int)) ∧ w = w' := by
  have htl := txt_len L
  obtain ⟨s, hs⟩ : ∃ s, s = txt L := ⟨_, rfl⟩
  have hg : ∀ k (h : k < L.length) (h2 : k < s.size), s[k] = chB L[k] := by
    subst hs; intro k h h2; exact txt_get L k h2
  rw [← hs] at htl ⊢
  have HG := Lib.hid hg
  have HTL := Lib.hid htl
  have hsz : s.size ≤ 32 := by omega
  clear hg hs htl
  go_enter Tryz.func64, Tryz.ntmps64
  go_wp2_with fail
  go_loop [3, 4] (fun x i => ∃ (p : Nat), p ≤ s.size ∧ i = .int .i64 ((p : Int) - 1) ∧ x = .int .u32 ((num (L.drop p) : Nat) : Int)) (fun _ i => (intOf i + 1).toNat)
  case atStart => exact ⟨s.size, Nat.le_refl _, rfl, by rw [List.drop_of_length_le (by rw [HTL.out]; omega)]; rfl⟩
  case round =>
    obtain ⟨p, hp, rfl, rfl⟩ := hrel
    by_cases hlt : 0 < p
    · obtain ⟨q, rfl⟩ : ∃ q, p = q + 1 := ⟨p - 1, by omega⟩
      have hqL : q < L.length := by have := HTL.out; omega
      have hqs : q < s.size := by omega
      have hs1 := HG.out q hqL hqs
      have HD := Lib.hid (num_drop L q hqL)
      obtain ⟨b, hb⟩ : ∃ b, b = L[q] := ⟨_, rfl⟩
      rw [← hb] at hs1 HD
      have hb1 : b.toNat ≤ 1 := Bool.toNat_le b
      have hcb := chB_nat b
      have hx : num (L.drop (q + 1)) < 2147483648 := Nat.lt_of_lt_of_le (num_lt _) (by rw [show 2147483648 = 2 ^ 31 from rfl]; exact Nat.pow_le_pow_right (by omega) (by simp; omega))
      have hor := u32_shl _ b.toNat hx hb1
      rw [← hcb] at hor
      have HOR := Lib.hid hor
      generalize num (L.drop (q + 1)) = x at *
      clear hb hb1 hcb hor
      have hcv : ((chB b).toNat : Int) < 256 := by have := (chB b).toNat_lt; omega
      go_wp2_with fail
      go_round
      case rel => exact ⟨q, by omega, rfl, by rw [HOR.out, HD.out]⟩
      case measure => simp [intOf]
    · obtain rfl : p = 0 := by omega
      go_wp2_with fail
      go_ret
      exact ⟨rfl, rfl⟩
end Go.Proofs.YtdbcendnibgcaaaGreatDoor.RefC
end

section
/-
  The document's own inflate (stevedoreref12): its X in memory; look.
-/
namespace Go.Proofs.YtdbcendnibgcaaaGreatDoor.RfC
open Go.RowKit Go.My BitMath RefC

/-- The cells of an X. -/
def xc (a : Option Addr) (len cap p : Nat) (ov : Value) (wide : Bool) (S most code : Nat) : Array Value := #[.slice a len cap, .int .i64 (p : Int), ov, .bool wide, .int .i64 (S : Int), .int .i64 (most : Int), .int .i64 (code : Int)]
/-- The document's machine in memory, over bytes that came in. -/
structure XAt (w0 w : World) (g : Nat) (a : Option Addr) (len cap : Nat) (l : List UInt8) (p : Nat) (ov : Value) (out : List UInt8) (wide : Bool) (S most code : Nat) (R : List (Nat × TypeId × Array Value)) : Prop where
  blk : Blk w g 76 (xc a len cap p ov wide S most code)
  own : Own 5 w0.heap.size w ov out
  base : w0.heap.size ≤ g
  byt : Bytes w0 a len cap l
  below : Below w0.heap.size w0 w
  lt : p ≤ 8 * len
  short : len ≤ 100000000
  rows : ∀ x ∈ R, Blk w x.1 x.2.1 x.2.2 ∧ x.2.1 ≠ 76 ∧ x.2.1 ≠ 5
theorem u8_bit (c : UInt8) (m : Nat) : bits .and .u8 ((c.toNat : Int) / 2 ^ m) 1 = (((c.toNat / 2 ^ m % 2 == 1).toNat : Nat) : Int) := by
  rw [bit_nat]
  have e : (c.toNat : Int) / 2 ^ m = ((c.toNat / 2 ^ m : Nat) : Int) := by push_cast; rfl
  have hd := Nat.div_le_self c.toNat (2 ^ m)
  have := c.toNat_lt
  rw [e, show (1 : Int) = ((1 : Nat) : Int) from rfl, u8_and_nat _ _ (by omega) (by omega), Nat.and_one_is_mod]
section
variable {w0 w : World} {g : Nat} {a : Option Addr} {len cap : Nat} {l : List UInt8} {p : Nat} {ov : Value} {out : List UInt8} {wide : Bool} {S most code : Nat} {R : List (Nat × TypeId × Array Value)}
theorem look_step (l : List UInt8) (q i K : Nat) (hK : q + i = K) (h : K / 8 < l.length) : ((bitsOf l).drop q).take (i + 1) = ((bitsOf l).drop q).take i ++ [(l[K / 8]).toNat / 2 ^ (K % 8) % 2 == 1] := by
  subst hK
  have hl : i < ((bitsOf l).drop q).length := by rw [List.length_drop, bitsOf_len]; omega
  rw [List.take_succ_eq_append_getElem hl]
  congr 1
  have hg := bitsOf_get l (q + i) (by omega)
  rw [List.getElem_drop]
  rw [List.getElem?_eq_getElem (by rw [bitsOf_len]; omega)] at hg
  injection hg with hg
  rw [hg]
theorem look_all (l : List UInt8) (q i n : Nat) (h : 8 * l.length ≤ q + i) (hi : i ≤ n) : ((bitsOf l).drop q).take n = ((bitsOf l).drop q).take i := by
  rw [List.take_of_length_le (by rw [List.length_drop, bitsOf_len]; omega), List.take_of_length_le (by rw [List.length_drop, bitsOf_len]; omega)]

theorem below_drewN {B : Nat} {a W : World} (h : Below B a W) (q : Nat) : Below B a (W.drewN q) := ⟨h.os, h.tape, h.output, h.size, h.block⟩
theorem Bytes_drewN {W : World} {a : Option Addr} {n c : Nat} {l : List UInt8} (h : Bytes W a n c l) (q : Nat) : Bytes (W.drewN q) a n c l := ⟨h.1, h.2, h.3, h.4, h.5⟩
set_option maxRecDepth 100000 in
set_option maxHeartbeats 4000000 in
theorem look_any (f n : Nat) (h : Hid (XAt w0 w g a len cap l p ov out wide S most code R)) (hf : f ≤ 1000000) (hn : n ≤ 1000000) :
    Calls Tryz.prog 63 #[.pointer (some ⟨g, 0, none⟩), .int .i64 (f : Int), .int .i64 (n : Int)] w fun e w' => e = .returned (.string (txt (((bitsOf l).drop (p + f)).take n))) ∧ Below w.heap.size w w' := by
  have hp := h.out.lt
  have hs := h.out.short
  have HLE := Lib.hid h.out.byt.len_eq
  have hgw := h.out.blk.lt
  have HX : Hid (w.cell? ⟨g, 0, none⟩ = some (.slice a len cap) ∧ w.cell? ⟨g, 1, none⟩ = some (.int .i64 (p : Int))) := Lib.hid ⟨h.out.blk.cell 0, h.out.blk.cell 1⟩
  obtain ⟨A, hA⟩ : ∃ A, A = p + f := ⟨_, rfl⟩
  rw [← hA]
  have hAI : (p : Int) + (f : Int) = (A : Int) := by omega
  have hA2 : A ≤ 801000000 := by omega
  have HA := Lib.hid hA
  clear hA
  go_enter Tryz.func63, Tryz.ntmps63
  go_wp2_with fail
  go_loopw [7, 8] (fun sv iv wr => ∃ i : Nat, i ≤ n ∧ iv = .int .i64 (i : Int) ∧ Hid (Own 5 w.heap.size wr sv ((((bitsOf l).drop A).take i).map chB)) ∧ Hid (Below w.heap.size w wr)) (fun _ iv _ => n - (intOf iv).toNat)
  case atStart => exact ⟨0, Nat.zero_le _, rfl, Lib.hid (by simpa using Own.nil _ _ _), Lib.hid (Below.refl _ _)⟩
  case round =>
    obtain ⟨i, hi, rfl, HO, HB⟩ := hrel
    have x0 : wr.cell? ⟨g, 0, none⟩ = some (.slice a len cap) := (HB.out.cell (p := ⟨g, 0, none⟩) hgw).trans HX.out.1
    have x1 : wr.cell? ⟨g, 1, none⟩ = some (.int .i64 (p : Int)) := (HB.out.cell (p := ⟨g, 1, none⟩) hgw).trans HX.out.2
    obtain ⟨K, hK⟩ : ∃ K, K = A + i := ⟨_, rfl⟩
    have hKI : (A : Int) + (i : Int) = (K : Int) := by omega
    have hK2 : K ≤ 802000000 := by omega
    obtain ⟨E, hE⟩ : ∃ E, E = 8 * len := ⟨_, rfl⟩
    have hEI : (8 : Int) * (len : Int) = (E : Int) := by omega
    have hw1 : IntKind.i64.wrap ((p : Int) + (f : Int)) = (A : Int) := by rw [hAI]; exact IntWalk.i64_in _ (by omega)
    have hw2 : IntKind.i64.wrap ((A : Int) + (i : Int)) = (K : Int) := by rw [hKI]; exact IntWalk.i64_in _ (by omega)
    have hw3 : IntKind.i64.wrap ((8 : Int) * (len : Int)) = (E : Int) := by rw [hEI]; exact IntWalk.i64_in _ (by omega)
    have HK := Lib.hid (And.intro hK hE)
    by_cases hin : i < n
    · by_cases hlt : K < E
      · have hinI : decide ((i : Int) < (n : Int)) = true := by simp; omega
        have hltI : decide ((K : Int) < (E : Int)) = true := by simp; omega
        have h8 : K / 8 < len := by omega
        clear hK hE
        obtain ⟨b, off, rfl⟩ := h.out.byt.some_ (by omega)
        have hc0 : wr.cell? ⟨b, off + K / 8, none⟩ = some (.int .u8 ((l[K / 8]'(by rw [HLE.out]; exact h8)).toNat : Int)) := by
          rcases h.out.byt.at_ with h0 | ⟨b', off', ha, hs, hc⟩
          · omega
          · cases ha
            rw [HB.out.cell (p := ⟨b, off + K / 8, none⟩) (Nat.lt_of_lt_of_le hs h.out.below.size), h.out.below.cell (p := ⟨b, off + K / 8, none⟩) hs]
            exact hc (K / 8) (by rw [HLE.out]; exact h8)
        have HST := Lib.hid (look_step l A i K (by have := HK.out.1; omega) (by rw [HLE.out]; exact h8))
        go_wp2_with fail
        go_quiet (fail)
        have HO1 : Hid (Own 5 w.heap.size (wr.drewN nq) _ _) := HO
        have HB1 : Hid (Below w.heap.size w (wr.drewN nq)) := Lib.hid (below_drewN HB.out nq)
        have y0 : (wr.drewN nq).cell? ⟨g, 0, none⟩ = some (.slice (some ⟨b, off, none⟩) len cap) := x0
        have y1 : (wr.drewN nq).cell? ⟨g, 1, none⟩ = some (.int .i64 (p : Int)) := x1
        have yc : (wr.drewN nq).cell? ⟨b, off + K / 8, none⟩ = some (.int .u8 ((l[K / 8]'(by rw [HLE.out]; exact h8)).toNat : Int)) := hc0
        clear HO HB x0 x1 hc0 hw1 hw2 hw3
        generalize wr.drewN nq = wd at *
        obtain ⟨q, hq⟩ : ∃ q, q = l[K / 8]'(by rw [HLE.out]; exact h8) := ⟨_, rfl⟩
        rw [← hq] at yc HST
        have hub := u8_bit q (K % 8)
        have hv : (q.toNat : Int) < 256 := by have := q.toNat_lt; omega
        have hq1 : (0 : Int) ≤ (K : Int) / 8 := by omega
        have hq2 : (K : Int) / 8 < (len : Int) := by omega
        clear hq
        obtain ⟨bt, hbt⟩ : ∃ bt : Bool, bt = (q.toNat / 2 ^ (K % 8) % 2 == 1) := ⟨_, rfl⟩
        rw [← hbt] at hub HST
        have hbv : (48 + (bt.toNat : Int)) % 256 = ((chB bt).toNat : Int) := by
          rw [chB_nat]; have : bt.toNat ≤ 1 := Bool.toNat_le _; omega
        have hb1 : Bytes (wd.alloc (.cells #[.int .u8 ((48 + (bt.toNat : Int)) % 256)] 5)) (some ⟨wd.heap.size, 0, none⟩) 1 1 [chB bt] := by rw [hbv]; exact one_bytes 5 wd _
        have HOA := Lib.hid (HO1.out.below (Nat.le_refl _) ((Below.refl _ wd).alloc (Nat.le_refl _) (.cells #[.int .u8 ((48 + (bt.toNat : Int)) % 256)] 5)))
        have HBA := Lib.hid (HB1.out.alloc HB1.out.size (.cells #[.int .u8 ((48 + (bt.toNat : Int)) % 256)] 5))
        have HBB := Lib.hid hb1
        clear hbt hbv hb1
        go_wp2_with (at_builtin; refine wpList_append_bytes (by rfl) (.tmp 40) (.tmp 55) 22 rfl w.heap.size 5 Tryz.underlying22 RefC.info5 _ _ (by rfl) HOA.out _ 1 1 [chB bt] (by rfl) HBB.out (by simp; omega) (by have := HB1.out.size; simp; omega) ?_)
        intro v2 w2 hown hg
        have HB2 := Lib.hid (grown_below HOA.out HBA.out hg HBA.out.size)
        have HO2 : Hid (Own 5 w.heap.size w2 v2 ((((bitsOf l).drop A).take (i + 1)).map chB)) := Lib.hid (by rw [HST.out]; simp only [List.map_append, List.map_take, List.map_drop]; exact hown)
        clear hown hg HOA HBA HO1 HB1
        go_wp2_with fail
        go_roundw
        case rel => exact ⟨i + 1, by omega, by go_num, HO2, HB2⟩
        case measure => simp [intOf]; omega
      · have hinI : decide ((i : Int) < (n : Int)) = true := by simp; omega
        have hltI : decide ((K : Int) < (E : Int)) = false := by simp; omega
        have HAL := Lib.hid (look_all l A i n (by have := HK.out; rw [HLE.out]; omega) hi)
        clear hK hE
        obtain ⟨a1, c1, hv, hb⟩ := HO.out.bytes
        subst hv
        have hcv : ∀ q, (convert 22 9 (.slice a1 ((((bitsOf l).drop A).take i).map chB).length c1)).run Tryz.prog (wr.drewN q) = .ok (.string (txt (((bitsOf l).drop A).take i))) (wr.drewN q) := fun q => run_string_bytes (wr.drewN q) 22 9 5 Tryz.underlying22 Tryz.underlying5 Tryz.underlying9 (Bytes_drewN hb q)
        obtain ⟨Q, hR⟩ : ∃ Q, Q = ((bitsOf l).drop A).take i := ⟨_, rfl⟩
        rw [← hR] at HO hcv ⊢
        have HRR := Lib.hid hR
        clear hR
        rw [List.length_map] at hcv ⊢
        clear hb
        go_wp2_with fail
        go_quiet (fail)
        go_wp2_with fail
        go_ret
        exact ⟨by rw [HAL.out, ← HRR.out]; simp, below_drewN HB.out _⟩
    · have hinI : decide ((i : Int) < (n : Int)) = false := by simp; omega
      obtain rfl : i = n := by omega
      clear hK hE
      obtain ⟨a1, c1, hv, hb⟩ := HO.out.bytes
      subst hv
      have hcv : ∀ q, (convert 22 9 (.slice a1 ((((bitsOf l).drop A).take i).map chB).length c1)).run Tryz.prog (wr.drewN q) = .ok (.string (txt (((bitsOf l).drop A).take i))) (wr.drewN q) := fun q => run_string_bytes (wr.drewN q) 22 9 5 Tryz.underlying22 Tryz.underlying5 Tryz.underlying9 (Bytes_drewN hb q)
      obtain ⟨Q, hR⟩ : ∃ Q, Q = ((bitsOf l).drop A).take i := ⟨_, rfl⟩
      rw [← hR] at HO hcv ⊢
      have HRR := Lib.hid hR
      clear hR
      rw [List.length_map] at hcv ⊢
      clear hb
      go_wp2_with fail
      go_quiet (fail)
      go_wp2_with fail
      go_ret
      exact ⟨by rw [← HRR.out]; simp, below_drewN HB.out _⟩
end
end Go.Proofs.YtdbcendnibgcaaaGreatDoor.RfC
end

section
/-
  The document's own inflate: get, left, end.
-/
namespace Go.Proofs.YtdbcendnibgcaaaGreatDoor.RfC
open Go.RowKit Go.My BitMath RefC

section
variable {w0 w w' : World} {g : Nat} {a : Option Addr} {len cap : Nat} {l : List UInt8} {p : Nat} {ov : Value} {out : List UInt8} {wide : Bool} {S most code : Nat} {R : List (Nat × TypeId × Array Value)}
theorem blk_ne {W : World} {g k : Nat} {t u : TypeId} {cs ds : Array Value} (h : Blk W g t cs) (h2 : Blk W k u ds) (ht : t ≠ u) : g ≠ k := fun e => by
  subst e
  have h1 := h
  unfold Blk at h1 h2
  rw [h1] at h2
  injection h2 with h2
  injection h2 with _ h2
  exact ht h2
theorem XAt.later (h : XAt w0 w g a len cap l p ov out wide S most code R) (hb : Below w.heap.size w w') : XAt w0 w' g a len cap l p ov out wide S most code R :=
  ⟨h.blk.same (hb.block g h.blk.lt), h.own.below (Nat.le_refl _) hb, h.base, h.byt, h.below.trans (hb.mono h.below.size), h.lt, h.short, fun x hx => ⟨(h.rows x hx).1.same (hb.block x.1 (h.rows x hx).1.lt), (h.rows x hx).2⟩⟩
theorem XAt.far (h : XAt w0 w g a len cap l p ov out wide S most code R) : ov.ownBlock ≠ some g := own_len_ne h.own h.blk (by decide)
theorem XAt.put (h : XAt w0 w g a len cap l p ov out wide S most code R) (i : Nat) (v : Value) (q code' : Nat) (hq : q ≤ 8 * len) (hc : (xc a len cap p ov wide S most code).setIfInBounds i v = xc a len cap q ov wide S most code') :
    XAt w0 (w.setCell ⟨g, i, none⟩ v) g a len cap l q ov out wide S most code' R := by
  have hO : Only (fun k => k = g) w (w.setCell ⟨g, i, none⟩ v) := (Only.refl (fun k => k = g) w).setCell (p := ⟨g, i, none⟩) (fun _ => rfl) v
  have hb := h.blk.set_ i v
  rw [hc] at hb
  exact ⟨hb, hO.own h.own (fun k hk e => h.far (by rw [hk, e])), h.base, h.byt, h.below.trans (hO.below h.below.size (fun k hk => by rw [hk]; exact h.base)), hq, h.short, fun x hx => ⟨hO.blk (h.rows x hx).1 (fun e => blk_ne h.blk (h.rows x hx).1 (fun e => (h.rows x hx).2.1 e.symm) e.symm), (h.rows x hx).2⟩⟩
theorem XAt.at_ (h : XAt w0 w g a len cap l p ov out wide S most code R) (q code' : Nat) (hq : q ≤ 8 * len) (hc : code' = code) : XAt w0 (w.setCell ⟨g, 1, none⟩ (.int .i64 (q : Int))) g a len cap l q ov out wide S most code' R := by
  subst hc; exact h.put 1 _ q code' hq rfl
theorem XAt.code_ (h : XAt w0 w g a len cap l p ov out wide S most code R) (code' : Nat) : XAt w0 (w.setCell ⟨g, 6, none⟩ (.int .i64 (code' : Int))) g a len cap l p ov out wide S most code' R := h.put 6 _ p code' h.lt rfl

/-- What get hands back. -/
def Got (w0 : World) (g : Nat) (a : Option Addr) (len cap : Nat) (l : List UInt8) (p : Nat) (ov : Value) (out : List UInt8) (wide : Bool) (S most code n : Nat) (R : List (Nat × TypeId × Array Value)) (e : Ending) (w' : World) : Prop :=
  (8 * len < p + n ∧ e = .returned (.tuple #[.int .i64 0, .bool false]) ∧ Hid (XAt w0 w' g a len cap l p ov out wide S most code R)) ∨
  (p + n ≤ 8 * len ∧ e = .returned (.tuple #[.int .i64 ((num (((bitsOf l).drop p).take n) : Nat) : Int), .bool true]) ∧ Hid (XAt w0 w' g a len cap l (p + n) ov out wide S most code R))
set_option maxRecDepth 100000 in
set_option maxHeartbeats 2000000 in
theorem get_any (n : Nat) (hn : n ≤ 16) (h : Hid (XAt w0 w g a len cap l p ov out wide S most code R)) :
    Calls Tryz.prog 43 #[.pointer (some ⟨g, 0, none⟩), .int .i64 (n : Int)] w (Got w0 g a len cap l p ov out wide S most code n R) := by
  have hp := h.out.lt
  have hs := h.out.short
  have hll : (bitsOf l).length = 8 * len := by rw [bitsOf_len, h.out.byt.len_eq]
  have HQ := Lib.hid (look_any 0 n h (by omega) (by omega))
  have hsz : (txt (((bitsOf l).drop (p + 0)).take n)).size = min n (8 * len - p) := by rw [txt_len, List.length_take, List.length_drop, hll]; rfl
  have HNum := Lib.hid (fun W => refnumber_any (((bitsOf l).drop (p + 0)).take n) W (by rw [List.length_take]; omega))
  have hlt := num_lt (((bitsOf l).drop (p + 0)).take n)
  have h32 : num (((bitsOf l).drop (p + 0)).take n) < 65536 := Nat.lt_of_lt_of_le hlt (by have := Nat.pow_le_pow_right (n := 2) (by omega) (show (((bitsOf l).drop (p + 0)).take n).length ≤ 16 by rw [List.length_take]; omega); simpa using this)
  unfold Got
  rw [Nat.add_zero] at *
  obtain ⟨V, hV⟩ : ∃ V, V = num (((bitsOf l).drop p).take n) := ⟨_, rfl⟩
  rw [← hV] at HNum h32 ⊢
  generalize txt (((bitsOf l).drop p).take n) = t at *
  clear hlt hV hll
  go_enter Tryz.func43, Tryz.ntmps43
  go_wp2_with fail
  refine HQ.out.mono ?_
  rintro e w1 ⟨rfl, hb⟩
  have HX := Lib.hid (h.out.later hb)
  clear hb HQ h
  by_cases hlt : t.size < n
  · go_wp2_with fail
    go_ret2
    exact .inl ⟨by omega, rfl, HX⟩
  · have x1 : w1.cell? ⟨g, 1, none⟩ = some (.int .i64 (p : Int)) := HX.out.blk.cell 1
    have f1 : w1.frozen? ⟨g, 1, none⟩ = false := HX.out.blk.frozen 1
    have hpn : p + n ≤ 8 * len := by omega
    have HX2 := Lib.hid (HX.out.at_ (p + n) code hpn rfl)
    have HP := Lib.hid hpn
    clear HX hsz hpn
    go_upto_region 5 with (fail)
    rw [show ((p + n : Nat) : Int) = (p : Int) + (n : Int) from by omega] at HX2
    generalize w1.setCell ⟨g, 1, none⟩ (.int .i64 ((p : Int) + (n : Int))) = w2 at *
    clear x1 f1
    go_wp2_with fail
    refine (HNum.out w2).mono ?_
    rintro e w3 ⟨rfl, rfl⟩
    go_wp2_with fail
    go_ret2
    exact .inr ⟨HP.out, rfl, HX2⟩

set_option maxRecDepth 100000 in
set_option maxHeartbeats 2000000 in
theorem left_any (h : Hid (XAt w0 w g a len cap l p ov out wide S most code R)) :
    Calls Tryz.prog 65 #[.pointer (some ⟨g, 0, none⟩)] w fun e w' => e = .returned (.int .i64 ((8 * len - p : Nat) : Int)) ∧ Below w.heap.size w w' := by
  have hp := h.out.lt
  have hs := h.out.short
  have x0 : w.cell? ⟨g, 0, none⟩ = some (.slice a len cap) := h.out.blk.cell 0
  have x1 : w.cell? ⟨g, 1, none⟩ = some (.int .i64 (p : Int)) := h.out.blk.cell 1
  obtain ⟨E, hE⟩ : ∃ E, E = 8 * len := ⟨_, rfl⟩
  obtain ⟨D, hD⟩ : ∃ D, D = 8 * len - p := ⟨_, rfl⟩
  rw [← hD]
  have hEI : (8 : Int) * (len : Int) = (E : Int) := by omega
  have hw3 : IntKind.i64.wrap ((8 : Int) * (len : Int)) = (E : Int) := by rw [hEI]; exact IntWalk.i64_in _ (by omega)
  have hDI : (E : Int) - (p : Int) = (D : Int) := by omega
  have hw4 : IntKind.i64.wrap ((E : Int) - (p : Int)) = (D : Int) := by rw [hDI]; exact IntWalk.i64_in _ (by omega)
  clear hE hD h
  go_enter Tryz.func65, Tryz.ntmps65
  go_wp2_with fail
  go_quiet (fail)
  go_wp2_with fail
  go_ret
  exact ⟨by simp, below_drewN (Below.refl _ _) _⟩
theorem end_any (c : Nat) (h : Hid (XAt w0 w g a len cap l p ov out wide S most code R)) :
    Calls Tryz.prog 68 #[.pointer (some ⟨g, 0, none⟩), .int .i64 (c : Int)] w fun e w' => e = .returned (.int .i64 2) ∧ Hid (XAt w0 w' g a len cap l p ov out wide S most c R) := by
  have x6 : w.cell? ⟨g, 6, none⟩ = some (.int .i64 (code : Int)) := h.out.blk.cell 6
  have f6 : w.frozen? ⟨g, 6, none⟩ = false := h.out.blk.frozen 6
  have HX2 := Lib.hid (h.out.code_ c)
  clear h
  go_enter Tryz.func68, Tryz.ntmps68
  go_wp2_with fail
  go_ret
  exact ⟨rfl, HX2⟩
end
end Go.Proofs.YtdbcendnibgcaaaGreatDoor.RfC
end

section
/-
  The document's own answer for bits (stevedoreref5): Put, Code alone: for seats that call Code and not Of, Bytes, Number.
-/
namespace Go.Proofs.YtdbcendnibgcaaaGreatDoor.RefC
open Go.RowKit Go.My BitMath

theorem u32_bit (v k : Nat) (hv : v < 4294967296) : bits .and .u32 ((v : Int) / 2 ^ k) 1 = ((v / 2 ^ k % 2 : Nat) : Int) := by
  have e : (v : Int) / 2 ^ k = ((v / 2 ^ k : Nat) : Int) := by push_cast; rfl
  have hd := Nat.div_le_self v (2 ^ k)
  rw [e, show (1 : Int) = ((1 : Nat) : Int) from rfl, u32_and_nat _ _ (by omega) (by omega), Nat.and_one_is_mod]
theorem refput_no (v n : Int) (w : World) (h : n < 1 ∨ 32 < n) :
    Calls Tryz.prog 33 #[.int .u32 v, .int .i64 n] w fun e w' => e = .returned (.string ⟨#[]⟩) ∧ w = w' := by
  by_cases h1 : n < 1
  · go_enter Tryz.func33, Tryz.ntmps33
    go_wp2
    go_ret
    exact ⟨rfl, rfl⟩
  · have h8 : decide (n > 32) = true := by simp; omega
    go_enter Tryz.func33, Tryz.ntmps33
    go_wp2
    go_ret
    exact ⟨rfl, rfl⟩

theorem txt_snoc (l : List Bool) (b : Bool) (q : ByteArray) (h : q = ⟨#[chB b]⟩) : txt l ++ q = txt (l ++ [b]) := by
  subst h
  rw [← txt_append]; rfl

set_option maxHeartbeats 1000000 in
theorem refput_any (v n : Nat) (w : World) (h1 : 1 ≤ n) (hn : n ≤ 32) (hv : v < 4294967296) :
    Calls Tryz.prog 33 #[.int .u32 (v : Int), .int .i64 (n : Int)] w fun e w' => e = .returned (.string (txt (lows n v))) ∧ w = w' := by
  have d8 : decide ((n : Int) > 32) = false := by simp; omega
  have d1 : decide ((n : Int) < 1) = false := by simp; omega
  go_enter Tryz.func33, Tryz.ntmps33
  go_wp2
  clear d8 d1
  go_loop [5, 6] (fun s i => ∃ (k : Nat) (t : ByteArray), k ≤ n ∧ i = .int .i64 k ∧ s = .string t ∧ Hid (t = txt (lows k v))) (fun _ i => n - (intOf i).toNat)
  case atStart => exact ⟨0, _, Nat.zero_le _, rfl, rfl, Lib.hid rfl⟩
  case round =>
    obtain ⟨k, t, hk, rfl, rfl, HT⟩ := hrel
    by_cases hlt : k < n
    · have hsz : t.size ≤ 1000 := by rw [HT.out, txt_len, lows_len]; omega
      have hb := u32_bit v k hv
      have hs := lows_snoc k v
      rcases Nat.mod_two_eq_zero_or_one (v / 2 ^ k) with h0 | h0
      · rw [h0] at hb hs
        have HS := Lib.hid hs
        clear hs h0
        go_wp2
        go_round
        case rel => exact ⟨k + 1, _, by omega, by go_num, rfl, Lib.hid (by rw [HT.out, txt_snoc _ false _ (by rfl), HS.out]; rfl)⟩
        case measure => simp [intOf]; omega
      · rw [h0] at hb hs
        have HS := Lib.hid hs
        clear hs h0
        go_wp2
        go_round
        case rel => exact ⟨k + 1, _, by omega, by go_num, rfl, Lib.hid (by rw [HT.out, txt_snoc _ true _ (by rfl), HS.out]; rfl)⟩
        case measure => simp [intOf]; omega
    · obtain rfl : k = n := by omega
      go_wp2
      go_ret
      exact ⟨ret_str HT.out, rfl⟩

theorem txt_extract (l : List Bool) (i : Nat) (h : i < l.length) : (txt l).extract i (i + 1) = txt [l[i]] := by
  apply ByteArray.ext
  rw [ByteArray.data_extract]
  unfold txt
  apply Array.ext'
  simp [List.extract_eq_take_drop]
  rw [List.drop_eq_getElem_cons (by simpa using h)]
  simp

theorem refcode_no (v n : Int) (w : World) (h : n < 1 ∨ 32 < n) :
    Calls Tryz.prog 32 #[.int .u32 v, .int .i64 n] w fun e w' => e = .returned (.string ⟨#[]⟩) ∧ w = w' := by
  go_enter Tryz.func32, Tryz.ntmps32
  go_wp2_with fail
  refine (refput_no v n w h).mono ?_
  rintro e w' ⟨rfl, rfl⟩
  go_wp2_with fail
  go_loop [6, 7] (fun s i => s = .string ⟨#[]⟩ ∧ i = .int .i64 (-1)) (fun _ i => (intOf i).toNat)
  case atStart => exact ⟨rfl, rfl⟩
  case round =>
    obtain ⟨rfl, rfl⟩ := hrel
    go_wp2
    go_ret
    exact ⟨rfl, rfl⟩

theorem rev_drop (l : List Bool) (p : Nat) (h : p < l.length) : (l.drop p).reverse = (l.drop (p + 1)).reverse ++ [l[p]] := by
  rw [List.drop_eq_getElem_cons h, List.reverse_cons]

set_option maxHeartbeats 1000000 in
theorem refcode_any (v n : Nat) (w : World) (h1 : 1 ≤ n) (hn : n ≤ 32) (hv : v < 4294967296) :
    Calls Tryz.prog 32 #[.int .u32 (v : Int), .int .i64 (n : Int)] w fun e w' => e = .returned (.string (txt (lows n v).reverse)) ∧ w = w' := by
  go_enter Tryz.func32, Tryz.ntmps32
  go_wp2_with fail
  refine (refput_any v n w h1 hn hv).mono ?_
  rintro e w' ⟨rfl, rfl⟩
  obtain ⟨l, hl⟩ : ∃ l, l = lows n v := ⟨_, rfl⟩
  have hln : l.length = n := by rw [hl, lows_len]
  rw [← hl]
  have HLV := Lib.hid hl
  clear hl
  have HLN := Lib.hid hln
  have htl := txt_len l
  rw [hln] at htl
  have HTL := Lib.hid htl
  have hsz : (txt l).size ≤ 32 := by omega
  have hsz2 : n ≤ (txt l).size := by omega
  clear hln htl
  obtain ⟨s, hs⟩ : ∃ s, s = txt l := ⟨_, rfl⟩
  rw [← hs] at hsz hsz2 ⊢
  have HS : Hid (s = txt l) := Lib.hid hs
  have HN : Hid (s.size = n) := Lib.hid (by rw [hs]; exact HTL.out)
  clear hs
  go_wp2_with fail
  go_loop [6, 7] (fun s i => ∃ (p : Nat) (t : ByteArray), p ≤ n ∧ i = .int .i64 ((p : Int) - 1) ∧ s = .string t ∧ Hid (t = txt (l.drop p).reverse)) (fun _ i => (intOf i + 1).toNat)
  case atStart => exact ⟨n, _, Nat.le_refl _, by rw [HN.out], rfl, Lib.hid (by rw [List.drop_of_length_le (by rw [HLN.out]; omega)]; rfl)⟩
  case round =>
    obtain ⟨p, t, hp, rfl, rfl, HT⟩ := hrel
    by_cases hlt : 0 < p
    · obtain ⟨q, rfl⟩ : ∃ q, p = q + 1 := ⟨p - 1, by omega⟩
      have hts : t.size ≤ 1000 := by rw [HT.out, txt_len]; simp; have := HLN.out; omega
      go_wp2
      go_round
      case rel => exact ⟨q, _, by omega, rfl, rfl, Lib.hid (by rw [HT.out, HS.out, txt_extract l q (by have := HLN.out; omega), txt_append, rev_drop l q (by have := HLN.out; omega)])⟩
      case measure => simp [intOf]
    · obtain rfl : p = 0 := by omega
      go_wp2
      go_ret
      exact ⟨ret_str (by rw [HT.out, List.drop_zero, HLV.out]), rfl⟩

end Go.Proofs.YtdbcendnibgcaaaGreatDoor.RefC
end

section
/-
  The document's own answer for canon: Kraft, Kind.
-/
namespace Go.Proofs.YtdbcendnibgcaaaGreatDoor.CanC
open Go.RowKit Go.My BitMath CanMath RefC

def BadAt (zs : List Int) : Prop := ∃ k, ∃ h : k < zs.length, zs[k] < 0 ∨ 15 < zs[k]

section
variable {a : Option Addr} {len cap : Nat} {zs : List Int} {w : World}
theorem good_take {zs : List Int} {k : Nat} (h : ∀ j (h : j < zs.length), j < k → 0 ≤ zs[j] ∧ zs[j] ≤ 15) (hl : zs.length = k) (h2 : k ≤ 65536) : Good zs :=
  ⟨by omega, fun z hz => by
    obtain ⟨j, hj, rfl⟩ := List.getElem_of_mem hz
    exact h j hj (by omega)⟩

/-- What ref Kraft hands back. -/
def KraftPost (zs : List Int) (e : Ending) : Prop := (Good zs → e = .returned (.int .i64 ((kr (nat zs) : Nat) : Int))) ∧ (¬ Good zs → e = .returned (.int .i64 (-1)))
set_option maxRecDepth 100000 in
set_option maxHeartbeats 2000000 in
theorem refkraft_any (h : RowIn w a len cap (zs.map iv)) :
    Calls Tryz.prog 74 #[.slice a len cap] w fun e w' => KraftPost zs e ∧ w = w' := by
  have hzl : zs.length = len := by have := h.len_eq; simpa using this
  have hlc := h.le_cap
  have hcl := h.cap_le
  have HZ := Lib.hid hzl
  have HR := Lib.hid h
  clear h hzl
  go_enter Tryz.func74, Tryz.ntmps74
  by_cases hbig : 65536 < len
  · go_wp2_with fail
    go_ret
    exact ⟨⟨fun hg => by have := hg.1; have := HZ.out; omega, fun _ => rfl⟩, rfl⟩
  go_wp2_with fail
  go_loop [3, 4] (fun s i => ∃ k : Nat, k ≤ len ∧ i = .int .i64 (k : Int) ∧ s = .int .i64 ((kr ((nat zs).take k) : Nat) : Int) ∧ Hid (∀ j (h : j < zs.length), j < k → 0 ≤ zs[j] ∧ zs[j] ≤ 15)) (fun _ i => len - (intOf i).toNat)
  case atStart => exact ⟨0, Nat.zero_le _, rfl, by simp [kr], Lib.hid (fun j _ h => by omega)⟩
  case round =>
    obtain ⟨k, hk, rfl, rfl, HG⟩ := hrel
    by_cases hlt : k < len
    · obtain ⟨b, off, rfl⟩ := HR.out.some_ (by omega)
      have hkz : k < zs.length := by rw [HZ.out]; exact hlt
      have hcz : w.cell? ⟨b, off + k, none⟩ = some (.int .i64 zs[k]) := by
        rw [HR.out.get k (by simpa using hkz)]
        simp [iv]
      obtain ⟨z, hz⟩ : ∃ z, z = zs[k] := ⟨_, rfl⟩
      rw [← hz] at hcz
      have HZK := Lib.hid hz
      clear hz
      by_cases hneg : z < 0
      · go_wp2_with fail
        go_ret
        exact ⟨⟨fun hg => by have := hg.2 z (by rw [HZK.out]; exact List.getElem_mem hkz); omega, fun _ => rfl⟩, rfl⟩
      · by_cases hgt : 15 < z
        · go_wp2_with fail
          go_ret
          exact ⟨⟨fun hg => by have := hg.2 z (by rw [HZK.out]; exact List.getElem_mem hkz); omega, fun _ => rfl⟩, rfl⟩
        · obtain ⟨n, rfl⟩ : ∃ n : Nat, z = (n : Int) := ⟨z.toNat, by omega⟩
          have HG1 : Hid (∀ j (h : j < zs.length), j < k + 1 → 0 ≤ zs[j] ∧ zs[j] ≤ 15) := Lib.hid (by
            intro j h hj
            by_cases he : j = k
            · subst he
              rw [← HZK.out]; omega
            · exact HG.out j h (by omega))
          have HTK : Hid (kr ((nat zs).take (k + 1)) = kr ((nat zs).take k) + share n) := Lib.hid (by rw [nat_snoc zs k hkz n HZK.out.symm, kr_append, kr_cons, kr_nil]; omega)
          have hkb : kr ((nat zs).take k) ≤ 16384 * 65536 := Nat.le_trans (kr_le _) (Nat.mul_le_mul_left _ (by rw [List.length_take]; omega))
          have HP : Hid (0 < n → share n = 2 ^ (15 - n)) := Lib.hid (fun h => share_eq h)
          have HP0 : Hid (n = 0 → share n = 0) := Lib.hid (fun h => by subst h; rfl)
          have hpl := share_le n
          generalize kr ((nat zs).take k) = x at *
          generalize share n = p at *
          by_cases h0 : 0 < n
          · have hp : (2 : Int) ^ (15 - n) = (p : Int) := by rw [HP.out h0]; push_cast; rfl
            have HP2 := Lib.hid hp
            have hs1 : (15 - (n : Int)).toNat = 15 - n := by omega
            have hs2 : min (15 - n) 64 = 15 - n := by omega
            have hs3 : IntKind.i64.wrap (2 ^ (15 - n)) = (p : Int) := by rw [hp, IntWalk.i64_in _ (by omega)]
            have hs4 : (1 : Int) * 2 ^ (15 - n) = (p : Int) := by rw [hp]; omega
            clear hp
            go_wp2_with fail
            go_round
            case rel => exact ⟨k + 1, by omega, by go_num, by rw [HTK.out]; go_num, HG1⟩
            case measure => simp [intOf]; omega
          · obtain rfl : n = 0 := by omega
            go_wp2_with fail
            go_round
            case rel => exact ⟨k + 1, by omega, by go_num, by rw [HTK.out, HP0.out rfl]; rfl, HG1⟩
            case measure => simp [intOf]; omega
    · obtain rfl : k = len := by omega
      have HT : Hid ((nat zs).take k = nat zs) := Lib.hid (List.take_of_length_le (by rw [nat_len, HZ.out]; omega))
      rw [HT.out]
      go_wp2_with fail
      go_ret
      exact ⟨⟨fun _ => rfl, fun hn => absurd (good_take HG.out HZ.out (by omega)) hn⟩, rfl⟩

set_option maxRecDepth 100000 in
set_option maxHeartbeats 2000000 in
theorem refkind_bad (h : RowIn w a len cap (zs.map iv)) (hg : ¬ Good zs) :
    Calls Tryz.prog 66 #[.slice a len cap] w fun e w' => e = .returned (.int .i64 4) ∧ w = w' := by
  have hzl : zs.length = len := by have := h.len_eq; simpa using this
  have h0 : 0 < len := by
    rcases Nat.eq_zero_or_pos len with h0 | h0
    · exact absurd ⟨by omega, fun z hz => by have : zs = [] := List.length_eq_zero_iff.1 (by omega); subst this; simp at hz⟩ hg
    · exact h0
  have HG := Lib.hid hg
  have HR := Lib.hid h
  have hlc := h.le_cap
  have hcl := h.cap_le
  clear h hg hzl
  go_enter Tryz.func66, Tryz.ntmps66
  go_wp2_with fail
  refine (refkraft_any HR.out).mono ?_
  rintro e w' ⟨he, rfl⟩
  obtain rfl := he.2 HG.out
  clear he
  go_wp2_with fail
  go_loop [4, 5, 6] (fun s o i => i = .int .i64 0) (fun _ _ _ => 0)
  case atStart => rfl
  case round =>
    obtain rfl := hrel
    go_wp2_with fail
    go_ret
    exact ⟨rfl, rfl⟩

set_option maxRecDepth 100000 in
set_option maxHeartbeats 4000000 in
theorem refkind_good (h : RowIn w a len cap (zs.map iv)) (hg : Good zs) :
    Calls Tryz.prog 66 #[.slice a len cap] w fun e w' => e = .returned (.int .i64 (kindN (nat zs))) ∧ w = w' := by
  have hzl : zs.length = len := by have := h.len_eq; simpa using this
  have hlen : len ≤ 65536 := by rw [← hzl]; exact hg.1
  have HKN : Hid (kindN (nat zs) = if 32768 < kr (nat zs) then 4 else if kr (nat zs) = 0 then 0 else if kr (nat zs) = 32768 then 1 else if kr (nat zs) = 16384 ∧ (nat zs).count 1 = 1 then 2 else 3) := Lib.hid rfl
  have HA := Lib.hid (some_none (nat zs))
  have HO := Lib.hid (single (nat zs))
  have hkr : kr (nat zs) ≤ 16384 * 65536 := Nat.le_trans (kr_le _) (Nat.mul_le_mul_left _ (by rw [nat_len]; exact hg.1))
  have HZ := Lib.hid hzl
  have HG := Lib.hid hg
  have HR := Lib.hid h
  clear h hg hzl
  generalize kindN (nat zs) = X at *
  go_enter Tryz.func66, Tryz.ntmps66
  go_wp2_with fail
  refine (refkraft_any HR.out).mono ?_
  rintro e w' ⟨he, rfl⟩
  obtain rfl := he.1 HG.out
  clear he
  generalize kr (nat zs) = K at *
  go_wp2_with fail
  go_loop [4, 5, 6] (fun s o i => ∃ k : Nat, k ≤ len ∧ i = .int .i64 (k : Int) ∧ s = .int .i64 (((some_ ((nat zs).take k)).length : Nat) : Int) ∧ o = .int .i64 (((some_ ((nat zs).take k)).getLastD 0 : Nat) : Int)) (fun _ _ i => len - (intOf i).toNat)
  case atStart => exact ⟨0, Nat.zero_le _, rfl, rfl, rfl⟩
  case round =>
    obtain ⟨k, hk, rfl, rfl, rfl⟩ := hrel
    by_cases hlt : k < len
    · obtain ⟨b, off, rfl⟩ := HR.out.some_ (by omega)
      have hkz : k < zs.length := by rw [HZ.out]; exact hlt
      obtain ⟨n, hn⟩ : ∃ n : Nat, zs[k] = (n : Int) := ⟨zs[k].toNat, by have := HG.out.2 _ (List.getElem_mem hkz); omega⟩
      have hcz : w.cell? ⟨b, off + k, none⟩ = some (.int .i64 (n : Int)) := by
        rw [HR.out.get k (by simpa using hkz)]
        simp [iv, hn]
      have HTK : Hid (some_ ((nat zs).take (k + 1)) = if 0 < n then some_ ((nat zs).take k) ++ [n] else some_ ((nat zs).take k)) := Lib.hid (by rw [nat_snoc zs k hkz n hn, some_snoc])
      have hsl : (some_ ((nat zs).take k)).length ≤ 65536 := Nat.le_trans (List.length_filter_le _ _) (by rw [List.length_take]; omega)
      clear hn
      generalize hq : some_ ((nat zs).take k) = q at *
      clear hq
      by_cases h0 : 0 < n
      · have HL : Hid ((q ++ [n]).length = q.length + 1) := Lib.hid (by simp)
        have HD : Hid ((q ++ [n]).getLastD 0 = n) := Lib.hid (by simp)
        have HT2 : Hid (some_ ((nat zs).take (k + 1)) = q ++ [n]) := Lib.hid (by rw [HTK.out, if_pos h0])
        clear HTK
        generalize q.length = y at *
        go_wp2_with fail
        go_round
        case rel => exact ⟨k + 1, by omega, by go_num, by rw [HT2.out, HL.out]; go_num, by rw [HT2.out, HD.out]⟩
        case measure => simp [intOf]; omega
      · have HT2 : Hid (some_ ((nat zs).take (k + 1)) = q) := Lib.hid (by rw [HTK.out, if_neg h0])
        clear HTK
        go_wp2_with fail
        go_round
        case rel => exact ⟨k + 1, by omega, by go_num, by rw [HT2.out], by rw [HT2.out]⟩
        case measure => simp [intOf]; omega
    · obtain rfl : k = len := by omega
      have HT : Hid ((nat zs).take k = nat zs) := Lib.hid (List.take_of_length_le (by rw [nat_len, HZ.out]; omega))
      rw [HT.out]
      clear HT
      have hsl : (some_ (nat zs)).length ≤ 65536 := Nat.le_trans (List.length_filter_le _ _) (by rw [nat_len, HZ.out]; omega)
      generalize (some_ (nat zs)).length = c at *
      generalize (some_ (nat zs)).getLastD 0 = o at *
      generalize (nat zs).count 1 = d at *
      by_cases h1 : 32768 < K
      · have HKN2 : Hid (X = 4) := Lib.hid (by rw [HKN.out, if_pos h1])
        clear HKN HA HO
        go_wp2_with fail
        go_ret
        exact ⟨ret_int (by rw [HKN2.out]), rfl⟩
      · by_cases h2 : c = 0
        · have HKN2 : Hid (X = 0) := Lib.hid (by rw [HKN.out, if_neg h1, if_pos (HA.out.1 h2)])
          subst h2
          clear HKN HA HO
          go_wp2_with fail
          go_ret
          exact ⟨ret_int (by rw [HKN2.out]), rfl⟩
        · have e2 : ((c : Int) == 0) = false := by simp; omega
          have hK0 : K ≠ 0 := fun h => h2 (HA.out.2 h)
          by_cases h3 : K = 32768
          · have HKN2 : Hid (X = 1) := Lib.hid (by rw [HKN.out, if_neg h1, if_neg hK0, if_pos h3])
            subst h3
            clear HKN HA HO h1 h2 hK0
            go_wp2_with fail
            go_ret
            exact ⟨ret_int (by rw [HKN2.out]), rfl⟩
          · have e3 : ((K : Int) == 32768) = false := by simp; omega
            by_cases h4 : c = 1
            · by_cases h5 : o = 1
              · have HKN2 : Hid (X = 2) := Lib.hid (by rw [HKN.out, if_neg h1, if_neg hK0, if_neg h3, if_pos (HO.out.1 ⟨h4, h5⟩)])
                subst h4
                subst h5
                clear HKN HA HO h2 h3 e2 hK0
                go_wp2_with fail
                go_ret
                exact ⟨ret_int (by rw [HKN2.out]), rfl⟩
              · have HKN2 : Hid (X = 3) := Lib.hid (by rw [HKN.out, if_neg h1, if_neg hK0, if_neg h3, if_neg (fun h => h5 (HO.out.2 h).2)])
                have e5 : ((o : Int) == 1) = false := by simp; omega
                subst h4
                clear HKN HA HO h2 h3 h5 e2 hK0
                go_wp2_with fail
                go_ret
                exact ⟨ret_int (by rw [HKN2.out]), rfl⟩
            · have HKN2 : Hid (X = 3) := Lib.hid (by rw [HKN.out, if_neg h1, if_neg hK0, if_neg h3, if_neg (fun h => h4 (HO.out.2 h).1)])
              have e4 : ((c : Int) == 1) = false := by simp; omega
              clear HKN HA HO h2 h3 h4 hK0
              go_wp2_with fail
              go_ret
              exact ⟨ret_int (by rw [HKN2.out]), rfl⟩
end
end Go.Proofs.YtdbcendnibgcaaaGreatDoor.CanC
end
