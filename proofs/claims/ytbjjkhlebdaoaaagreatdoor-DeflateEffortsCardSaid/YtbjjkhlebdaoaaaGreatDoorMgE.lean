import Derived.Test.YtbjjkhlebdaoaaaGreatDoorRows
import Derived.Test.YtbjjkhlebdaoaaaGreatDoorMgA
import Derived.Laws.Pointers
import Derived.Deep.QuietTactic
import Derived.BigQuiet
import Derived.Deep.DeepCutAuto
import Derived.Deep.CutBlock
import Derived.Test.YtbjjkhlebdaoaaaGreatDoorMgD
import Derived.Test.YtbjjkhlebdaoaaaGreatDoorMgM
import Derived.Test.YtbjjkhlebdaoaaaGreatDoorMgC

section
/-
  The document's own inflate (stevedoreref12): its X in memory; look.
-/
namespace Go.Proofs.YtbjjkhlebdaoaaaGreatDoor.RfC
open Go.RowKit Go.My BitMath RefC

/-- The cells of an X. -/
def xc (a : Option Addr) (len cap p : Nat) (ov : Value) (wide : Bool) (S most code : Nat) : Array Value := #[.slice a len cap, .int .i64 (p : Int), ov, .bool wide, .int .i64 (S : Int), .int .i64 (most : Int), .int .i64 (code : Int)]
/-- The document's machine in memory, over bytes that came in. -/
structure XAt (w0 w : World) (g : Nat) (a : Option Addr) (len cap : Nat) (l : List UInt8) (p : Nat) (ov : Value) (out : List UInt8) (wide : Bool) (S most code : Nat) (R : List (Nat × TypeId × Array Value)) : Prop where
  blk : Blk w g 52 (xc a len cap p ov wide S most code)
  own : Own 5 w0.heap.size w ov out
  base : w0.heap.size ≤ g
  byt : Bytes w0 a len cap l
  below : Below w0.heap.size w0 w
  lt : p ≤ 8 * len
  short : len ≤ 100000000
  rows : ∀ x ∈ R, Blk w x.1 x.2.1 x.2.2 ∧ x.2.1 ≠ 52 ∧ x.2.1 ≠ 5
theorem u8_bit (c : UInt8) (m : Nat) : bits .and .u8 ((c.toNat : Int) / 2 ^ m) 1 = (((c.toNat / 2 ^ m % 2 == 1).toNat : Nat) : Int) := by
  rw [bit_nat]
  have e : (c.toNat : Int) / 2 ^ m = ((c.toNat / 2 ^ m : Nat) : Int) := by push_cast; rfl
  have hd := Nat.div_le_self c.toNat (2 ^ m)
  have := c.toNat_lt
  rw [e, show (1 : Int) = ((1 : Nat) : Int) from rfl, u8_and_nat _ _ (by omega) (by omega), Nat.and_one_is_mod]
section
variable {w0 w : World} {g : Nat} {a : Option Addr} {len cap : Nat} {l : List UInt8} {p : Nat} {ov : Value} {out : List UInt8} {wide : Bool} {S most code : Nat} {R : List (Nat × TypeId × Array Value)}
theorem look_step (l : List UInt8) (q i K : Nat) (hK : q + i = K) (h : K / 8 < l.length) : ((bitsOf l).drop q).take (i + 1) = ((bitsOf l).drop q).take i ++ [(l[K / 8]).toNat / 2 ^ (K % 8) % 2 == 1] := by
  subst hK
  have hl : i < ((bitsOf l).drop q).length := by rw [List.length_drop, bitsOf_len]; omega
  rw [List.take_succ_eq_append_getElem hl]
  congr 1
  have hg := bitsOf_get l (q + i) (by omega)
  rw [List.getElem_drop]
  rw [List.getElem?_eq_getElem (by rw [bitsOf_len]; omega)] at hg
  injection hg with hg
  rw [hg]
theorem look_all (l : List UInt8) (q i n : Nat) (h : 8 * l.length ≤ q + i) (hi : i ≤ n) : ((bitsOf l).drop q).take n = ((bitsOf l).drop q).take i := by
  rw [List.take_of_length_le (by rw [List.length_drop, bitsOf_len]; omega), List.take_of_length_le (by rw [List.length_drop, bitsOf_len]; omega)]

theorem below_drewN {B : Nat} {a W : World} (h : Below B a W) (q : Nat) : Below B a (W.drewN q) := ⟨h.os, h.tape, h.output, h.size, h.block⟩
theorem Bytes_drewN {W : World} {a : Option Addr} {n c : Nat} {l : List UInt8} (h : Bytes W a n c l) (q : Nat) : Bytes (W.drewN q) a n c l := ⟨h.1, h.2, h.3, h.4, h.5⟩
set_option maxRecDepth 100000 in
set_option maxHeartbeats 4000000 in
theorem look_any (f n : Nat) (h : Hid (XAt w0 w g a len cap l p ov out wide S most code R)) (hf : f ≤ 1000000) (hn : n ≤ 1000000) :
    Calls Tryz.prog 53 #[.pointer (some ⟨g, 0, none⟩), .int .i64 (f : Int), .int .i64 (n : Int)] w fun e w' => e = .returned (.string (txt (((bitsOf l).drop (p + f)).take n))) ∧ Below w.heap.size w w' := by
  have hp := h.out.lt
  have hs := h.out.short
  have HLE := Lib.hid h.out.byt.len_eq
  have hgw := h.out.blk.lt
  have HX : Hid (w.cell? ⟨g, 0, none⟩ = some (.slice a len cap) ∧ w.cell? ⟨g, 1, none⟩ = some (.int .i64 (p : Int))) := Lib.hid ⟨h.out.blk.cell 0, h.out.blk.cell 1⟩
  obtain ⟨A, hA⟩ : ∃ A, A = p + f := ⟨_, rfl⟩
  rw [← hA]
  have hAI : (p : Int) + (f : Int) = (A : Int) := by omega
  have hA2 : A ≤ 801000000 := by omega
  have HA := Lib.hid hA
  clear hA
  go_enter Tryz.func53, Tryz.ntmps53
  go_wp2_with fail
  go_loopw [7, 8] (fun sv iv wr => ∃ i : Nat, i ≤ n ∧ iv = .int .i64 (i : Int) ∧ Hid (Own 5 w.heap.size wr sv ((((bitsOf l).drop A).take i).map chB)) ∧ Hid (Below w.heap.size w wr)) (fun _ iv _ => n - (intOf iv).toNat)
  case atStart => exact ⟨0, Nat.zero_le _, rfl, Lib.hid (by simpa using Own.nil _ _ _), Lib.hid (Below.refl _ _)⟩
  case round =>
    obtain ⟨i, hi, rfl, HO, HB⟩ := hrel
    have x0 : wr.cell? ⟨g, 0, none⟩ = some (.slice a len cap) := (HB.out.cell (p := ⟨g, 0, none⟩) hgw).trans HX.out.1
    have x1 : wr.cell? ⟨g, 1, none⟩ = some (.int .i64 (p : Int)) := (HB.out.cell (p := ⟨g, 1, none⟩) hgw).trans HX.out.2
    obtain ⟨K, hK⟩ : ∃ K, K = A + i := ⟨_, rfl⟩
    have hKI : (A : Int) + (i : Int) = (K : Int) := by omega
    have hK2 : K ≤ 802000000 := by omega
    obtain ⟨E, hE⟩ : ∃ E, E = 8 * len := ⟨_, rfl⟩
    have hEI : (8 : Int) * (len : Int) = (E : Int) := by omega
    have hw1 : IntKind.i64.wrap ((p : Int) + (f : Int)) = (A : Int) := by rw [hAI]; exact IntWalk.i64_in _ (by omega)
    have hw2 : IntKind.i64.wrap ((A : Int) + (i : Int)) = (K : Int) := by rw [hKI]; exact IntWalk.i64_in _ (by omega)
    have hw3 : IntKind.i64.wrap ((8 : Int) * (len : Int)) = (E : Int) := by rw [hEI]; exact IntWalk.i64_in _ (by omega)
    have HK := Lib.hid (And.intro hK hE)
    by_cases hin : i < n
    · by_cases hlt : K < E
      · have hinI : decide ((i : Int) < (n : Int)) = true := by simp; omega
        have hltI : decide ((K : Int) < (E : Int)) = true := by simp; omega
        have h8 : K / 8 < len := by omega
        clear hK hE
        obtain ⟨b, off, rfl⟩ := h.out.byt.some_ (by omega)
        have hc0 : wr.cell? ⟨b, off + K / 8, none⟩ = some (.int .u8 ((l[K / 8]'(by rw [HLE.out]; exact h8)).toNat : Int)) := by
          rcases h.out.byt.at_ with h0 | ⟨b', off', ha, hs, hc⟩
          · omega
          · cases ha
            rw [HB.out.cell (p := ⟨b, off + K / 8, none⟩) (Nat.lt_of_lt_of_le hs h.out.below.size), h.out.below.cell (p := ⟨b, off + K / 8, none⟩) hs]
            exact hc (K / 8) (by rw [HLE.out]; exact h8)
        have HST := Lib.hid (look_step l A i K (by have := HK.out.1; omega) (by rw [HLE.out]; exact h8))
        go_wp2_with fail
        go_quiet (fail)
        have HO1 : Hid (Own 5 w.heap.size (wr.drewN nq) _ _) := HO
        have HB1 : Hid (Below w.heap.size w (wr.drewN nq)) := Lib.hid (below_drewN HB.out nq)
        have y0 : (wr.drewN nq).cell? ⟨g, 0, none⟩ = some (.slice (some ⟨b, off, none⟩) len cap) := x0
        have y1 : (wr.drewN nq).cell? ⟨g, 1, none⟩ = some (.int .i64 (p : Int)) := x1
        have yc : (wr.drewN nq).cell? ⟨b, off + K / 8, none⟩ = some (.int .u8 ((l[K / 8]'(by rw [HLE.out]; exact h8)).toNat : Int)) := hc0
        clear HO HB x0 x1 hc0 hw1 hw2 hw3
        generalize wr.drewN nq = wd at *
        obtain ⟨q, hq⟩ : ∃ q, q = l[K / 8]'(by rw [HLE.out]; exact h8) := ⟨_, rfl⟩
        rw [← hq] at yc HST
        have hub := u8_bit q (K % 8)
        have hv : (q.toNat : Int) < 256 := by have := q.toNat_lt; omega
        have hq1 : (0 : Int) ≤ (K : Int) / 8 := by omega
        have hq2 : (K : Int) / 8 < (len : Int) := by omega
        clear hq
        obtain ⟨bt, hbt⟩ : ∃ bt : Bool, bt = (q.toNat / 2 ^ (K % 8) % 2 == 1) := ⟨_, rfl⟩
        rw [← hbt] at hub HST
        have hbv : (48 + (bt.toNat : Int)) % 256 = ((chB bt).toNat : Int) := by
          rw [chB_nat]; have : bt.toNat ≤ 1 := Bool.toNat_le _; omega
        have hb1 : Bytes (wd.alloc (.cells #[.int .u8 ((48 + (bt.toNat : Int)) % 256)] 5)) (some ⟨wd.heap.size, 0, none⟩) 1 1 [chB bt] := by rw [hbv]; exact one_bytes 5 wd _
        have HOA := Lib.hid (HO1.out.below (Nat.le_refl _) ((Below.refl _ wd).alloc (Nat.le_refl _) (.cells #[.int .u8 ((48 + (bt.toNat : Int)) % 256)] 5)))
        have HBA := Lib.hid (HB1.out.alloc HB1.out.size (.cells #[.int .u8 ((48 + (bt.toNat : Int)) % 256)] 5))
        have HBB := Lib.hid hb1
        clear hbt hbv hb1
        go_wp2_with (at_builtin; refine wpList_append_bytes (by rfl) (.tmp 40) (.tmp 55) 22 rfl w.heap.size 5 Tryz.underlying22 RefC.info5 _ _ (by rfl) HOA.out _ 1 1 [chB bt] (by rfl) HBB.out (by simp; omega) (by have := HB1.out.size; simp; omega) ?_)
        intro v2 w2 hown hg
        have HB2 := Lib.hid (grown_below HOA.out HBA.out hg HBA.out.size)
        have HO2 : Hid (Own 5 w.heap.size w2 v2 ((((bitsOf l).drop A).take (i + 1)).map chB)) := Lib.hid (by rw [HST.out]; simp only [List.map_append, List.map_take, List.map_drop]; exact hown)
        clear hown hg HOA HBA HO1 HB1
        go_wp2_with fail
        go_roundw
        case rel => exact ⟨i + 1, by omega, by go_num, HO2, HB2⟩
        case measure => simp [intOf]; omega
      · have hinI : decide ((i : Int) < (n : Int)) = true := by simp; omega
        have hltI : decide ((K : Int) < (E : Int)) = false := by simp; omega
        have HAL := Lib.hid (look_all l A i n (by have := HK.out; rw [HLE.out]; omega) hi)
        clear hK hE
        obtain ⟨a1, c1, hv, hb⟩ := HO.out.bytes
        subst hv
        have hcv : ∀ q, (convert 22 9 (.slice a1 ((((bitsOf l).drop A).take i).map chB).length c1)).run Tryz.prog (wr.drewN q) = .ok (.string (txt (((bitsOf l).drop A).take i))) (wr.drewN q) := fun q => run_string_bytes (wr.drewN q) 22 9 5 Tryz.underlying22 Tryz.underlying5 Tryz.underlying9 (Bytes_drewN hb q)
        obtain ⟨Q, hR⟩ : ∃ Q, Q = ((bitsOf l).drop A).take i := ⟨_, rfl⟩
        rw [← hR] at HO hcv ⊢
        have HRR := Lib.hid hR
        clear hR
        rw [List.length_map] at hcv ⊢
        clear hb
        go_wp2_with fail
        go_quiet (fail)
        go_wp2_with fail
        go_ret
        exact ⟨by rw [HAL.out, ← HRR.out]; simp, below_drewN HB.out _⟩
    · have hinI : decide ((i : Int) < (n : Int)) = false := by simp; omega
      obtain rfl : i = n := by omega
      clear hK hE
      obtain ⟨a1, c1, hv, hb⟩ := HO.out.bytes
      subst hv
      have hcv : ∀ q, (convert 22 9 (.slice a1 ((((bitsOf l).drop A).take i).map chB).length c1)).run Tryz.prog (wr.drewN q) = .ok (.string (txt (((bitsOf l).drop A).take i))) (wr.drewN q) := fun q => run_string_bytes (wr.drewN q) 22 9 5 Tryz.underlying22 Tryz.underlying5 Tryz.underlying9 (Bytes_drewN hb q)
      obtain ⟨Q, hR⟩ : ∃ Q, Q = ((bitsOf l).drop A).take i := ⟨_, rfl⟩
      rw [← hR] at HO hcv ⊢
      have HRR := Lib.hid hR
      clear hR
      rw [List.length_map] at hcv ⊢
      clear hb
      go_wp2_with fail
      go_quiet (fail)
      go_wp2_with fail
      go_ret
      exact ⟨by rw [← HRR.out]; simp, below_drewN HB.out _⟩
end
end Go.Proofs.YtbjjkhlebdaoaaaGreatDoor.RfC
end

section
/-
  The document's own inflate: get, left, end.
-/
namespace Go.Proofs.YtbjjkhlebdaoaaaGreatDoor.RfC
open Go.RowKit Go.My BitMath RefC

section
variable {w0 w w' : World} {g : Nat} {a : Option Addr} {len cap : Nat} {l : List UInt8} {p : Nat} {ov : Value} {out : List UInt8} {wide : Bool} {S most code : Nat} {R : List (Nat × TypeId × Array Value)}
theorem blk_ne {W : World} {g k : Nat} {t u : TypeId} {cs ds : Array Value} (h : Blk W g t cs) (h2 : Blk W k u ds) (ht : t ≠ u) : g ≠ k := fun e => by
  subst e
  have h1 := h
  unfold Blk at h1 h2
  rw [h1] at h2
  injection h2 with h2
  injection h2 with _ h2
  exact ht h2
theorem XAt.later (h : XAt w0 w g a len cap l p ov out wide S most code R) (hb : Below w.heap.size w w') : XAt w0 w' g a len cap l p ov out wide S most code R :=
  ⟨h.blk.same (hb.block g h.blk.lt), h.own.below (Nat.le_refl _) hb, h.base, h.byt, h.below.trans (hb.mono h.below.size), h.lt, h.short, fun x hx => ⟨(h.rows x hx).1.same (hb.block x.1 (h.rows x hx).1.lt), (h.rows x hx).2⟩⟩
theorem XAt.far (h : XAt w0 w g a len cap l p ov out wide S most code R) : ov.ownBlock ≠ some g := own_len_ne h.own h.blk (by decide)
theorem XAt.put (h : XAt w0 w g a len cap l p ov out wide S most code R) (i : Nat) (v : Value) (q code' : Nat) (hq : q ≤ 8 * len) (hc : (xc a len cap p ov wide S most code).setIfInBounds i v = xc a len cap q ov wide S most code') :
    XAt w0 (w.setCell ⟨g, i, none⟩ v) g a len cap l q ov out wide S most code' R := by
  have hO : Only (fun k => k = g) w (w.setCell ⟨g, i, none⟩ v) := (Only.refl (fun k => k = g) w).setCell (p := ⟨g, i, none⟩) (fun _ => rfl) v
  have hb := h.blk.set_ i v
  rw [hc] at hb
  exact ⟨hb, hO.own h.own (fun k hk e => h.far (by rw [hk, e])), h.base, h.byt, h.below.trans (hO.below h.below.size (fun k hk => by rw [hk]; exact h.base)), hq, h.short, fun x hx => ⟨hO.blk (h.rows x hx).1 (fun e => blk_ne h.blk (h.rows x hx).1 (fun e => (h.rows x hx).2.1 e.symm) e.symm), (h.rows x hx).2⟩⟩
theorem XAt.at_ (h : XAt w0 w g a len cap l p ov out wide S most code R) (q code' : Nat) (hq : q ≤ 8 * len) (hc : code' = code) : XAt w0 (w.setCell ⟨g, 1, none⟩ (.int .i64 (q : Int))) g a len cap l q ov out wide S most code' R := by
  subst hc; exact h.put 1 _ q code' hq rfl
theorem XAt.code_ (h : XAt w0 w g a len cap l p ov out wide S most code R) (code' : Nat) : XAt w0 (w.setCell ⟨g, 6, none⟩ (.int .i64 (code' : Int))) g a len cap l p ov out wide S most code' R := h.put 6 _ p code' h.lt rfl

/-- What get hands back. -/
def Got (w0 : World) (g : Nat) (a : Option Addr) (len cap : Nat) (l : List UInt8) (p : Nat) (ov : Value) (out : List UInt8) (wide : Bool) (S most code n : Nat) (R : List (Nat × TypeId × Array Value)) (e : Ending) (w' : World) : Prop :=
  (8 * len < p + n ∧ e = .returned (.tuple #[.int .i64 0, .bool false]) ∧ Hid (XAt w0 w' g a len cap l p ov out wide S most code R)) ∨
  (p + n ≤ 8 * len ∧ e = .returned (.tuple #[.int .i64 ((num (((bitsOf l).drop p).take n) : Nat) : Int), .bool true]) ∧ Hid (XAt w0 w' g a len cap l (p + n) ov out wide S most code R))
set_option maxRecDepth 100000 in
set_option maxHeartbeats 2000000 in
theorem get_any (n : Nat) (hn : n ≤ 16) (h : Hid (XAt w0 w g a len cap l p ov out wide S most code R)) :
    Calls Tryz.prog 25 #[.pointer (some ⟨g, 0, none⟩), .int .i64 (n : Int)] w (Got w0 g a len cap l p ov out wide S most code n R) := by
  have hp := h.out.lt
  have hs := h.out.short
  have hll : (bitsOf l).length = 8 * len := by rw [bitsOf_len, h.out.byt.len_eq]
  have HQ := Lib.hid (look_any 0 n h (by omega) (by omega))
  have hsz : (txt (((bitsOf l).drop (p + 0)).take n)).size = min n (8 * len - p) := by rw [txt_len, List.length_take, List.length_drop, hll]; rfl
  have HNum := Lib.hid (fun W => refnumber_any (((bitsOf l).drop (p + 0)).take n) W (by rw [List.length_take]; omega))
  have hlt := num_lt (((bitsOf l).drop (p + 0)).take n)
  have h32 : num (((bitsOf l).drop (p + 0)).take n) < 65536 := Nat.lt_of_lt_of_le hlt (by have := Nat.pow_le_pow_right (n := 2) (by omega) (show (((bitsOf l).drop (p + 0)).take n).length ≤ 16 by rw [List.length_take]; omega); simpa using this)
  unfold Got
  rw [Nat.add_zero] at *
  obtain ⟨V, hV⟩ : ∃ V, V = num (((bitsOf l).drop p).take n) := ⟨_, rfl⟩
  rw [← hV] at HNum h32 ⊢
  generalize txt (((bitsOf l).drop p).take n) = t at *
  clear hlt hV hll
  go_enter Tryz.func25, Tryz.ntmps25
  go_wp2_with fail
  refine HQ.out.mono ?_
  rintro e w1 ⟨rfl, hb⟩
  have HX := Lib.hid (h.out.later hb)
  clear hb HQ h
  by_cases hlt : t.size < n
  · go_wp2_with fail
    go_ret2
    exact .inl ⟨by omega, rfl, HX⟩
  · have x1 : w1.cell? ⟨g, 1, none⟩ = some (.int .i64 (p : Int)) := HX.out.blk.cell 1
    have f1 : w1.frozen? ⟨g, 1, none⟩ = false := HX.out.blk.frozen 1
    have hpn : p + n ≤ 8 * len := by omega
    have HX2 := Lib.hid (HX.out.at_ (p + n) code hpn rfl)
    have HP := Lib.hid hpn
    clear HX hsz hpn
    go_upto_region 5 with (fail)
    rw [show ((p + n : Nat) : Int) = (p : Int) + (n : Int) from by omega] at HX2
    generalize w1.setCell ⟨g, 1, none⟩ (.int .i64 ((p : Int) + (n : Int))) = w2 at *
    clear x1 f1
    go_wp2_with fail
    refine (HNum.out w2).mono ?_
    rintro e w3 ⟨rfl, rfl⟩
    go_wp2_with fail
    go_ret2
    exact .inr ⟨HP.out, rfl, HX2⟩

set_option maxRecDepth 100000 in
set_option maxHeartbeats 2000000 in
theorem left_any (h : Hid (XAt w0 w g a len cap l p ov out wide S most code R)) :
    Calls Tryz.prog 55 #[.pointer (some ⟨g, 0, none⟩)] w fun e w' => e = .returned (.int .i64 ((8 * len - p : Nat) : Int)) ∧ Below w.heap.size w w' := by
  have hp := h.out.lt
  have hs := h.out.short
  have x0 : w.cell? ⟨g, 0, none⟩ = some (.slice a len cap) := h.out.blk.cell 0
  have x1 : w.cell? ⟨g, 1, none⟩ = some (.int .i64 (p : Int)) := h.out.blk.cell 1
  obtain ⟨E, hE⟩ : ∃ E, E = 8 * len := ⟨_, rfl⟩
  obtain ⟨D, hD⟩ : ∃ D, D = 8 * len - p := ⟨_, rfl⟩
  rw [← hD]
  have hEI : (8 : Int) * (len : Int) = (E : Int) := by omega
  have hw3 : IntKind.i64.wrap ((8 : Int) * (len : Int)) = (E : Int) := by rw [hEI]; exact IntWalk.i64_in _ (by omega)
  have hDI : (E : Int) - (p : Int) = (D : Int) := by omega
  have hw4 : IntKind.i64.wrap ((E : Int) - (p : Int)) = (D : Int) := by rw [hDI]; exact IntWalk.i64_in _ (by omega)
  clear hE hD h
  go_enter Tryz.func55, Tryz.ntmps55
  go_wp2_with fail
  go_quiet (fail)
  go_wp2_with fail
  go_ret
  exact ⟨by simp, below_drewN (Below.refl _ _) _⟩
theorem end_any (c : Nat) (h : Hid (XAt w0 w g a len cap l p ov out wide S most code R)) :
    Calls Tryz.prog 58 #[.pointer (some ⟨g, 0, none⟩), .int .i64 (c : Int)] w fun e w' => e = .returned (.int .i64 2) ∧ Hid (XAt w0 w' g a len cap l p ov out wide S most c R) := by
  have x6 : w.cell? ⟨g, 6, none⟩ = some (.int .i64 (code : Int)) := h.out.blk.cell 6
  have f6 : w.frozen? ⟨g, 6, none⟩ = false := h.out.blk.frozen 6
  have HX2 := Lib.hid (h.out.code_ c)
  clear h
  go_enter Tryz.func58, Tryz.ntmps58
  go_wp2_with fail
  go_ret
  exact ⟨rfl, HX2⟩
end
end Go.Proofs.YtbjjkhlebdaoaaaGreatDoor.RfC
end

section
/-
  The document's Find over a row of codes, as the machine's symbol.
-/
namespace Go.Proofs.YtbjjkhlebdaoaaaGreatDoor.RfC
open Go.RowKit Go.My BitMath CanMath TabMath CanC TabC

/-- A row of codes in memory. -/
structure CodeRow (w : World) (gl : Nat) (ls : List Nat) : Prop where
  blk : Blk w gl 9 (texts ls).toArray
  ok : InfMath.CodeOk ls
def zs (ls : List Nat) : List Int := ls.map fun n : Nat => (n : Int)
theorem nat_zs (ls : List Nat) : CanC.nat (zs ls) = ls := by
  unfold CanC.nat zs
  rw [List.map_map]
  conv => rhs; rw [← List.map_id ls]
  apply List.map_congr_left
  intro n _
  simp
theorem good_zs {ls : List Nat} (h : InfMath.CodeOk ls) : CanC.Good (zs ls) := by
  refine ⟨by unfold zs; rw [List.length_map]; have := h.len; omega, ?_⟩
  intro x hx
  unfold zs at hx
  obtain ⟨n, hn, rfl⟩ := List.mem_map.1 hx
  have := h.all n hn
  omega
theorem CodeRow.row {w : World} {gl : Nat} {ls : List Nat} (h : CodeRow w gl ls) : RowIn w (some ⟨gl, 0, none⟩) ls.length ls.length (texts ls) :=
  ⟨texts_len ls, Nat.le_refl _, by have := h.ok.len; omega, (fun e => by cases e), .inr ⟨gl, 0, rfl, h.blk.lt, fun i hi => by rw [h.blk.cell, Nat.zero_add]; simp [hi]⟩⟩
theorem sym_ans (ls : List Nat) (bs : List Bool) : ansV (who ls (num (bs.take 15) % 2 ^ (min bs.length 15))) (min bs.length 15) = .tuple #[.int .i64 (((InfMath.sym ls bs).1 : Nat) : Int), .int .i64 (((InfMath.sym ls bs).2.1 : Nat) : Int), .int .i64 (((InfMath.sym ls bs).2.2 : Nat) : Int)] := by
  have hl : (bs.take 15).length = min bs.length 15 := by rw [List.length_take, Nat.min_comm]
  rw [Nat.mod_eq_of_lt (by have := num_lt (bs.take 15); rwa [hl] at this)]
  unfold ansV InfMath.sym
  by_cases h1 : (who ls (num (bs.take 15))).l = 0
  · rw [if_pos h1, if_pos h1]; rfl
  · rw [if_neg h1, if_neg h1]
    by_cases h2 : min bs.length 15 < (who ls (num (bs.take 15))).l
    · rw [if_pos h2, if_pos h2]; rfl
    · rw [if_neg h2, if_neg h2]; rfl
theorem find_sym {w : World} {gl : Nat} {ls : List Nat} (h : CodeRow w gl ls) (bs : List Bool) :
    Calls Tryz.prog 57 #[.slice (some ⟨gl, 0, none⟩) ls.length ls.length, .string (txt (bs.take 15))] w fun e w' => e = .returned (.tuple #[.int .i64 (((InfMath.sym ls bs).1 : Nat) : Int), .int .i64 (((InfMath.sym ls bs).2.1 : Nat) : Int), .int .i64 (((InfMath.sym ls bs).2.2 : Nat) : Int)]) ∧ w = w' := by
  have hr := h.row
  have hk := h.ok.kr
  rw [← nat_zs ls] at hr hk
  have hl : (bs.take 15).length = min bs.length 15 := by rw [List.length_take, Nat.min_comm]
  have := reffind_any (num (bs.take 15)) (min bs.length 15) (txt (bs.take 15)) (by rw [nat_zs ls] at hr ⊢; exact hr) (by rw [lows_num_of _ _ hl]) (by omega) (good_zs h.ok) hk (by rw [nat_zs])
  rw [nat_zs, sym_ans] at this
  exact this
end Go.Proofs.YtbjjkhlebdaoaaaGreatDoor.RfC
end

section
/-
  The document's Codes as rows of codes; the fixed ones.
-/
namespace Go.Proofs.YtbjjkhlebdaoaaaGreatDoor.RfC
open Go.RowKit Go.My BitMath CanMath TabMath CanC

theorem infoI : (Tryz.prog.info? 3).map (fun i => (i.zero, i.size, i.bytes)) = some (some (.int .i64 0), 1, 8) := by kernel_rfl
theorem own_blk {E : TypeId} {B : Nat} {w : World} {g n : Nat} {vs : List Value} (h : OwnV E B w (.slice (some ⟨g, 0, none⟩) n n) vs) (hn : vs.length = n) : Blk w g E vs.toArray := by
  subst hn
  rcases h.2 with ⟨h1, _⟩ | ⟨g', cap, cur, h1, h2, h3, h4, h5, h6, h7⟩
  · cases h1
  · simp only [Value.slice.injEq, Option.some.injEq, Addr.mk.injEq, and_true, true_and] at h1
    obtain ⟨rfl, rfl⟩ := h1
    have e : cur = vs.toArray := by
      apply Array.ext'
      rw [List.take_of_length_le (by simp [h6])] at h7
      rw [h7]
    rw [← e]
    exact h3
theorem zs_append (a b : List Nat) : zs (a ++ b) = zs a ++ zs b := by unfold zs; rw [List.map_append]
theorem zs_len (ls : List Nat) : (zs ls).length = ls.length := by unfold zs; rw [List.length_map]
theorem nat_kr {ls : List Nat} (h : InfMath.CodeOk ls) : kr (CanC.nat (zs ls)) ≤ 32768 := by rw [nat_zs]; exact h.kr
/-- Codes of lengths that may be. -/
theorem codes_row {w : World} {a : Option Addr} {len cap : Nat} {ls : List Nat} (h : RowIn w a len cap ((zs ls).map iv)) (ok : InfMath.CodeOk ls) :
    Calls Tryz.prog 52 #[.slice a len cap] w fun e w' => ∃ g, e = .returned (.tuple #[.slice (some ⟨g, 0, none⟩) ls.length ls.length, .int .i64 0]) ∧ Hid (Blk w' g 9 (texts ls).toArray) ∧ Below w.heap.size w w' :=
  (refcodes_ok h (good_zs ok) (nat_kr ok)).mono fun e w' ⟨g, he, _, ho, hb⟩ => by
    rw [zs_len] at he ho
    rw [nat_zs] at ho
    exact ⟨g, he, Lib.hid (own_blk ho (texts_len ls)), hb⟩
def fixN (k : Nat) : Nat := if k < 144 then 8 else if k < 256 then 9 else if k < 280 then 7 else 8
theorem fixL_len : InfMath.fixL.length = 288 := by decide +kernel
theorem fixL_at : ∀ k : Fin 288, InfMath.fixL.getD k.val 0 = fixN k.val := by decide +kernel
theorem fixL_take (k : Nat) (h : k < 288) : InfMath.fixL.take (k + 1) = InfMath.fixL.take k ++ [fixN k] := by
  have hl : k < InfMath.fixL.length := by rw [fixL_len]; exact h
  have := fixL_at ⟨k, h⟩
  simp only at this
  rw [List.getD_eq_getElem?_getD, List.getElem?_eq_getElem hl] at this
  rw [List.take_succ_eq_append_getElem hl, ← this]
  rfl
theorem fixD_take (k : Nat) (h : k < 32) : InfMath.fixD.take (k + 1) = InfMath.fixD.take k ++ [5] := by
  unfold InfMath.fixD
  rw [List.take_replicate, List.take_replicate, Nat.min_eq_left (by omega), Nat.min_eq_left (by omega), List.replicate_succ']
/-- One number more behind a row of numbers. -/
theorem lit_int (w : World) (v : Nat) : RowIn (w.alloc (.cells #[.int .i64 (v : Int)] 3)) (some ⟨w.heap.size, 0, none⟩) 1 1 ((zs [v]).map iv) := by
  refine ⟨rfl, Nat.le_refl _, by omega, (fun e => by cases e), .inr ⟨w.heap.size, 0, rfl, by simp, fun i hi => ?_⟩⟩
  obtain rfl : i = 0 := by simp [zs] at hi; omega
  rw [(Blk.new w 3 #[.int .i64 (v : Int)]).cell]
  rfl
theorem one_int (v : Nat) : ∀ u ∈ (zs [v]).map iv, u.oneCell' = true := by
  intro u hu
  simp [zs] at hu
  subst hu
  rfl

set_option maxRecDepth 100000 in
set_option maxHeartbeats 8000000 in
theorem fixed_any (w : World) : Calls Tryz.prog 24 #[] w fun e w' => ∃ g1 g2, e = .returned (.tuple #[.slice (some ⟨g1, 0, none⟩) 288 288, .slice (some ⟨g2, 0, none⟩) 32 32]) ∧ Hid (Blk w' g1 9 (texts InfMath.fixL).toArray) ∧ Hid (Blk w' g2 9 (texts InfMath.fixD).toArray) ∧ Below w.heap.size w w' := by
  go_enter Tryz.func24, Tryz.ntmps24
  go_wp2_with fail
  go_loopw [2, 4] (fun lv iv' wr => ∃ k : Nat, k ≤ 288 ∧ iv' = .int .i64 (k : Int) ∧ Hid (OwnV 3 w.heap.size wr lv ((zs (InfMath.fixL.take k)).map iv)) ∧ Hid (Below w.heap.size w wr)) (fun _ iv' _ => 288 - (intOf iv').toNat)
  case atStart => exact ⟨0, by omega, rfl, Lib.hid (OwnV.nil _ _ _), Lib.hid (Below.refl _ _)⟩
  case round =>
    obtain ⟨k, hk, rfl, HO, HB⟩ := hrel
    by_cases hlt : k < 288
    · have HTK := Lib.hid (fixL_take k hlt)
      obtain ⟨n, hn⟩ : ∃ n, n = fixN k := ⟨_, rfl⟩
      rw [← hn] at HTK
      have HOA := Lib.hid (HO.out.below (Nat.le_refl _) ((Below.refl _ wr).alloc (Nat.le_refl _) (.cells #[.int .i64 (n : Int)] 3)))
      have HBA := Lib.hid (HB.out.alloc HB.out.size (.cells #[.int .i64 (n : Int)] 3))
      have HRI := Lib.hid (lit_int wr n)
      have HL : Hid (((zs (InfMath.fixL.take k)).map iv).length = k) := Lib.hid (by rw [List.length_map, zs_len, List.length_take, fixL_len]; omega)
      have hways : (k < 144 ∧ n = 8) ∨ (144 ≤ k ∧ k < 256 ∧ n = 9) ∨ (256 ≤ k ∧ k < 280 ∧ n = 7) ∨ (280 ≤ k ∧ n = 8) := by
        rw [hn]; unfold fixN
        by_cases h1 : k < 144
        · rw [if_pos h1]; omega
        · by_cases h2 : k < 256
          · rw [if_neg h1, if_pos h2]; omega
          · by_cases h3 : k < 280
            · rw [if_neg h1, if_neg h2, if_pos h3]; omega
            · rw [if_neg h1, if_neg h2, if_neg h3]; omega
      clear hn HO HB
      rcases hways with ⟨h1, rfl⟩ | ⟨h1, h2, rfl⟩ | ⟨h1, h2, rfl⟩ | ⟨h1, rfl⟩
      all_goals
        go_wp2_with (at_builtin; refine wpList_append_row (by rfl) (.tmp 27) (.tmp 29) 67 rfl w.heap.size 3 (.int .i64 0) 8 Tryz.underlying67 infoI rfl _ _ (by rfl) HOA.out (some ⟨wr.heap.size, 0, none⟩) 1 1 _ (by rfl) HRI.out (one_int _) (by rw [HL.out]; omega) (by rw [HL.out]; omega) HBA.out.size ?_)
        intro a2 c2 w2 hown hg _
        rw [show (zs (InfMath.fixL.take k)).length = k from by have := HL.out; rwa [List.length_map] at this] at hown ⊢
        have HO2 : Hid (OwnV 3 w.heap.size w2 (.slice a2 (k + 1) c2) ((zs (InfMath.fixL.take (k + 1))).map iv)) := Lib.hid (by rw [HTK.out, zs_append, List.map_append]; exact hown)
        have HB2 := Lib.hid (HOA.out.grown HBA.out hg HBA.out.size)
        clear hown hg HOA HBA HRI HTK HL
        go_wp2_with fail
        go_roundw
        case rel => exact ⟨k + 1, by omega, by go_num, HO2, HB2⟩
        case measure => simp [intOf]; omega
    · rw [List.take_of_length_le (by rw [fixL_len]; omega)] at HO
      have hkI : ¬ (k : Int) < 288 := by omega
      clear hk hlt
      obtain ⟨a1, c1, hv, hr⟩ := HO.out.row
      rw [List.length_map, zs_len, fixL_len] at hv hr
      subst hv
      have HR1 := Lib.hid hr
      clear HO hr
      go_wp2_with fail
      clear hkI
      obtain ⟨W2, hW2⟩ : ∃ W2, W2 = wr := ⟨_, rfl⟩
      rw [← hW2] at HR1 HB
      have HW2 := Lib.hid hW2
      clear hW2
      go_loopw [3, 6] (fun lv iv' wx => ∃ k : Nat, k ≤ 32 ∧ iv' = .int .i64 (k : Int) ∧ Hid (OwnV 3 W2.heap.size wx lv ((zs (InfMath.fixD.take k)).map iv)) ∧ Hid (Below W2.heap.size W2 wx)) (fun _ iv' _ => 32 - (intOf iv').toNat)
      case atStart => exact ⟨0, by omega, rfl, Lib.hid (OwnV.nil _ _ _), Lib.hid (by rw [HW2.out]; exact Below.refl _ _)⟩
      case round =>
        clear HW2
        obtain ⟨k, hk, rfl, HO, HB2⟩ := hrel
        by_cases hlt : k < 32
        · have HTK := Lib.hid (fixD_take k hlt)
          have HOA := Lib.hid (HO.out.below (Nat.le_refl _) ((Below.refl _ wr).alloc (Nat.le_refl _) (.cells #[.int .i64 ((5 : Nat) : Int)] 3)))
          have HBA := Lib.hid (HB2.out.alloc HB2.out.size (.cells #[.int .i64 ((5 : Nat) : Int)] 3))
          have HRI := Lib.hid (lit_int wr 5)
          have hL : (zs (InfMath.fixD.take k)).length = k := by rw [zs_len, List.length_take, show InfMath.fixD.length = 32 from by decide +kernel]; omega
          have HL := Lib.hid hL
          clear hL HO HB2
          go_wp2_with (at_builtin; refine wpList_append_row (by rfl) (.tmp 35) (.tmp 36) 67 rfl W2.heap.size 3 (.int .i64 0) 8 Tryz.underlying67 infoI rfl _ _ (by rfl) HOA.out (some ⟨wr.heap.size, 0, none⟩) 1 1 _ (by rfl) HRI.out (one_int _) (by rw [List.length_map, HL.out]; omega) (by rw [List.length_map, HL.out]; omega) HBA.out.size ?_)
          intro a2 c2 w2 hown hg _
          rw [HL.out] at hown ⊢
          have HO2 : Hid (OwnV 3 W2.heap.size w2 (.slice a2 (k + 1) c2) ((zs (InfMath.fixD.take (k + 1))).map iv)) := Lib.hid (by rw [HTK.out, zs_append, List.map_append]; exact hown)
          have HB3 := Lib.hid (HOA.out.grown HBA.out hg HBA.out.size)
          clear hown hg HOA HBA HRI HTK HL
          go_wp2_with fail
          go_roundw
          case rel => exact ⟨k + 1, by omega, by go_num, HO2, HB3⟩
          case measure => simp [intOf]; omega
        · obtain rfl : k = 32 := by omega
          rw [List.take_of_length_le (by rw [show InfMath.fixD.length = 32 from by decide +kernel]; omega)] at HO
          clear hk hlt
          obtain ⟨a2, c2, hv, hr⟩ := HO.out.row
          rw [List.length_map, zs_len, show InfMath.fixD.length = 32 from by decide +kernel] at hv hr
          subst hv
          have HR2 := Lib.hid hr
          have HC1 := Lib.hid (codes_row (HR1.out.below (Nat.le_refl _) HB2.out) InfMath.fixL_ok)
          have HB4 := Lib.hid (HB.out.trans (HB2.out.mono HB.out.size))
          clear HO hr
          go_wp2_with fail
          refine HC1.out.mono ?_
          rw [fixL_len]
          rintro e w3 ⟨g1, rfl, HK1, hb3⟩
          have HC2 := Lib.hid (codes_row (HR2.out.below (Nat.le_refl _) hb3) InfMath.fixD_ok)
          have HB5 := Lib.hid (HB4.out.trans (hb3.mono HB4.out.size))
          clear hb3
          go_wp2_with fail
          refine HC2.out.mono ?_
          rw [show InfMath.fixD.length = 32 from by decide +kernel]
          rintro e w4 ⟨g2, rfl, HK2, hb4⟩
          have HK3 := Lib.hid (HK1.out.same (hb4.block g1 HK1.out.lt))
          have HB6 := Lib.hid (HB5.out.trans (hb4.mono HB5.out.size))
          clear hb4
          go_wp2_with fail
          go_ret2
          exact ⟨g1, g2, rfl, HK3, HK2, HB6.out⟩
end Go.Proofs.YtbjjkhlebdaoaaaGreatDoor.RfC
end

section
/-
  What Base, Far answer (no program's function).
-/
namespace Go.Proofs.YtbjjkhlebdaoaaaGreatDoor.InfC
open Go.RowKit Go.My BitMath CanMath TabMath WinMath CanC
open InfMath (M Ok Steps Ends CodeOk mu lack fixL fixD)

/-- What Base, Far answer. -/
def ansB (o : Option (Nat × Nat)) : Value := match o with | none => .tuple #[.int .i64 0, .int .i64 0, .bool false] | some (l, x) => .tuple #[.int .i64 (l : Int), .int .i64 (x : Int), .bool true]
def baseZ (z : Int) (wide : Bool) : Option (Nat × Nat) := if z < 0 then none else InfMath.base z.toNat wide
def farZ (z : Int) (wide : Bool) : Option (Nat × Nat) := if z < 0 then none else InfMath.far z.toNat wide
theorem baseZ_nat (v : Nat) (wide : Bool) : baseZ (v : Int) wide = InfMath.base v wide := by unfold baseZ; rw [if_neg (by omega), Int.toNat_natCast]
theorem farZ_nat (v : Nat) (wide : Bool) : farZ (v : Int) wide = InfMath.far v wide := by unfold farZ; rw [if_neg (by omega), Int.toNat_natCast]

theorem lastD_le (wide : Bool) : InfMath.lastD wide ≤ 31 := by cases wide <;> decide

theorem kind_kd (l : List Nat) : CanC.kindN l = ((InfMath.kd l : Nat) : Int) := by
  unfold CanC.kindN InfMath.kd
  repeat' split
  all_goals rfl
end Go.Proofs.YtbjjkhlebdaoaaaGreatDoor.InfC
end

section
/-
  The document's X beside rows of ints of the call's own.
-/
namespace Go.Proofs.YtbjjkhlebdaoaaaGreatDoor.RfC
open Go.RowKit Go.My BitMath CanMath TabMath CanC RefC

section
variable {w0 w w' : World} {g : Nat} {a : Option Addr} {len cap : Nat} {l : List UInt8} {p : Nat} {ov : Value} {out : List UInt8} {wide : Bool} {S most code : Nat} {R A : List (Nat × TypeId × Array Value)}
theorem XAt.less (h : XAt w0 w g a len cap l p ov out wide S most code R) (hA : ∀ x ∈ A, x ∈ R) : XAt w0 w g a len cap l p ov out wide S most code A :=
  ⟨h.blk, h.own, h.base, h.byt, h.below, h.lt, h.short, fun x hx => h.rows x (hA x hx)⟩
theorem XAt.more (h : XAt w0 w g a len cap l p ov out wide S most code R) (hA : ∀ x ∈ A, Blk w x.1 x.2.1 x.2.2 ∧ x.2.1 ≠ 52 ∧ x.2.1 ≠ 5) : XAt w0 w g a len cap l p ov out wide S most code (A ++ R) :=
  ⟨h.blk, h.own, h.base, h.byt, h.below, h.lt, h.short, fun x hx => (List.mem_append.1 hx).elim (hA x) (h.rows x)⟩
/-- What an own row is: blocks that stand. -/
theorem own_rows {E : TypeId} {B : Nat} {v : Value} {vs : List Value} (h : OwnV E B w v vs) : ∃ A : List (Nat × TypeId × Array Value), (∀ x ∈ A, Blk w x.1 x.2.1 x.2.2 ∧ x.2.1 = E) ∧ ∀ w', (∀ x ∈ A, Blk w' x.1 x.2.1 x.2.2) → OwnV E B w' v vs := by
  rcases h.2 with hn | ⟨k, c, cur, h1, h2, h3, h4⟩
  · exact ⟨[], by simp, fun w' _ => ⟨h.1, .inl hn⟩⟩
  · refine ⟨[(k, E, cur)], ?_, fun w' hb => ⟨h.1, .inr ⟨k, c, cur, h1, h2, hb (k, E, cur) (by simp), h4⟩⟩⟩
    intro x hx
    obtain rfl : x = (k, E, cur) := by simpa using hx
    exact ⟨h3, rfl⟩
/-- get beside a row of ints of the call's own. -/
theorem get_own (n : Nat) (hn : n ≤ 16) (h : Hid (XAt w0 w g a len cap l p ov out wide S most code R)) {B : Nat} {v : Value} {vs : List Value} (ho : OwnV 3 B w v vs) :
    Calls Tryz.prog 25 #[.pointer (some ⟨g, 0, none⟩), .int .i64 (n : Int)] w fun e w' => Got w0 g a len cap l p ov out wide S most code n R e w' ∧ Hid (OwnV 3 B w' v vs) := by
  obtain ⟨A, hA, hown⟩ := own_rows ho
  have hx := h.out.more (A := A) (fun x hx => ⟨(hA x hx).1, by rw [(hA x hx).2]; decide, by rw [(hA x hx).2]; decide⟩)
  refine (get_any n hn (Lib.hid hx)).mono fun e w' hg => ?_
  have key : ∀ q, Hid (XAt w0 w' g a len cap l q ov out wide S most code (A ++ R)) → Hid (XAt w0 w' g a len cap l q ov out wide S most code R) ∧ Hid (OwnV 3 B w' v vs) := fun q hq =>
    ⟨Lib.hid (hq.out.less fun x hx => List.mem_append_right _ hx), Lib.hid (hown w' fun x hx => (hq.out.rows x (List.mem_append_left _ hx)).1)⟩
  rcases hg with ⟨h1, h2, h3⟩ | ⟨h1, h2, h3⟩
  · exact ⟨.inl ⟨h1, h2, (key _ h3).1⟩, (key _ h3).2⟩
  · exact ⟨.inr ⟨h1, h2, (key _ h3).1⟩, (key _ h3).2⟩
theorem ownV_ne {E : TypeId} {B : Nat} {v : Value} {vs : List Value} {k : Nat} {t : TypeId} {cs : Array Value} (ho : OwnV E B w v vs) (hb : Blk w k t cs) (ht : t ≠ E) : v.ownBlock ≠ some k := by
  rcases ho.2 with ⟨rfl, _⟩ | ⟨g', cap, cur, rfl, _, hgg, _⟩
  · simp [Value.ownBlock]
  · intro h
    simp only [Value.ownBlock, Option.some.injEq] at h
    subst h
    unfold Blk at hb
    rw [hgg] at hb
    injection hb with hb
    injection hb with _ hb
    exact ht hb.symm
/-- An append to a row of ints leaves X as it is. -/
theorem XAt.grown (h : XAt w0 w g a len cap l p ov out wide S most code R) {B : Nat} {v : Value} {vs : List Value} (ho : OwnV 3 B w v vs) (hB : w0.heap.size ≤ B) (hR : ∀ x ∈ R, x.2.1 ≠ 3) {o : Obj} (hg : (w.alloc o).grownBy w' v.ownBlock) : XAt w0 w' g a len cap l p ov out wide S most code R := by
  have hO : Only (fun k => v.ownBlock = some k) w w' := ((Only.refl _ w).alloc o).grown hg (fun k _ hk => hk)
  have hne := ownV_ne ho h.blk (by decide)
  refine ⟨hO.blk h.blk hne, hO.own h.own (fun k hk e => ?_), h.base, h.byt, h.below.trans (hO.below h.below.size (fun k hk => Nat.le_trans hB (ho.base k hk))), h.lt, h.short, fun x hx => ⟨hO.blk (h.rows x hx).1 (ownV_ne ho (h.rows x hx).1 (hR x hx)), (h.rows x hx).2⟩⟩
  rcases ho.2 with ⟨rfl, _⟩ | ⟨g', cap', cur, rfl, _, hgg, _⟩
  · cases e
  · simp only [Value.ownBlock, Option.some.injEq] at e
    subst e
    exact own_len_ne h.own (show Blk w g' 3 cur from hgg) (by decide) hk
/-- A cell of x turned: a row of ints stays. -/
theorem ownV_put {B : Nat} {v : Value} {vs : List Value} (h : XAt w0 w g a len cap l p ov out wide S most code R) (ho : OwnV 3 B w v vs) (i : Nat) (u : Value) : OwnV 3 B (w.setCell ⟨g, i, none⟩ u) v vs :=
  ho.only ((Only.refl (fun k => k = g) w).setCell (p := ⟨g, i, none⟩) (fun _ => rfl) u) (fun k hk e => ownV_ne ho h.blk (by decide) (by rw [hk, e]))
/-- The document's Kind. -/
theorem kind_row {ls : List Nat} {ar : Option Addr} {n c : Nat} (h : RowIn w ar n c ((zs ls).map iv)) (hall : ∀ x ∈ ls, x ≤ 15) (hl : ls.length ≤ 65536) :
    Calls Tryz.prog 56 #[.slice ar n c] w fun e w' => e = .returned (.int .i64 ((InfMath.kd ls : Nat) : Int)) ∧ w = w' := by
  have hg : CanC.Good (zs ls) := by
    refine ⟨by rw [zs_len]; exact hl, fun x hx => ?_⟩
    unfold zs at hx
    obtain ⟨n, hn, rfl⟩ := List.mem_map.1 hx
    have := hall n hn
    omega
  have := refkind_good h hg
  rw [nat_zs, InfC.kind_kd] at this
  exact this
end
end Go.Proofs.YtbjjkhlebdaoaaaGreatDoor.RfC
end

section
/-
  The document's Base, Far.
-/
namespace Go.Proofs.YtbjjkhlebdaoaaaGreatDoor.InfC
open Go.RowKit Go.My BitMath CanMath TabMath WinMath CanC
open InfMath (M Ok Steps Ends CodeOk mu lack fixL fixD)

theorem rbase_no (z : Int) (wide : Bool) (w : World) (h : z < 257 ∨ 285 < z) :
    Calls Tryz.prog 59 #[.int .i64 z, .bool wide] w fun e w' => e = .returned (.tuple #[.int .i64 0, .int .i64 0, .bool false]) ∧ w = w' := by
  by_cases h1 : z < 257
  · go_enter Tryz.func59, Tryz.ntmps59
    go_wp2_with fail
    go_ret3
    exact ⟨rfl, rfl⟩
  · have h2 : decide (z > 285) = true := by simp; omega
    go_enter Tryz.func59, Tryz.ntmps59
    go_wp2_with fail
    go_ret3
    exact ⟨rfl, rfl⟩
theorem rbase_low (v : Nat) (wide : Bool) (w : World) (h1 : 257 ≤ v) (h2 : v < 265) :
    Calls Tryz.prog 59 #[.int .i64 (v : Int), .bool wide] w fun e w' => e = .returned (.tuple #[.int .i64 ((v - 254 : Nat) : Int), .int .i64 0, .bool true]) ∧ w = w' := by
  rcases (by omega : v = 257 ∨ v = 258 ∨ v = 259 ∨ v = 260 ∨ v = 261 ∨ v = 262 ∨ v = 263 ∨ v = 264) with rfl | rfl | rfl | rfl | rfl | rfl | rfl | rfl
  all_goals
    clear h1 h2
    go_enter Tryz.func59, Tryz.ntmps59
    go_wp2_with fail
    go_ret3
    exact ⟨rfl, rfl⟩
theorem rbase_mid (v : Nat) (wide : Bool) (w : World) (h1 : 265 ≤ v) (h2 : v < 285) :
    Calls Tryz.prog 59 #[.int .i64 (v : Int), .bool wide] w fun e w' => e = .returned (.tuple #[.int .i64 ((3 + (4 + (v - 265) % 4) * 2 ^ ((v - 265) / 4 + 1) : Nat) : Int), .int .i64 (((v - 265) / 4 + 1 : Nat) : Int), .bool true]) ∧ w = w' := by
  rcases (by omega : v = 265 ∨ v = 266 ∨ v = 267 ∨ v = 268 ∨ v = 269 ∨ v = 270 ∨ v = 271 ∨ v = 272 ∨ v = 273 ∨ v = 274 ∨ v = 275 ∨ v = 276 ∨ v = 277 ∨ v = 278 ∨ v = 279 ∨ v = 280 ∨ v = 281 ∨ v = 282 ∨ v = 283 ∨ v = 284) with rfl | rfl | rfl | rfl | rfl | rfl | rfl | rfl | rfl | rfl | rfl | rfl | rfl | rfl | rfl | rfl | rfl | rfl | rfl | rfl
  all_goals
    clear h1 h2
    go_enter Tryz.func59, Tryz.ntmps59
    go_wp2_with fail
    go_ret3
    exact ⟨rfl, rfl⟩
theorem rbase_top (wide : Bool) (w : World) :
    Calls Tryz.prog 59 #[.int .i64 285, .bool wide] w fun e w' => e = .returned (ansB (InfMath.base 285 wide)) ∧ w = w' := by
  cases wide
  all_goals
    go_enter Tryz.func59, Tryz.ntmps59
    go_wp2_with fail
    go_ret3
    exact ⟨rfl, rfl⟩
theorem rbase_any (z : Int) (wide : Bool) (w : World) :
    Calls Tryz.prog 59 #[.int .i64 z, .bool wide] w fun e w' => e = .returned (ansB (baseZ z wide)) ∧ w = w' := by
  by_cases h : z < 257 ∨ 285 < z
  · have e : baseZ z wide = none := by
      unfold baseZ InfMath.base
      by_cases h0 : z < 0
      · rw [if_pos h0]
      · rw [if_neg h0, if_pos (by omega)]
    rw [e]
    exact rbase_no z wide w h
  · obtain ⟨v, rfl⟩ : ∃ v : Nat, z = (v : Int) := ⟨z.toNat, by omega⟩
    rw [baseZ_nat]
    by_cases h1 : v < 265
    · have e : InfMath.base v wide = some (v - 254, 0) := by unfold InfMath.base; rw [if_neg (by omega), if_pos h1]
      rw [e]
      exact rbase_low v wide w (by omega) h1
    · by_cases h2 : v < 285
      · have e : InfMath.base v wide = some (3 + (4 + (v - 265) % 4) * 2 ^ ((v - 265) / 4 + 1), (v - 265) / 4 + 1) := by unfold InfMath.base; rw [if_neg (by omega), if_neg h1, if_pos h2]
        rw [e]
        exact rbase_mid v wide w (by omega) h2
      · obtain rfl : v = 285 := by omega
        exact rbase_top wide w

theorem rfar_neg (z : Int) (wide : Bool) (w : World) (h : z < 0) :
    Calls Tryz.prog 60 #[.int .i64 z, .bool wide] w fun e w' => e = .returned (.tuple #[.int .i64 0, .int .i64 0, .bool false]) ∧ w = w' := by
  go_enter Tryz.func60, Tryz.ntmps60
  go_wp2_with fail
  go_ret3
  exact ⟨rfl, rfl⟩
theorem rfar_no (v : Nat) (wide : Bool) (w : World) (h : InfMath.lastD wide < v) :
    Calls Tryz.prog 60 #[.int .i64 (v : Int), .bool wide] w fun e w' => e = .returned (.tuple #[.int .i64 0, .int .i64 0, .bool false]) ∧ w = w' := by
  by_cases h1 : 31 < v
  · have h0 : decide ((v : Int) < 0) = false := by simp
    have h2 : decide ((v : Int) > 31) = true := by simp; omega
    clear h
    go_enter Tryz.func60, Tryz.ntmps60
    go_wp2_with fail
    go_ret3
    exact ⟨rfl, rfl⟩
  · cases wide with
    | true => unfold InfMath.lastD at h; simp at h; omega
    | false =>
      have : v = 30 ∨ v = 31 := by unfold InfMath.lastD at h; simp at h; omega
      clear h h1
      rcases this with rfl | rfl
      all_goals
        go_enter Tryz.func60, Tryz.ntmps60
        go_wp2_with fail
        go_ret3
        exact ⟨rfl, rfl⟩
theorem rfar_low (v : Nat) (wide : Bool) (w : World) (h : v < 4) :
    Calls Tryz.prog 60 #[.int .i64 (v : Int), .bool wide] w fun e w' => e = .returned (.tuple #[.int .i64 ((1 + v : Nat) : Int), .int .i64 0, .bool true]) ∧ w = w' := by
  rcases (by omega : v = 0 ∨ v = 1 ∨ v = 2 ∨ v = 3) with rfl | rfl | rfl | rfl
  all_goals
    go_enter Tryz.func60, Tryz.ntmps60
    go_wp2_with fail
    go_ret3
    exact ⟨rfl, rfl⟩
theorem rfar_mid (v : Nat) (wide : Bool) (w : World) (h1 : 4 ≤ v) (h : v ≤ InfMath.lastD wide) :
    Calls Tryz.prog 60 #[.int .i64 (v : Int), .bool wide] w fun e w' => e = .returned (.tuple #[.int .i64 ((1 + (2 + v % 2) * 2 ^ (v / 2 - 1) : Nat) : Int), .int .i64 ((v / 2 - 1 : Nat) : Int), .bool true]) ∧ w = w' := by
  have hle := lastD_le wide
  have hw : 30 ≤ v → wide = true := by cases wide; (intro h2; unfold InfMath.lastD at h; simp at h; omega); (intro _; rfl)
  rcases (by omega : v = 4 ∨ v = 5 ∨ v = 6 ∨ v = 7 ∨ v = 8 ∨ v = 9 ∨ v = 10 ∨ v = 11 ∨ v = 12 ∨ v = 13 ∨ v = 14 ∨ v = 15 ∨ v = 16 ∨ v = 17 ∨ v = 18 ∨ v = 19 ∨ v = 20 ∨ v = 21 ∨ v = 22 ∨ v = 23 ∨ v = 24 ∨ v = 25 ∨ v = 26 ∨ v = 27 ∨ v = 28 ∨ v = 29 ∨ v = 30 ∨ v = 31) with
    rfl | rfl | rfl | rfl | rfl | rfl | rfl | rfl | rfl | rfl | rfl | rfl | rfl | rfl | rfl | rfl | rfl | rfl | rfl | rfl | rfl | rfl | rfl | rfl | rfl | rfl | rfl | rfl
  all_goals
    go_enter Tryz.func60, Tryz.ntmps60
    go_wp2_with fail
    go_ret3
    exact ⟨rfl, rfl⟩
theorem rfar_any (z : Int) (wide : Bool) (w : World) :
    Calls Tryz.prog 60 #[.int .i64 z, .bool wide] w fun e w' => e = .returned (ansB (farZ z wide)) ∧ w = w' := by
  by_cases h : z < 0
  · have e : farZ z wide = none := by unfold farZ; rw [if_pos h]
    rw [e]
    exact rfar_neg z wide w h
  · obtain ⟨v, rfl⟩ : ∃ v : Nat, z = (v : Int) := ⟨z.toNat, by omega⟩
    rw [farZ_nat]
    by_cases h1 : InfMath.lastD wide < v
    · have e : InfMath.far v wide = none := by unfold InfMath.far; rw [if_pos h1]
      rw [e]
      exact rfar_no v wide w h1
    · by_cases h2 : v < 4
      · have e : InfMath.far v wide = some (1 + v, 0) := by unfold InfMath.far; rw [if_neg h1, if_pos h2]
        rw [e]
        exact rfar_low v wide w h2
      · have e : InfMath.far v wide = some (1 + (2 + v % 2) * 2 ^ (v / 2 - 1), v / 2 - 1) := by unfold InfMath.far; rw [if_neg h1, if_neg h2]
        rw [e]
        exact rfar_mid v wide w (by omega) (by omega)
end Go.Proofs.YtbjjkhlebdaoaaaGreatDoor.InfC
end

section
/-
  Laws of single operations over a frame that is a letter (as in PkLsA), for the document's token.
-/
namespace Go.Proofs.YtbjjkhlebdaoaaaGreatDoor.RfC
open Go.RowKit Go.My

theorem x_nil {a : Act} {o : Oper} (s : Operand) {p : Addr} {w : World} (ho : o.op = .nilCheck s) (hs : a.eval s = .pointer (some p)) : (execOp a.eval o).run Tryz.prog w = .ok (.value (.pointer (some p))) w := by
  unfold execOp; rw [ho]; simp only [hs]; rfl
theorem x_field2 {a : Act} {o : Oper} (s : Operand) {g : Nat} {w : World} (ho : o.op = .fieldAddr 52 s 2) (hs : a.eval s = .pointer (some ⟨g, 0, none⟩)) : (execOp a.eval o).run Tryz.prog w = .ok (.value (.pointer (some ⟨g, 2, none⟩))) w := by
  unfold execOp; rw [ho]; simp only [hs]
  go_simp
theorem x_len {a : Act} {o : Oper} (s : Operand) {ad : Option Addr} {n c : Nat} {w : World} (ho : o.op = .call { callee := .builtin .len, args := #[s], argTypes := #[22] }) (hs : a.eval s = .slice ad n c) : (execOp a.eval o).run Tryz.prog w = .ok (.value (.int .i64 (n : Int))) w := by
  unfold execOp; rw [ho]
  simp only [resolve, List.map_toArray, List.map_cons, List.map_nil, hs]
  go_simp
theorem x_sub {a : Act} {o : Oper} (s t : Operand) {x y z : Int} {w : World} (ho : o.op = Op.binOp BinOp.sub 3 s t 3) (hs : a.eval s = .int .i64 x) (ht : a.eval t = .int .i64 y) (hz : IntKind.i64.wrap (x - y) = z) :
    (execOp a.eval o).run Tryz.prog w = .ok (.value (.int .i64 z)) w := by
  unfold execOp
  rw [ho]
  simp only [hs, ht]
  go_simp
theorem x_idx {a : Act} {o : Oper} (s i : Operand) {b off len cap k : Nat} {w : World} (ho : o.op = Op.indexAddr 22 s i) (hs : a.eval s = .slice (some ⟨b, off, none⟩) len cap) (hi : a.eval i = .int .i64 (k : Int)) (hk : k < len) :
    (execOp a.eval o).run Tryz.prog w = .ok (.value (.pointer (some ⟨b, off + k, none⟩))) w := by
  have hki : (k : Int) < (len : Int) := by omega
  unfold execOp
  rw [ho]
  simp only [hs, hi]
  go_simp
theorem x_load {a : Act} {o : Oper} (p : Operand) {x : Addr} {y : Int} {w : World} (ho : o.op = Op.load 5 p) (hp : a.eval p = .pointer (some x)) (hc : w.cell? x = some (.int .u8 y)) :
    (execOp a.eval o).run Tryz.prog w = .ok (.value (.int .u8 y)) w := by
  unfold execOp
  rw [ho]
  simp only [hp]
  go_simp
theorem x_loads {a : Act} {o : Oper} (p : Operand) {x : Addr} {ad : Option Addr} {n c : Nat} {w : World} (ho : o.op = Op.load 22 p) (hp : a.eval p = .pointer (some x)) (hc : w.cell? x = some (.slice ad n c)) :
    (execOp a.eval o).run Tryz.prog w = .ok (.value (.slice ad n c)) w := by
  unfold execOp
  rw [ho]
  simp only [hp]
  go_simp
theorem x_build {a : Act} {o : Oper} (s : Operand) {y : Int} {w : World} (ho : o.op = Op.buildSlice 22 1 #[(0, s)]) (hs : a.eval s = .int .u8 y) :
    (execOp a.eval o).run Tryz.prog w = .ok (.value (.slice (some ⟨w.heap.size, 0, none⟩) 1 1)) (w.alloc (.cells #[.int .u8 y] 5)) := by
  unfold execOp
  rw [ho]
  simp only [List.map_toArray, List.map_cons, List.map_nil, hs]
  go_simp
theorem x_store {a : Act} {o : Oper} (p v : Operand) {x : Addr} {ad ad' : Option Addr} {n c n' c' : Nat} {w : World} (ho : o.op = Op.store 22 p v) (hp : a.eval p = .pointer (some x)) (hv : a.eval v = .slice ad n c) (hc : w.cell? x = some (.slice ad' n' c')) (hf : w.frozen? x = false) :
    (execOp a.eval o).run Tryz.prog w = .ok .skip (w.setCell x (.slice ad n c)) := by
  unfold execOp
  rw [ho]
  simp only [hp, hv]
  go_simp
end Go.Proofs.YtbjjkhlebdaoaaaGreatDoor.RfC
end
