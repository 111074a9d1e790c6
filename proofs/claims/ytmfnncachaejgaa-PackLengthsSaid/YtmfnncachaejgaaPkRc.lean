/-
  The document's Cost; masked numbers.
-/
import Derived.Test.YtmfnncachaejgaaPkCst
namespace Go.Proofs.Ytmfnncachaejgaa.PkC
open Go.RowKit Go.My PackMath

section
variable {A B : List Nat} {a b : Option Addr} {la ca lb cb : Nat} {w : World}
set_option maxRecDepth 100000 in
set_option maxHeartbeats 4000000 in
theorem refcost_any (hA : RowIn w a la ca (lv A)) (hB : RowIn w b lb cb (lv B)) (hM : Modest A B) :
    Calls Try.prog 12 #[.slice a la ca, .slice b lb cb] w fun e w' => e = .returned (.int .i64 ((prd A B (min la lb) : Nat) : Int)) ∧ ∃ q, w' = w.drewN q := by
  have h1 := lv_size hA
  have h2 := lv_size hB
  obtain ⟨m, hm⟩ : ∃ m, m = min la lb := ⟨_, rfl⟩
  have hml : m ≤ la ∧ m ≤ lb ∧ m ≤ 1000 := by have := hM.1; omega
  have HA := Lib.hid hA
  have HB := Lib.hid hB
  have HMM := Lib.hid hM
  have H1 := Lib.hid h1
  have H2 := Lib.hid h2
  have HML := Lib.hid hml
  have HMI := Lib.hid hm
  have hm1000 : m ≤ 1000 := hml.2.2
  rw [← hm]
  clear hA hB hM h1 h2 hml hm
  go_enter Try.func12, Try.ntmps12
  go_wp2_with fail
  go_loopw [6, 5] (fun s s5 wr => ∃ i q : Nat, s = .int .i64 (i : Int) ∧ s5 = .int .i64 ((prd A B i : Nat) : Int) ∧ i ≤ m ∧ Hid (wr = w.drewN q)) (fun s _ _ => m - (intOf s).toNat)
  case atStart => exact ⟨0, 0, rfl, rfl, Nat.zero_le _, Lib.hid rfl⟩
  case round =>
    obtain ⟨i, q, rfl, rfl, hi, HW⟩ := hrel
    by_cases hlt : i < m
    · as_aux_lemma =>
      have hm := HML.out
      obtain ⟨ab, ao, rfl⟩ := HA.out.some_ (by omega)
      obtain ⟨bb, bo, rfl⟩ := HB.out.some_ (by omega)
      have c1 : wr.cell? ⟨ab, ao + i, none⟩ = some (.int .i64 ((A.getD i 0 : Nat) : Int)) := by rw [HW.out, drewN_cell]; exact lv_cell HA.out i (by rw [H1.out]; omega)
      have c2 : wr.cell? ⟨bb, bo + i, none⟩ = some (.int .i64 ((B.getD i 0 : Nat) : Int)) := by rw [HW.out, drewN_cell]; exact lv_cell HB.out i (by rw [H2.out]; omega)
      have b1 : (i : Int) < (la : Int) := by omega
      have b2 : (i : Int) < (lb : Int) := by omega
      have HP : Hid (prd A B (i + 1) = prd A B i + A.getD i 0 * B.getD i 0) := Lib.hid (prd_succ A B i)
      have q1 := prd_le HMM.out (i + 1)
      have q2 : (i + 1) * 1125899906842624 ≤ 1000 * 1125899906842624 := Nat.mul_le_mul_right _ (by omega)
      rw [prd_succ] at q1
      obtain ⟨z, hz⟩ : ∃ z, z = A.getD i 0 * B.getD i 0 := ⟨_, rfl⟩
      obtain ⟨p, hp⟩ : ∃ p, p = prd A B i := ⟨_, rfl⟩
      rw [← hz, ← hp] at q1 HP
      have e3 : IntKind.i64.wrap (((A.getD i 0 : Nat) : Int) * ((B.getD i 0 : Nat) : Int)) = (z : Int) := by
        have : ((A.getD i 0 : Nat) : Int) * ((B.getD i 0 : Nat) : Int) = (z : Int) := by rw [hz]; push_cast; rfl
        rw [this, IntKind.wrap_i64]; omega
      have e4 : IntKind.i64.wrap ((p : Int) + (z : Int)) = ((p + z : Nat) : Int) := by rw [IntKind.wrap_i64]; omega
      rw [← hp]
      generalize A.getD i 0 = x at *
      generalize B.getD i 0 = y at *
      clear hz hp hm q1 q2
      obtain ⟨pz, hpz⟩ : ∃ pz, pz = p + z := ⟨_, rfl⟩
      rw [← hpz] at e4 HP
      clear hpz
      go_wp2_with fail
      go_quiet (fail)
      have HW2 : Hid (wr.drewN nq = w.drewN (q + nq)) := Lib.hid (by rw [HW.out, World.drewN_drewN])
      clear HW c1 c2
      generalize wr.drewN nq = w2 at *
      go_wp2_with fail
      go_roundw
      case measure => simp [intOf]; omega
      case rel => exact ⟨i + 1, q + nq, by simp, by rw [HP.out], by omega, HW2⟩
    · obtain rfl : i = m := by omega
      by_cases hla : i < la
      · as_aux_lemma =>
        have g1 : (i : Int) < (la : Int) := by omega
        have g2 : ¬ (i : Int) < (lb : Int) := by have := HMI.out; omega
        go_wp2_with fail
        go_ret
        exact ⟨rfl, q, HW.out⟩
      · as_aux_lemma =>
        have g1 : ¬ (i : Int) < (la : Int) := by omega
        go_wp2_with fail
        go_ret
        exact ⟨rfl, q, HW.out⟩
end

/-! ### masked numbers -/
def msk (y : Int) : Nat := (y % 1048576).toNat
theorem msk_lt (y : Int) : msk y < 1048576 := by unfold msk; omega
theorem msk_and (y : Int) : bits .and .i64 y 1048575 = ((msk y : Nat) : Int) := by
  rw [i64_and_mask y 20 (by omega) 1048575 1048576 rfl rfl]
  unfold msk
  omega
theorem msk_getD (ys : List Int) (f : Int → Nat) (i : Nat) (h : i < ys.length) : (ys.map f).getD i 0 = f ys[i] := by
  simp [List.getD_eq_getElem?_getD, h]
theorem take_one {α β : Type} (ys : List α) (f : α → β) (i : Nat) (h : i < ys.length) : (ys.take (i + 1)).map f = (ys.take i).map f ++ [f ys[i]] := by
  rw [List.take_succ_eq_append_getElem h, List.map_append]; rfl
theorem ints_row {w : World} {a : Option Addr} {len cap : Nat} {zs : List Int}
    (h : (a = none ∧ len = 0 ∧ cap = 0 ∧ zs = []) ∨
      ∃ x, a = some x ∧ len ≤ cap ∧ cap ≤ maxLen ∧ zs.length = cap ∧ (∀ i, i < zs.length → w.cell? (x.add i) = some (.int .i64 (zs.getD i 0))) ∧ ∀ n ∈ zs, (Lit.int .i64 n).wf = true) : ∃ ys : List Int, RowIn w a len cap (ys.map fun z => Value.int .i64 z) ∧ ys.length = len := by
  rcases h with ⟨rfl, rfl, rfl, rfl⟩ | ⟨x, rfl, h1, h2, h3, h4, h5⟩
  · exact ⟨[], RowIn.none_ w, rfl⟩
  · unfold maxLen at h2
    refine ⟨zs.take len, ?_, by simp; omega⟩
    refine ⟨by simp; omega, h1, h2, (fun h => by cases h), ?_⟩
    by_cases h0 : len = 0
    · exact .inl h0
    · right
      obtain ⟨b, off, spot⟩ := x
      have hc := h4 0 (by omega)
      obtain rfl : spot = Option.none := by simpa [Addr.add] using World.cell?_spot hc
      refine ⟨b, off, rfl, block_lt_of_cell hc, fun i hi => ?_⟩
      have hi' : i < zs.length := by simp at hi; omega
      have := h4 i hi'
      rw [addr_add] at this
      rw [this, List.getElem_map, List.getElem_take, List.getD_eq_getElem?_getD, List.getElem?_eq_getElem hi']
      rfl
end Go.Proofs.Ytmfnncachaejgaa.PkC
