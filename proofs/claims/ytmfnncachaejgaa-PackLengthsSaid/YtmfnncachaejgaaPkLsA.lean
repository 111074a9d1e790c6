/-
  The document's Least: what is plain in it (a swap, sorted rows, a step of a merge), and the law of an append in a drawn region.
-/
import Derived.Test.YtmfnncachaejgaaPkL3
import Derived.BigRegion
import Derived.Deep.RegionLaw
import Derived.Test.YtmfnncachaejgaaOrd
namespace Go.Proofs.Ytmfnncachaejgaa.PkC
open Go.Shelf Go.RowKit Go.My PackMath

theorem own_some {E : TypeId} {base : Nat} {w : World} {a : Option Addr} {n c : Nat} {vs : List Value} (h : OwnV E base w (.slice a n c) vs) (h0 : 0 < vs.length) : ∃ g, a = some ⟨g, 0, none⟩ := by
  rcases h.2 with ⟨e, h0'⟩ | ⟨g, cap, cur, e, _⟩
  · omega
  · injection e with e1; exact ⟨g, e1⟩
theorem lv_set (l : List Nat) (i v : Nat) : (lv l).set i (.int .i64 ((v : Nat) : Int)) = lv (l.set i v) := by
  unfold lv; rw [List.map_set]
theorem swap_at (P R : List Nat) (x v j : Nat) (hj : P.length = j) : ((P ++ x :: v :: R).set j v).set (j + 1) x = P ++ v :: x :: R := by
  subst hj; simp
/-- Where a new count stands. -/
structure Ins (X : List Nat) (v k : Nat) (Y : List Nat) : Prop where
  le : k ≤ X.length
  is_ : Y = X.take k ++ v :: X.drop k
  up : ∀ x ∈ X.drop k, v ≤ x
theorem ins_start (X : List Nat) (v : Nat) : Ins X v X.length (X ++ [v]) := ⟨Nat.le_refl _, by simp, by simp⟩
theorem Ins.at_k {X Y : List Nat} {v k : Nat} (h : Ins X v k Y) : Y.getD k 0 = v := by
  rw [h.is_, List.getD_eq_getElem?_getD, List.getElem?_append_right (by simp [h.le])]
  have := h.le
  simp [Nat.min_eq_left h.le]
theorem Ins.below {X Y : List Nat} {v k j : Nat} (h : Ins X v k Y) (hj : j < k) : Y.getD j 0 = X.getD j 0 := by
  have := h.le
  rw [h.is_, List.getD_eq_getElem?_getD, List.getElem?_append_left (by simp; omega), List.getElem?_take, if_pos hj, List.getD_eq_getElem?_getD]
theorem Ins.len {X Y : List Nat} {v k : Nat} (h : Ins X v k Y) : Y.length = X.length + 1 := by
  have := h.le
  rw [h.is_]; simp; omega
theorem Ins.step {X Y : List Nat} {v j x : Nat} (h : Ins X v (j + 1) Y) (hx : X.getD j 0 = x) (hv : v < x) : Ins X v j ((Y.set j v).set (j + 1) x) := by
  have hj : j < X.length := h.le
  have e : X[j] = x := by rw [← hx, List.getD_eq_getElem?_getD, List.getElem?_eq_getElem hj]; rfl
  have ed : X.drop j = x :: X.drop (j + 1) := by rw [List.drop_eq_getElem_cons hj, e]
  refine ⟨by omega, ?_, fun y hy => ?_⟩
  · rw [h.is_, List.take_succ_eq_append_getElem hj, e, ed, List.append_assoc]
    exact swap_at _ _ _ _ _ (by simp; omega)
  · rw [ed] at hy
    rcases List.mem_cons.1 hy with rfl | hy
    · omega
    · exact h.up y hy
theorem Ins.done {X Y : List Nat} {v k : Nat} (h : Ins X v k Y) (hX : Srt X) (hk : ∀ j, k = j + 1 → X.getD j 0 ≤ v) : Srt Y ∧ Y.Perm (X ++ [v]) := by
  have hl := h.le
  constructor
  · rw [h.is_]
    have hX2 : Srt (X.take k ++ X.drop k) := by rw [List.take_append_drop]; exact hX
    obtain ⟨p1, p2, p3⟩ := List.pairwise_append.1 hX2
    refine List.pairwise_append.2 ⟨p1, List.pairwise_cons.2 ⟨h.up, p2⟩, fun a ha b hb => ?_⟩
    rcases List.mem_cons.1 hb with rfl | hb
    · obtain ⟨i, hi, rfl⟩ := List.getElem_of_mem ha
      rw [List.length_take] at hi
      have h1 := hk (k - 1) (by omega)
      have h2 := Srt.get hX (i := i) (j := k - 1) (by omega) (by omega)
      rw [List.getElem_take]
      rw [List.getD_eq_getElem?_getD, List.getElem?_eq_getElem (by omega)] at h2
      exact Nat.le_trans h2 h1
    · exact p3 a ha b hb
  · rw [h.is_]
    refine List.perm_middle.trans ?_
    rw [List.take_append_drop]
    exact (List.perm_append_comm (l₁ := [v]) (l₂ := X))
/-- Where a merge stands. -/
structure Mrgs (A B : List Nat) (i k : Nat) (D : List Nat) : Prop where
  iA : i ≤ A.length
  kB : k ≤ B.length
  is_ : D ++ ws (mrg (A.drop i) (B.drop k)) = ws (mrg A B)
  len : D.length = i + k
theorem mrgs_start (A B : List Nat) : Mrgs A B 0 0 [] := ⟨Nat.zero_le _, Nat.zero_le _, by simp, rfl⟩
theorem getD_at (l : List Nat) (i : Nat) (h : i < l.length) : l.getD i 0 = l[i] := by rw [List.getD_eq_getElem?_getD, List.getElem?_eq_getElem h]; rfl
theorem Mrgs.leaf {A B D : List Nat} {i k : Nat} (h : Mrgs A B i k D) (hi : i < A.length) (hc : k < B.length → A.getD i 0 ≤ B.getD k 0) : Mrgs A B (i + 1) k (D ++ [A.getD i 0]) := by
  refine ⟨hi, h.kB, ?_, by rw [List.length_append, h.len]; simp; omega⟩
  rw [← h.is_, List.append_assoc]
  congr 1
  rw [List.drop_eq_getElem_cons hi, getD_at _ _ hi]
  by_cases hk : k < B.length
  · have := hc hk
    rw [getD_at _ _ hi, getD_at _ _ hk] at this
    rw [List.drop_eq_getElem_cons hk, mrg_le _ _ this, ws_cons]; rfl
  · have ek : B.drop k = [] := List.drop_eq_nil_of_le (by omega)
    rw [ek, mrg_cn, ws_cons]; rfl
theorem Mrgs.pack {A B D : List Nat} {i k : Nat} (h : Mrgs A B i k D) (hk : k < B.length) (hc : i < A.length → B.getD k 0 < A.getD i 0) : Mrgs A B i (k + 1) (D ++ [B.getD k 0]) := by
  refine ⟨h.iA, hk, ?_, by rw [List.length_append, h.len]; simp; omega⟩
  rw [← h.is_, List.append_assoc]
  congr 1
  rw [List.drop_eq_getElem_cons hk, getD_at _ _ hk]
  by_cases hi : i < A.length
  · have := hc hi
    rw [getD_at _ _ hi, getD_at _ _ hk] at this
    rw [List.drop_eq_getElem_cons hi, mrg_gt _ _ (by omega), ws_cons]; rfl
  · have ek : A.drop i = [] := List.drop_eq_nil_of_le (by omega)
    rw [ek, mrg_nc, ws_cons]; rfl
theorem Mrgs.end_ {A B D : List Nat} (h : Mrgs A B A.length B.length D) : D = ws (mrg A B) := by
  rw [← h.is_, List.drop_eq_nil_of_le (Nat.le_refl _), List.drop_eq_nil_of_le (Nat.le_refl _), mrg_nn]; simp [ws]
/-- The first pairs of a row. -/
theorem prs_take (X : List Nat) (p : Nat) (h : 2 * p + 1 < X.length) : (prs X).take (p + 1) = (prs X).take p ++ [X.getD (2 * p) 0 + X.getD (2 * p + 1) 0] := by
  have hp : p < (prs X).length := by rw [prs_len]; omega
  rw [List.take_succ_eq_append_getElem hp, ← getD_at _ _ hp, prs_get X p h]
theorem step_append_row {P : Program} {w : World} {ops : Array Oper} {o : Oper} {a : Act} {K : Act → World → Prop} {Q : Exit → Act → World → Prop} {F : Prop} (hgd : o.guard = none) (s x : Operand) (t : TypeId)
    (ho : o.op = .call { callee := .builtin .append, args := #[s, x], argTypes := #[t, t] }) (base : Nat) (E : TypeId) (z : Value) (by_ : Nat) (ht : P.underlying t = some (.slice E))
    (hi : (P.info? E).map (fun i => (i.zero, i.size, i.bytes)) = some (some z, 1, by_)) (hz1 : z.cells.size = 1)
    (v : Value) (l : List Value) (hs : a.eval s = v) (hown : OwnV E base w v l) (ad : Option Addr) (m c : Nat) (l2 : List Value) (hx : a.eval x = .slice ad m c) (hb : RowIn w ad m c l2) (hone : ∀ u ∈ l2, u.oneCell' = true)
    (hlen : (l.length + m) * by_ ≤ 140737488355328) (hlen2 : l.length + m ≤ 140737488355328) (hbase : base ≤ w.heap.size)
    (h : ∀ a' c' w', OwnV E base w' (.slice a' (l.length + m) c') (l ++ l2) → w.grownBy w' v.ownBlock → K (a.put o.dst (.slice a' (l.length + m) c')) w') :
    if Region.wanted o (yielded ops a.tmps) = true then Oper.wp P o a w K Q else F := by
  have hw : Region.wanted o (yielded ops a.tmps) = true := by simp [Region.wanted, hgd]
  rw [if_pos hw]
  exact wp_append_row s x t ho base E z by_ ht hi hz1 v l hs hown ad m c l2 hx hb hone hlen hlen2 hbase fun v' w' h1 h2 h3 => by
    obtain ⟨a', c', rfl, _⟩ := h1.row
    rw [List.length_append, hb.len_eq] at *
    exact h a' c' w' h1 h2
/-- The row behind m levels. -/
def rw_ (A : List Nat) : Nat → List Nat
  | 0 => []
  | m + 1 => ws (lvl A m)
theorem rw_low (A : List Nat) (m : Nat) : prs (rw_ A m) = low A m := by cases m <;> rfl
theorem rw_next (A : List Nat) (m : Nat) : ws (mrg A (prs (rw_ A m))) = rw_ A (m + 1) := by
  rw [rw_low, ← lvl_eq]; rfl
theorem rw_len (A : List Nat) (m : Nat) : (rw_ A m).length ≤ 2 * A.length := by
  cases m with
  | zero => exact Nat.zero_le _
  | succ m => show (ws (lvl A m)).length ≤ _; rw [ws_len]; exact lvl_short A m
theorem rw_mem (A : List Nat) (h : ∀ x ∈ A, x ≤ 1073741824) (m : Nat) (hm : m ≤ 15) (j : Nat) : (rw_ A m).getD j 0 ≤ 17592186044416 := by
  cases m with
  | zero => simp [rw_]
  | succ m =>
    show (ws (lvl A m)).getD j 0 ≤ _
    by_cases hj : j < (ws (lvl A m)).length
    · rw [getD_at _ _ hj]
      have h1 := lvl_mem A _ h m _ (List.getElem_mem hj)
      have h2 : 2 ^ m ≤ 2 ^ 14 := Nat.pow_le_pow_right (by omega) (by omega)
      have h3 := Nat.mul_le_mul_right 1073741824 h2
      omega
    · rw [List.getD_eq_getElem?_getD, List.getElem?_eq_none (by omega)]; exact Nat.zero_le _
theorem take_sum_le (R : List Nat) (b : Nat) (h : ∀ j, R.getD j 0 ≤ b) (i : Nat) : (R.take i).sum ≤ i * b := by
  induction i with
  | zero => simp
  | succ i ih => rw [take_sum_succ, Nat.succ_mul]; have := h i; omega
theorem wp_append_row_d {P : Program} {w : World} {o : Oper} {a : Act} {K : Act → World → Prop} {Q : Exit → Act → World → Prop} {d : Option Tmp} (hd : o.dst = d) (s x : Operand) (t : TypeId)
    (ho : o.op = .call { callee := .builtin .append, args := #[s, x], argTypes := #[t, t] }) (base : Nat) (E : TypeId) (z : Value) (by_ : Nat) (ht : P.underlying t = some (.slice E))
    (hi : (P.info? E).map (fun i => (i.zero, i.size, i.bytes)) = some (some z, 1, by_)) (hz1 : z.cells.size = 1)
    (v : Value) (l : List Value) (hs : a.eval s = v) (hown : OwnV E base w v l) (ad : Option Addr) (m c : Nat) (l2 : List Value) (hx : a.eval x = .slice ad m c) (hb : RowIn w ad m c l2) (hone : ∀ u ∈ l2, u.oneCell' = true)
    (hlen : (l.length + m) * by_ ≤ 140737488355328) (hlen2 : l.length + m ≤ 140737488355328) (hbase : base ≤ w.heap.size)
    (h : ∀ a' c' w', OwnV E base w' (.slice a' (l.length + m) c') (l ++ l2) → w.grownBy w' v.ownBlock → K (a.put d (.slice a' (l.length + m) c')) w') : o.wp P a w K Q := by
  subst hd
  exact wp_append_row s x t ho base E z by_ ht hi hz1 v l hs hown ad m c l2 hx hb hone hlen hlen2 hbase fun v' w' h1 h2 h3 => by
    obtain ⟨a', c', rfl, _⟩ := h1.row
    rw [List.length_append, hb.len_eq] at *
    exact h a' c' w' h1 h2
theorem x_idx {a : Act} {o : Oper} (s i : Operand) {b off len cap k : Nat} {w : World} (ho : o.op = Op.indexAddr 22 s i) (hs : a.eval s = .slice (some ⟨b, off, none⟩) len cap) (hi : a.eval i = .int .i64 (k : Int)) (hk : k < len) :
    (execOp a.eval o).run Try.prog w = .ok (.value (.pointer (some ⟨b, off + k, none⟩))) w := by
  have hki : (k : Int) < (len : Int) := by omega
  unfold execOp
  rw [ho]
  simp only [hs, hi]
  go_simp
theorem x_load {a : Act} {o : Oper} (p : Operand) {x : Addr} {y : Int} {w : World} (ho : o.op = Op.load 3 p) (hp : a.eval p = .pointer (some x)) (hc : w.cell? x = some (.int .i64 y)) :
    (execOp a.eval o).run Try.prog w = .ok (.value (.int .i64 y)) w := by
  unfold execOp
  rw [ho]
  simp only [hp]
  go_simp
theorem x_add {a : Act} {o : Oper} (s t : Operand) {x y z : Int} {w : World} (ho : o.op = Op.binOp BinOp.add 3 s t 3) (hs : a.eval s = .int .i64 x) (ht : a.eval t = .int .i64 y) (hz : IntKind.i64.wrap (x + y) = z) :
    (execOp a.eval o).run Try.prog w = .ok (.value (.int .i64 z)) w := by
  unfold execOp
  rw [ho]
  simp only [hs, ht]
  go_simp
theorem x_build {a : Act} {o : Oper} (s : Operand) {y : Int} {w : World} (ho : o.op = Op.buildSlice 22 1 #[(0, s)]) (hs : a.eval s = .int .i64 y) :
    (execOp a.eval o).run Try.prog w = .ok (.value (.slice (some ⟨w.heap.size, 0, none⟩) 1 1)) (w.alloc (.cells #[.int .i64 y] 3)) := by
  unfold execOp
  rw [ho]
  simp only [List.map_toArray, List.map_cons, List.map_nil, hs]
  go_simp
end Go.Proofs.Ytmfnncachaejgaa.PkC
