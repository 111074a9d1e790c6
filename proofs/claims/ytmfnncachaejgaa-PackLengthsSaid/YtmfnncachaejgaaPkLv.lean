/-
  pack.lengths: what is kept on the way (rows of levels, the lengths so far). No walk.
-/
import Derived.Test.YtmfnncachaejgaaPkMrg
import Derived.Test.YtmfnncachaejgaaPkBk
namespace Go.Proofs.Ytmfnncachaejgaa.PkC
open Go.RowKit Go.My PackMath

/-! ### plain -/
/-- k levels are left. -/
def lnx (A : List Nat) : Nat → Nat → Nat → Nat
  | 0, _, _ => 0
  | k + 1, t, j => ln A k t j
theorem lnx_step (A : List Nat) (k t j : Nat) : lnx A (k + 1) t j = (if j < at_ A k t then 1 else 0) + lnx A k (2 * (t - at_ A k t)) j := by
  cases k with
  | zero => rfl
  | succ k => rfl
theorem prs_mem (X : List Nat) (M : Nat) (h : ∀ x ∈ X, x ≤ M) : ∀ x ∈ prs X, x ≤ 2 * M := by
  induction X using two_ind with
  | h0 => intro x hx; simp [prs] at hx
  | h1 y => intro x hx; simp [prs] at hx
  | h2 y z r ih =>
    intro x hx
    rw [prs_cons] at hx
    have h1 := h y (by simp)
    have h2 := h z (by simp)
    rcases List.mem_cons.1 hx with rfl | hx
    · omega
    · exact ih (fun u hu => h u (by simp [hu])) x hx
theorem lvl_mem (A : List Nat) (M : Nat) (h : ∀ x ∈ A, x ≤ M) (k : Nat) : ∀ x ∈ ws (lvl A k), x ≤ 2 ^ k * M := by
  induction k with
  | zero =>
    intro x hx
    rcases mem_ws _ _ _ hx with hx | hx
    · have := h x hx; simpa using this
    · simp at hx
  | succ k ih =>
    intro x hx
    rcases mem_ws _ _ _ hx with hx | hx
    · refine Nat.le_trans (h x hx) (Nat.le_mul_of_pos_left _ (Nat.two_pow_pos _))
    · have := prs_mem _ _ ih x hx
      rw [Nat.pow_succ, Nat.mul_comm (2 ^ k), Nat.mul_assoc]
      exact this
theorem lvl_mem15 (A : List Nat) (h : ∀ x ∈ A, x ≤ 1073741824) (k : Nat) (hk : k ≤ 14) : ∀ p ∈ lvl A k, p.1 ≤ 1152921504606846976 := by
  intro p hp
  have h1 := lvl_mem A _ h k p.1 (List.mem_map.2 ⟨p, hp, rfl⟩)
  have h2 : 2 ^ k ≤ 2 ^ 14 := Nat.pow_le_pow_right (by omega) hk
  have h3 := Nat.mul_le_mul_right 1073741824 h2
  omega
theorem lvl_short (A : List Nat) (k : Nat) : (lvl A k).length ≤ 2 * A.length := by
  induction k with
  | zero => rw [lvl_len]; show A.length + 0 ≤ _; omega
  | succ k ih => rw [lvl_len_succ]; omega

/-! ### memory -/
theorem OwnN.only {S : Nat → Prop} {base : Nat} {w w' : World} {v : Value} {l : List (Nat × Bool)} (ho : OwnN base w v l) (h : Only S w w') (hv : ∀ k, v.ownBlock = some k → ¬ S k) : OwnN base w' v l := by
  refine ⟨ho.1, ?_⟩
  rcases ho.2 with hn | ⟨g, cap, cur, rfl, hb, hgg, rest⟩
  · exact .inl hn
  · refine .inr ⟨g, cap, cur, rfl, hb, ?_, rest⟩
    rw [h.block g (Array.getElem?_eq_some_iff.1 hgg).1 (hv g rfl)]
    exact hgg
theorem OwnN.base_le {base base' : Nat} {w : World} {v : Value} {l : List (Nat × Bool)} (ho : OwnN base w v l) (h : base' ≤ base) : OwnN base' w v l := by
  refine ⟨ho.1, ?_⟩
  rcases ho.2 with hn | ⟨g, cap, cur, rfl, hb, rest⟩
  · exact .inl hn
  · exact .inr ⟨g, cap, cur, rfl, Nat.le_trans h hb, rest⟩
theorem OwnN.far {base : Nat} {w : World} {v : Value} {l : List (Nat × Bool)} {g : Nat} {t : TypeId} {cs : Array Value} (ho : OwnN base w v l) (hb : Blk w g t cs) (ht : t ≠ 53) : v.ownBlock ≠ some g := by
  rcases ho.2 with ⟨rfl, _⟩ | ⟨g', cap, cur, rfl, _, hgg, _⟩
  · simp [Value.ownBlock]
  · intro h
    simp only [Value.ownBlock, Option.some.injEq] at h
    subst h
    unfold Blk at hb
    rw [hgg] at hb
    injection hb with hb
    injection hb with _ hb
    exact ht hb.symm
theorem OwnN.lt {base : Nat} {w : World} {v : Value} {l : List (Nat × Bool)} (ho : OwnN base w v l) (k : Nat) (hk : v.ownBlock = some k) : k < w.heap.size := (World.ownsRow.lt ho k hk).2
/-- A row that is full, as a block. -/
theorem OwnV.blk {E : TypeId} {base : Nat} {w : World} {g n : Nat} {vs : List Value} (h : OwnV E base w (.slice (some ⟨g, 0, none⟩) n n) vs) (hn : vs.length = n) : Blk w g E vs.toArray := by
  rcases h.2 with ⟨h', _⟩ | ⟨g', cap', cur, h', _, hg, hle, _, hs, ht⟩
  · cases h'
  · simp only [Value.slice.injEq, Option.some.injEq, Addr.mk.injEq, and_true] at h'
    obtain ⟨rfl, h1, rfl⟩ := h'
    have e : cur = vs.toArray := by
      apply Array.ext'
      have : cur.toList.length = vs.length * 1 := by rw [Array.length_toList, hs]; omega
      rw [← ht, ← this, List.take_length]
    rw [e] at hg
    exact hg
theorem OwnV.of_blk {E : TypeId} {base : Nat} {w : World} {g n : Nat} {vs : List Value} (h : Blk w g E vs.toArray) (hn : vs.length = n) (hb : base ≤ g) (hm : n ≤ 1000000) : OwnV E base w (.slice (some ⟨g, 0, none⟩) n n) vs := by
  subst hn
  refine ⟨by omega, .inr ⟨g, vs.length, vs.toArray, rfl, hb, h, Nat.le_refl _, by unfold maxLen; omega, by simp, by simp⟩⟩
def slv (p : Option Addr × Nat × Nat) : Value := .slice p.1 p.2.1 p.2.2
/-- The row of levels, the first i of which are there. -/
def lvrow (f : Nat → Option Addr × Nat × Nat) (i m : Nat) : List Value := (List.range m).map fun k => if k < i then slv (f k) else .slice none 0 0
theorem lvrow_len (f : Nat → Option Addr × Nat × Nat) (i m : Nat) : (lvrow f i m).length = m := by simp [lvrow]
theorem lvrow_zero (f : Nat → Option Addr × Nat × Nat) (m : Nat) : List.replicate m (Value.slice none 0 0) = lvrow f 0 m := by
  apply List.ext_getElem
  · simp [lvrow]
  · intro i h1 h2; simp [lvrow]
def upd (f : Nat → Option Addr × Nat × Nat) (i : Nat) (p : Option Addr × Nat × Nat) : Nat → Option Addr × Nat × Nat := fun k => if k = i then p else f k
theorem lvrow_set (f : Nat → Option Addr × Nat × Nat) (i m : Nat) (p : Option Addr × Nat × Nat) : (lvrow f i m).set i (slv p) = lvrow (upd f i p) (i + 1) m := by
  apply List.ext_getElem
  · simp [lvrow]
  · intro k h1 h2
    rw [List.getElem_set]
    simp only [lvrow, List.getElem_map, List.getElem_range, upd]
    by_cases e : i = k
    · subst e; rw [if_pos rfl, if_pos (by omega), if_pos rfl]
    · rw [if_neg e]
      by_cases h : k < i
      · rw [if_pos h, if_pos (by omega), if_neg (by omega)]
      · rw [if_neg h, if_neg (by omega)]
theorem lvrow_get (f : Nat → Option Addr × Nat × Nat) (i m k : Nat) (hk : k < m) (hi : k < i) : (lvrow f i m)[k]'(by rw [lvrow_len]; exact hk) = slv (f k) := by simp [lvrow, hi]
/-- A row of lengths. -/
def cel (n : Nat) (acc : Nat → Nat) : List Value := (List.range n).map fun j => Value.int .i64 ((acc j : Nat) : Int)
theorem cel_len (n : Nat) (acc : Nat → Nat) : (cel n acc).length = n := by simp [cel]
theorem cel_get (n : Nat) (acc : Nat → Nat) (j : Nat) (h : j < n) : (cel n acc)[j]? = some (.int .i64 ((acc j : Nat) : Int)) := by simp [cel, h]
theorem cel_set (n : Nat) (acc acc' : Nat → Nat) (q : Nat) (h : ∀ j, j < n → acc' j = if j = q then acc j + 1 else acc j) : (cel n acc).toArray.setIfInBounds q (.int .i64 ((acc q + 1 : Nat) : Int)) = (cel n acc').toArray := by
  apply Array.ext
  · simp [cel]
  · intro j h1 h2
    have hj : j < n := by simpa [cel] using h2
    rw [Array.getElem_setIfInBounds]
    simp only [cel, List.getElem_toArray, List.getElem_map, List.getElem_range, h j hj]
    · by_cases e : q = j
      · subst e; rw [if_pos rfl, if_pos rfl]
      · rw [if_neg e, if_neg (fun h => e h.symm)]
    · simpa [cel] using hj
/-- i levels are there. -/
structure LvS (w : World) (gL m : Nat) (A : List Nat) (i : Nat) (f : Nat → Option Addr × Nat × Nat) (wr : World) : Prop where
  row : Blk wr gL 47 (lvrow f i m).toArray
  bel : Below w.heap.size w wr
  own : ∀ k, k < i → OwnN w.heap.size wr (slv (f k)) (lvl A k)
theorem LvS.step {w : World} {gL m : Nat} {A : List Nat} {i : Nat} {f : Nat → Option Addr × Nat × Nat} {wr w3 : World} {p : Option Addr × Nat × Nat} (h : LvS w gL m A i f wr) (hb : Below wr.heap.size wr w3) (ho : OwnN w.heap.size w3 (slv p) (lvl A i)) (hg : w.heap.size ≤ gL) :
    LvS w gL m A (i + 1) (upd f i p) (w3.setCell ⟨gL, i, none⟩ (slv p)) := by
  have hr : Blk w3 gL 47 (lvrow f i m).toArray := h.row.same (hb.block gL h.row.lt)
  have hO : Only (fun k => k = gL) w3 (w3.setCell ⟨gL, i, none⟩ (slv p)) := (Only.refl (fun k => k = gL) w3).setCell (p := ⟨gL, i, none⟩) (fun _ => rfl) _
  refine ⟨?_, ?_, fun k hk => ?_⟩
  · have := hr.set_ i (slv p)
    rw [List.setIfInBounds_toArray, lvrow_set] at this
    exact this
  · exact (h.bel.trans (hb.mono h.bel.size)).setCell (p := ⟨gL, i, none⟩) hg _
  · have far : ∀ {v : Value} {l : List (Nat × Bool)}, OwnN w.heap.size w3 v l → ∀ b, v.ownBlock = some b → ¬ b = gL := fun hv b hb e => hv.far hr (by decide) (by rw [hb, e])
    unfold upd
    by_cases e : k = i
    · rw [if_pos e, e]
      exact ho.only hO (far ho)
    · rw [if_neg e]
      have h1 := (h.own k (by omega)).below (Nat.le_refl _) hb
      exact h1.only hO (far h1)
theorem LvS.cell {w : World} {gL m : Nat} {A : List Nat} {i : Nat} {f : Nat → Option Addr × Nat × Nat} {wr : World} (h : LvS w gL m A i f wr) (k : Nat) (hk : k < i) (hm : k < m) : wr.cell? ⟨gL, k, none⟩ = some (slv (f k)) := by
  rw [h.row.cell, List.getElem?_toArray, List.getElem?_eq_getElem (by rw [lvrow_len]; exact hm), lvrow_get f i m k hm hk]
theorem nil_cell {gL m i : Nat} {f : Nat → Option Addr × Nat × Nat} {wr : World} (h : Blk wr gL 47 (lvrow f i m).toArray) (k : Nat) (hk : i ≤ k) (hm : k < m) : wr.cell? ⟨gL, k, none⟩ = some (.slice none 0 0) := by
  rw [h.cell, List.getElem?_toArray, List.getElem?_eq_getElem (by rw [lvrow_len]; exact hm)]
  simp only [lvrow, List.getElem_map, List.getElem_range]
  rw [if_neg (by omega)]
/-- r levels have been taken from. -/
def TkI (A : List Nat) (L : Nat) (w8 : World) (gl bt r : Nat) (W : World) : Prop :=
  ∃ (acc : Nat → Nat) (t : Nat), Only (fun k => k = gl ∨ k = bt) w8 W ∧ Blk W gl 3 (cel A.length acc).toArray ∧ Blk W bt 3 #[.int .i64 (t : Int)] ∧
    (∀ j, acc j + lnx A (L + 1 - r) t j = len A L j) ∧ (r ≤ L → t ≤ (lvl A (L - r)).length)
theorem tk_own {A : List Nat} {L : Nat} {w8 : World} {gl bt : Nat} (hg : gl < w8.heap.size) (hb : bt < w8.heap.size) : OwnFrom w8.heap.size (TkI A L w8 gl bt) := by
  rintro r W W' row ⟨acc, t, h1, h2, h3, h4, h5⟩ hgr hrow
  have hne : ∀ k, k < w8.heap.size → some k ≠ row := fun k hk e => by have := (hrow k e.symm).1; omega
  exact ⟨acc, t, h1.grown hgr (fun k hk e => absurd e.symm (hne k hk)), h2.grown hgr (hne gl hg), h3.grown hgr (hne bt hb), h4, h5⟩
/-- What is handed to round r: level k. -/
theorem own_f {base : Nat} {w : World} {p : Option Addr × Nat × Nat} {l : List (Nat × Bool)} (h : OwnN base w (slv p) l) : ∃ a c, p = (a, l.length, c) ∧ NodesIn w a l.length c l ∧ (slv p).ownBlock = Value.ownBlock (.slice a l.length c) := by
  obtain ⟨a, c, e, hN⟩ := h.nodes
  refine ⟨a, c, ?_, hN, by rw [e]⟩
  unfold slv at e
  simp only [Value.slice.injEq] at e
  obtain ⟨h1, h2, h3⟩ := e
  obtain ⟨p1, p2, p3⟩ := p
  simp only at h1 h2 h3
  subst h1 h2 h3
  rfl
/-- Nodes that lie in blocks that are not turned. -/
theorem NodesIn.only {S : Nat → Prop} {w w' : World} {a : Option Addr} {len cap : Nat} {l : List (Nat × Bool)} (h : NodesIn w a len cap l) (ho : Only S w w') (hS : ∀ b off, a = some ⟨b, off, none⟩ → ¬ S b) : NodesIn w' a len cap l := by
  refine ⟨h.1, h.2, h.3, h.4, h.5.imp_right ?_⟩
  rintro ⟨b, off, ha, hs, hc⟩
  refine ⟨b, off, ha, Nat.lt_of_lt_of_le hs ho.size, fun i hi => ?_⟩
  rw [ho.cell (p := ⟨b, off + i * 2, none⟩) hs (hS b off ha), ho.cell (p := ⟨b, off + i * 2 + 1, none⟩) hs (hS b off ha)]
  exact hc i hi
/-- What a round's loop over a level's first ones keeps: i of them are behind. -/
structure Inn (A : List Nat) (k : Nat) (acc : Nat → Nat) (gl bt t : Nat) (w8 W : World) (i : Nat) (wr : World) : Prop where
  keep : KeepsOthers W wr
  only : Only (fun k => k = gl ∨ k = bt) w8 wr
  row : Blk wr gl 3 (cel A.length (fun j => acc j + if j < lf (lvl A k) i then 1 else 0)).toArray
  take : Blk wr bt 3 #[.int .i64 (t : Int)]
theorem Inn.alloc {A : List Nat} {k : Nat} {acc : Nat → Nat} {gl bt t : Nat} {w8 W : World} {i : Nat} {wr : World} (h : Inn A k acc gl bt t w8 W i wr) (o : Obj) : Inn A k acc gl bt t w8 W i (wr.alloc o) :=
  ⟨h.keep.trans (KeepsOthers.alloc _ _), h.only.alloc _, h.row.alloc _, h.take.alloc _⟩
/-- A node of a package is passed. -/
theorem Inn.pass {A : List Nat} {k : Nat} {acc : Nat → Nat} {gl bt t : Nat} {w8 W : World} {i : Nat} {wr : World} (h : Inn A k acc gl bt t w8 W i wr) (hi : i < (lvl A k).length) (hf : (lvl A k)[i].2 = false) : Inn A k acc gl bt t w8 W (i + 1) wr := by
  have e : lf (lvl A k) (i + 1) = lf (lvl A k) i := by rw [lf_succ _ _ hi, hf]; simp
  exact ⟨h.keep, h.only, by rw [e]; exact h.row, h.take⟩
/-- A leaf's length grows. -/
theorem Inn.grow {A : List Nat} {k : Nat} {acc : Nat → Nat} {gl bt t : Nat} {w8 W : World} {i : Nat} {wr : World} (h : Inn A k acc gl bt t w8 W i wr) (hi : i < (lvl A k).length) (hf : (lvl A k)[i].2 = true) (hne : gl ≠ bt) :
    Inn A k acc gl bt t w8 W (i + 1) (wr.setCell ⟨gl, lf (lvl A k) i, none⟩ (.int .i64 ((acc (lf (lvl A k) i) + 1 : Nat) : Int))) := by
  have e : lf (lvl A k) (i + 1) = lf (lvl A k) i + 1 := by rw [lf_succ _ _ hi, hf]; simp
  have h1 := h.row.set_ (lf (lvl A k) i) (.int .i64 ((acc (lf (lvl A k) i) + 1 : Nat) : Int))
  have h2 : (fun j => acc j + if j < lf (lvl A k) i then 1 else 0) (lf (lvl A k) i) + 1 = acc (lf (lvl A k) i) + 1 := by simp
  rw [← h2, cel_set A.length _ (fun j => acc j + if j < lf (lvl A k) (i + 1) then 1 else 0) _ (fun j _ => by
    rw [e]
    by_cases c1 : j < lf (lvl A k) i
    · rw [if_pos c1, if_pos (by omega), if_neg (by omega)]
    · by_cases c2 : j = lf (lvl A k) i
      · rw [if_neg c1, if_pos (by omega), if_pos c2]
      · rw [if_neg c1, if_neg (by omega), if_neg c2])] at h1
  rw [h2] at h1
  refine ⟨h.keep.trans (KeepsOthers.setCell _ _ _), h.only.setCell (p := ⟨gl, _, none⟩) (fun _ => .inl rfl) _, h1, ?_⟩
  exact h.take.same (Below.heap_setCell _ _ _ _ (fun e => hne e.symm))
/-- Where a round ends. -/
theorem tk_next {A : List Nat} {L : Nat} {w8 W wr : World} {gl bt r t : Nat} {acc : Nat → Nat} (hr : r ≤ L) (ht : t ≤ (lvl A (L - r)).length) (hacc : ∀ j, acc j + lnx A (L + 1 - r) t j = len A L j) (h : Inn A (L - r) acc gl bt t w8 W t wr) (hne : gl ≠ bt) :
    KeepsOthers W (wr.setCell ⟨bt, 0, none⟩ (.int .i64 ((2 * (t - lf (lvl A (L - r)) t) : Nat) : Int))) ∧ TkI A L w8 gl bt (r + 1) (wr.setCell ⟨bt, 0, none⟩ (.int .i64 ((2 * (t - lf (lvl A (L - r)) t) : Nat) : Int))) := by
  refine ⟨h.keep.trans (KeepsOthers.setCell _ _ _), _, _, h.only.setCell (p := ⟨bt, 0, none⟩) (fun _ => .inr rfl) _, h.row.same (Below.heap_setCell _ _ _ _ hne), h.take.set_ 0 _, fun j => ?_, fun hr2 => ?_⟩
  · have h1 := hacc j
    rw [show L + 1 - r = (L - r) + 1 by omega, lnx_step] at h1
    rw [show L + 1 - (r + 1) = L - r by omega]
    show acc j + (if j < lf (lvl A (L - r)) t then 1 else 0) + _ = _
    have : at_ A (L - r) t = lf (lvl A (L - r)) t := rfl
    rw [this] at h1
    omega
  · have h1 := next_le A (L - (r + 1)) t (by rw [show L - (r + 1) + 1 = L - r by omega]; exact ht)
    rw [show L - (r + 1) + 1 = L - r by omega] at h1
    exact h1
end Go.Proofs.Ytmfnncachaejgaa.PkC
