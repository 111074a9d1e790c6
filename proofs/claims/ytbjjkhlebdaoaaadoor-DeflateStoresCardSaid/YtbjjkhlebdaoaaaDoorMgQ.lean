import Derived.Test.YtbjjkhlebdaoaaaDoorMgN
import Derived.Test.YtbjjkhlebdaoaaaDoorMgRg
import Derived.Shelf.Abstract
import Derived.Deep.CutBlock
import Derived.Deep.CutRange

section
/-
  pack.lengths: what is kept on the way (rows of levels, the lengths so far). No walk.
-/
namespace Go.Proofs.YtbjjkhlebdaoaaaDoor.PkC
open Go.RowKit Go.My PackMath

/-! ### plain -/
/-- k levels are left. -/
def lnx (A : List Nat) : Nat → Nat → Nat → Nat
  | 0, _, _ => 0
  | k + 1, t, j => ln A k t j
theorem lnx_step (A : List Nat) (k t j : Nat) : lnx A (k + 1) t j = (if j < at_ A k t then 1 else 0) + lnx A k (2 * (t - at_ A k t)) j := by
  cases k with
  | zero => rfl
  | succ k => rfl
theorem prs_mem (X : List Nat) (M : Nat) (h : ∀ x ∈ X, x ≤ M) : ∀ x ∈ prs X, x ≤ 2 * M := by
  induction X using two_ind with
  | h0 => intro x hx; simp [prs] at hx
  | h1 y => intro x hx; simp [prs] at hx
  | h2 y z r ih =>
    intro x hx
    rw [prs_cons] at hx
    have h1 := h y (by simp)
    have h2 := h z (by simp)
    rcases List.mem_cons.1 hx with rfl | hx
    · omega
    · exact ih (fun u hu => h u (by simp [hu])) x hx
theorem lvl_mem (A : List Nat) (M : Nat) (h : ∀ x ∈ A, x ≤ M) (k : Nat) : ∀ x ∈ ws (lvl A k), x ≤ 2 ^ k * M := by
  induction k with
  | zero =>
    intro x hx
    rcases mem_ws _ _ _ hx with hx | hx
    · have := h x hx; simpa using this
    · simp at hx
  | succ k ih =>
    intro x hx
    rcases mem_ws _ _ _ hx with hx | hx
    · refine Nat.le_trans (h x hx) (Nat.le_mul_of_pos_left _ (Nat.two_pow_pos _))
    · have := prs_mem _ _ ih x hx
      rw [Nat.pow_succ, Nat.mul_comm (2 ^ k), Nat.mul_assoc]
      exact this
theorem lvl_mem15 (A : List Nat) (h : ∀ x ∈ A, x ≤ 1073741824) (k : Nat) (hk : k ≤ 14) : ∀ p ∈ lvl A k, p.1 ≤ 1152921504606846976 := by
  intro p hp
  have h1 := lvl_mem A _ h k p.1 (List.mem_map.2 ⟨p, hp, rfl⟩)
  have h2 : 2 ^ k ≤ 2 ^ 14 := Nat.pow_le_pow_right (by omega) hk
  have h3 := Nat.mul_le_mul_right 1073741824 h2
  omega
theorem lvl_short (A : List Nat) (k : Nat) : (lvl A k).length ≤ 2 * A.length := by
  induction k with
  | zero => rw [lvl_len]; show A.length + 0 ≤ _; omega
  | succ k ih => rw [lvl_len_succ]; omega

/-! ### memory -/
theorem OwnN.only {S : Nat → Prop} {base : Nat} {w w' : World} {v : Value} {l : List (Nat × Bool)} (ho : OwnN base w v l) (h : Only S w w') (hv : ∀ k, v.ownBlock = some k → ¬ S k) : OwnN base w' v l := by
  refine ⟨ho.1, ?_⟩
  rcases ho.2 with hn | ⟨g, cap, cur, rfl, hb, hgg, rest⟩
  · exact .inl hn
  · refine .inr ⟨g, cap, cur, rfl, hb, ?_, rest⟩
    rw [h.block g (Array.getElem?_eq_some_iff.1 hgg).1 (hv g rfl)]
    exact hgg
theorem OwnN.base_le {base base' : Nat} {w : World} {v : Value} {l : List (Nat × Bool)} (ho : OwnN base w v l) (h : base' ≤ base) : OwnN base' w v l := by
  refine ⟨ho.1, ?_⟩
  rcases ho.2 with hn | ⟨g, cap, cur, rfl, hb, rest⟩
  · exact .inl hn
  · exact .inr ⟨g, cap, cur, rfl, Nat.le_trans h hb, rest⟩
theorem OwnN.far {base : Nat} {w : World} {v : Value} {l : List (Nat × Bool)} {g : Nat} {t : TypeId} {cs : Array Value} (ho : OwnN base w v l) (hb : Blk w g t cs) (ht : t ≠ 162) : v.ownBlock ≠ some g := by
  rcases ho.2 with ⟨rfl, _⟩ | ⟨g', cap, cur, rfl, _, hgg, _⟩
  · simp [Value.ownBlock]
  · intro h
    simp only [Value.ownBlock, Option.some.injEq] at h
    subst h
    unfold Blk at hb
    rw [hgg] at hb
    injection hb with hb
    injection hb with _ hb
    exact ht hb.symm
theorem OwnN.lt {base : Nat} {w : World} {v : Value} {l : List (Nat × Bool)} (ho : OwnN base w v l) (k : Nat) (hk : v.ownBlock = some k) : k < w.heap.size := (World.ownsRow.lt ho k hk).2
/-- A row that is full, as a block. -/
theorem OwnV.blk {E : TypeId} {base : Nat} {w : World} {g n : Nat} {vs : List Value} (h : OwnV E base w (.slice (some ⟨g, 0, none⟩) n n) vs) (hn : vs.length = n) : Blk w g E vs.toArray := by
  rcases h.2 with ⟨h', _⟩ | ⟨g', cap', cur, h', _, hg, hle, _, hs, ht⟩
  · cases h'
  · simp only [Value.slice.injEq, Option.some.injEq, Addr.mk.injEq, and_true] at h'
    obtain ⟨rfl, h1, rfl⟩ := h'
    have e : cur = vs.toArray := by
      apply Array.ext'
      have : cur.toList.length = vs.length * 1 := by rw [Array.length_toList, hs]; omega
      rw [← ht, ← this, List.take_length]
    rw [e] at hg
    exact hg
theorem OwnV.of_blk {E : TypeId} {base : Nat} {w : World} {g n : Nat} {vs : List Value} (h : Blk w g E vs.toArray) (hn : vs.length = n) (hb : base ≤ g) (hm : n ≤ 1000000) : OwnV E base w (.slice (some ⟨g, 0, none⟩) n n) vs := by
  subst hn
  refine ⟨by omega, .inr ⟨g, vs.length, vs.toArray, rfl, hb, h, Nat.le_refl _, by unfold maxLen; omega, by simp, by simp⟩⟩
def slv (p : Option Addr × Nat × Nat) : Value := .slice p.1 p.2.1 p.2.2
/-- The row of levels, the first i of which are there. -/
def lvrow (f : Nat → Option Addr × Nat × Nat) (i m : Nat) : List Value := (List.range m).map fun k => if k < i then slv (f k) else .slice none 0 0
theorem lvrow_len (f : Nat → Option Addr × Nat × Nat) (i m : Nat) : (lvrow f i m).length = m := by simp [lvrow]
theorem lvrow_zero (f : Nat → Option Addr × Nat × Nat) (m : Nat) : List.replicate m (Value.slice none 0 0) = lvrow f 0 m := by
  apply List.ext_getElem
  · simp [lvrow]
  · intro i h1 h2; simp [lvrow]
def upd (f : Nat → Option Addr × Nat × Nat) (i : Nat) (p : Option Addr × Nat × Nat) : Nat → Option Addr × Nat × Nat := fun k => if k = i then p else f k
theorem lvrow_set (f : Nat → Option Addr × Nat × Nat) (i m : Nat) (p : Option Addr × Nat × Nat) : (lvrow f i m).set i (slv p) = lvrow (upd f i p) (i + 1) m := by
  apply List.ext_getElem
  · simp [lvrow]
  · intro k h1 h2
    rw [List.getElem_set]
    simp only [lvrow, List.getElem_map, List.getElem_range, upd]
    by_cases e : i = k
    · subst e; rw [if_pos rfl, if_pos (by omega), if_pos rfl]
    · rw [if_neg e]
      by_cases h : k < i
      · rw [if_pos h, if_pos (by omega), if_neg (by omega)]
      · rw [if_neg h, if_neg (by omega)]
theorem lvrow_get (f : Nat → Option Addr × Nat × Nat) (i m k : Nat) (hk : k < m) (hi : k < i) : (lvrow f i m)[k]'(by rw [lvrow_len]; exact hk) = slv (f k) := by simp [lvrow, hi]
theorem cel_len (n : Nat) (acc : Nat → Nat) : (cel n acc).length = n := by simp [cel]
theorem cel_set (n : Nat) (acc acc' : Nat → Nat) (q : Nat) (h : ∀ j, j < n → acc' j = if j = q then acc j + 1 else acc j) : (cel n acc).toArray.setIfInBounds q (.int .i64 ((acc q + 1 : Nat) : Int)) = (cel n acc').toArray := by
  apply Array.ext
  · simp [cel]
  · intro j h1 h2
    have hj : j < n := by simpa [cel] using h2
    rw [Array.getElem_setIfInBounds]
    simp only [cel, List.getElem_toArray, List.getElem_map, List.getElem_range, h j hj]
    · by_cases e : q = j
      · subst e; rw [if_pos rfl, if_pos rfl]
      · rw [if_neg e, if_neg (fun h => e h.symm)]
    · simpa [cel] using hj
/-- i levels are there. -/
structure LvS (w : World) (gL m : Nat) (A : List Nat) (i : Nat) (f : Nat → Option Addr × Nat × Nat) (wr : World) : Prop where
  row : Blk wr gL 156 (lvrow f i m).toArray
  bel : Below w.heap.size w wr
  own : ∀ k, k < i → OwnN w.heap.size wr (slv (f k)) (lvl A k)
theorem LvS.step {w : World} {gL m : Nat} {A : List Nat} {i : Nat} {f : Nat → Option Addr × Nat × Nat} {wr w3 : World} {p : Option Addr × Nat × Nat} (h : LvS w gL m A i f wr) (hb : Below wr.heap.size wr w3) (ho : OwnN w.heap.size w3 (slv p) (lvl A i)) (hg : w.heap.size ≤ gL) :
    LvS w gL m A (i + 1) (upd f i p) (w3.setCell ⟨gL, i, none⟩ (slv p)) := by
  have hr : Blk w3 gL 156 (lvrow f i m).toArray := h.row.same (hb.block gL h.row.lt)
  have hO : Only (fun k => k = gL) w3 (w3.setCell ⟨gL, i, none⟩ (slv p)) := (Only.refl (fun k => k = gL) w3).setCell (p := ⟨gL, i, none⟩) (fun _ => rfl) _
  refine ⟨?_, ?_, fun k hk => ?_⟩
  · have := hr.set_ i (slv p)
    rw [List.setIfInBounds_toArray, lvrow_set] at this
    exact this
  · exact (h.bel.trans (hb.mono h.bel.size)).setCell (p := ⟨gL, i, none⟩) hg _
  · have far : ∀ {v : Value} {l : List (Nat × Bool)}, OwnN w.heap.size w3 v l → ∀ b, v.ownBlock = some b → ¬ b = gL := fun hv b hb e => hv.far hr (by decide) (by rw [hb, e])
    unfold upd
    by_cases e : k = i
    · rw [if_pos e, e]
      exact ho.only hO (far ho)
    · rw [if_neg e]
      have h1 := (h.own k (by omega)).below (Nat.le_refl _) hb
      exact h1.only hO (far h1)
theorem LvS.cell {w : World} {gL m : Nat} {A : List Nat} {i : Nat} {f : Nat → Option Addr × Nat × Nat} {wr : World} (h : LvS w gL m A i f wr) (k : Nat) (hk : k < i) (hm : k < m) : wr.cell? ⟨gL, k, none⟩ = some (slv (f k)) := by
  rw [h.row.cell, List.getElem?_toArray, List.getElem?_eq_getElem (by rw [lvrow_len]; exact hm), lvrow_get f i m k hm hk]
theorem nil_cell {gL m i : Nat} {f : Nat → Option Addr × Nat × Nat} {wr : World} (h : Blk wr gL 156 (lvrow f i m).toArray) (k : Nat) (hk : i ≤ k) (hm : k < m) : wr.cell? ⟨gL, k, none⟩ = some (.slice none 0 0) := by
  rw [h.cell, List.getElem?_toArray, List.getElem?_eq_getElem (by rw [lvrow_len]; exact hm)]
  simp only [lvrow, List.getElem_map, List.getElem_range]
  rw [if_neg (by omega)]
/-- r levels have been taken from. -/
def TkI (A : List Nat) (L : Nat) (w8 : World) (gl bt r : Nat) (W : World) : Prop :=
  ∃ (acc : Nat → Nat) (t : Nat), Only (fun k => k = gl ∨ k = bt) w8 W ∧ Blk W gl 3 (cel A.length acc).toArray ∧ Blk W bt 3 #[.int .i64 (t : Int)] ∧
    (∀ j, acc j + lnx A (L + 1 - r) t j = len A L j) ∧ (r ≤ L → t ≤ (lvl A (L - r)).length)
theorem tk_own {A : List Nat} {L : Nat} {w8 : World} {gl bt : Nat} (hg : gl < w8.heap.size) (hb : bt < w8.heap.size) : OwnFrom w8.heap.size (TkI A L w8 gl bt) := by
  rintro r W W' row ⟨acc, t, h1, h2, h3, h4, h5⟩ hgr hrow
  have hne : ∀ k, k < w8.heap.size → some k ≠ row := fun k hk e => by have := (hrow k e.symm).1; omega
  exact ⟨acc, t, h1.grown hgr (fun k hk e => absurd e.symm (hne k hk)), h2.grown hgr (hne gl hg), h3.grown hgr (hne bt hb), h4, h5⟩
/-- What is handed to round r: level k. -/
theorem own_f {base : Nat} {w : World} {p : Option Addr × Nat × Nat} {l : List (Nat × Bool)} (h : OwnN base w (slv p) l) : ∃ a c, p = (a, l.length, c) ∧ NodesIn w a l.length c l ∧ (slv p).ownBlock = Value.ownBlock (.slice a l.length c) := by
  obtain ⟨a, c, e, hN⟩ := h.nodes
  refine ⟨a, c, ?_, hN, by rw [e]⟩
  unfold slv at e
  simp only [Value.slice.injEq] at e
  obtain ⟨h1, h2, h3⟩ := e
  obtain ⟨p1, p2, p3⟩ := p
  simp only at h1 h2 h3
  subst h1 h2 h3
  rfl
/-- Nodes that lie in blocks that are not turned. -/
theorem NodesIn.only {S : Nat → Prop} {w w' : World} {a : Option Addr} {len cap : Nat} {l : List (Nat × Bool)} (h : NodesIn w a len cap l) (ho : Only S w w') (hS : ∀ b off, a = some ⟨b, off, none⟩ → ¬ S b) : NodesIn w' a len cap l := by
  refine ⟨h.1, h.2, h.3, h.4, h.5.imp_right ?_⟩
  rintro ⟨b, off, ha, hs, hc⟩
  refine ⟨b, off, ha, Nat.lt_of_lt_of_le hs ho.size, fun i hi => ?_⟩
  rw [ho.cell (p := ⟨b, off + i * 2, none⟩) hs (hS b off ha), ho.cell (p := ⟨b, off + i * 2 + 1, none⟩) hs (hS b off ha)]
  exact hc i hi
/-- What a round's loop over a level's first ones keeps: i of them are behind. -/
structure Inn (A : List Nat) (k : Nat) (acc : Nat → Nat) (gl bt t : Nat) (w8 W : World) (i : Nat) (wr : World) : Prop where
  keep : KeepsOthers W wr
  only : Only (fun k => k = gl ∨ k = bt) w8 wr
  row : Blk wr gl 3 (cel A.length (fun j => acc j + if j < lf (lvl A k) i then 1 else 0)).toArray
  take : Blk wr bt 3 #[.int .i64 (t : Int)]
theorem Inn.alloc {A : List Nat} {k : Nat} {acc : Nat → Nat} {gl bt t : Nat} {w8 W : World} {i : Nat} {wr : World} (h : Inn A k acc gl bt t w8 W i wr) (o : Obj) : Inn A k acc gl bt t w8 W i (wr.alloc o) :=
  ⟨h.keep.trans (KeepsOthers.alloc _ _), h.only.alloc _, h.row.alloc _, h.take.alloc _⟩
/-- A node of a package is passed. -/
theorem Inn.pass {A : List Nat} {k : Nat} {acc : Nat → Nat} {gl bt t : Nat} {w8 W : World} {i : Nat} {wr : World} (h : Inn A k acc gl bt t w8 W i wr) (hi : i < (lvl A k).length) (hf : (lvl A k)[i].2 = false) : Inn A k acc gl bt t w8 W (i + 1) wr := by
  have e : lf (lvl A k) (i + 1) = lf (lvl A k) i := by rw [lf_succ _ _ hi, hf]; simp
  exact ⟨h.keep, h.only, by rw [e]; exact h.row, h.take⟩
/-- A leaf's length grows. -/
theorem Inn.grow {A : List Nat} {k : Nat} {acc : Nat → Nat} {gl bt t : Nat} {w8 W : World} {i : Nat} {wr : World} (h : Inn A k acc gl bt t w8 W i wr) (hi : i < (lvl A k).length) (hf : (lvl A k)[i].2 = true) (hne : gl ≠ bt) :
    Inn A k acc gl bt t w8 W (i + 1) (wr.setCell ⟨gl, lf (lvl A k) i, none⟩ (.int .i64 ((acc (lf (lvl A k) i) + 1 : Nat) : Int))) := by
  have e : lf (lvl A k) (i + 1) = lf (lvl A k) i + 1 := by rw [lf_succ _ _ hi, hf]; simp
  have h1 := h.row.set_ (lf (lvl A k) i) (.int .i64 ((acc (lf (lvl A k) i) + 1 : Nat) : Int))
  have h2 : (fun j => acc j + if j < lf (lvl A k) i then 1 else 0) (lf (lvl A k) i) + 1 = acc (lf (lvl A k) i) + 1 := by simp
  rw [← h2, cel_set A.length _ (fun j => acc j + if j < lf (lvl A k) (i + 1) then 1 else 0) _ (fun j _ => by
    rw [e]
    by_cases c1 : j < lf (lvl A k) i
    · rw [if_pos c1, if_pos (by omega), if_neg (by omega)]
    · by_cases c2 : j = lf (lvl A k) i
      · rw [if_neg c1, if_pos (by omega), if_pos c2]
      · rw [if_neg c1, if_neg (by omega), if_neg c2])] at h1
  rw [h2] at h1
  refine ⟨h.keep.trans (KeepsOthers.setCell _ _ _), h.only.setCell (p := ⟨gl, _, none⟩) (fun _ => .inl rfl) _, h1, ?_⟩
  exact h.take.same (Below.heap_setCell _ _ _ _ (fun e => hne e.symm))
/-- Where a round ends. -/
theorem tk_next {A : List Nat} {L : Nat} {w8 W wr : World} {gl bt r t : Nat} {acc : Nat → Nat} (hr : r ≤ L) (ht : t ≤ (lvl A (L - r)).length) (hacc : ∀ j, acc j + lnx A (L + 1 - r) t j = len A L j) (h : Inn A (L - r) acc gl bt t w8 W t wr) (hne : gl ≠ bt) :
    KeepsOthers W (wr.setCell ⟨bt, 0, none⟩ (.int .i64 ((2 * (t - lf (lvl A (L - r)) t) : Nat) : Int))) ∧ TkI A L w8 gl bt (r + 1) (wr.setCell ⟨bt, 0, none⟩ (.int .i64 ((2 * (t - lf (lvl A (L - r)) t) : Nat) : Int))) := by
  refine ⟨h.keep.trans (KeepsOthers.setCell _ _ _), _, _, h.only.setCell (p := ⟨bt, 0, none⟩) (fun _ => .inr rfl) _, h.row.same (Below.heap_setCell _ _ _ _ hne), h.take.set_ 0 _, fun j => ?_, fun hr2 => ?_⟩
  · have h1 := hacc j
    rw [show L + 1 - r = (L - r) + 1 by omega, lnx_step] at h1
    rw [show L + 1 - (r + 1) = L - r by omega]
    show acc j + (if j < lf (lvl A (L - r)) t then 1 else 0) + _ = _
    have : at_ A (L - r) t = lf (lvl A (L - r)) t := rfl
    rw [this] at h1
    omega
  · have h1 := next_le A (L - (r + 1)) t (by rw [show L - (r + 1) + 1 = L - r by omega]; exact ht)
    rw [show L - (r + 1) + 1 = L - r by omega] at h1
    exact h1
end Go.Proofs.YtbjjkhlebdaoaaaDoor.PkC
end

section
/-
  pack.lengths: the levels are made, and taken from the last one down.
-/
namespace Go.Proofs.YtbjjkhlebdaoaaaDoor.PkC
open Go.RowKit Go.My PackMath Go.Shelf

attribute [local go_sem] Oper.semAt_some

theorem info_levels : (Tryd.prog.info? 156).map (fun i => (i.zero, i.size, i.bytes)) = some (some (.slice none 0 0), 1, 24) := by kernel_rfl
theorem info_int : (Tryd.prog.info? 3).map (fun i => (i.zero, i.size, i.bytes)) = some (some (.int .i64 0), 1, 8) := by kernel_rfl
set_option maxRecDepth 100000 in
set_option maxHeartbeats 8000000 in
theorem lengths_any (A : List Nat) (a : Option Addr) (la ca L : Nat) (w : World) (hA : RowIn w a la ca (lv A)) (hS : Srt A) (hsA : A.length ≤ 1000) (hL : L ≤ 14) (hn : A.length ≤ 2 ^ (L + 1)) (hwA : ∀ x ∈ A, x ≤ 1073741824) :
    Calls Tryd.prog 86 #[.slice a la ca, .int .i64 ((L + 1 : Nat) : Int)] w fun e w' => ∃ v, e = .returned v ∧ OwnV 3 w.heap.size w' v (cel A.length (len A L)) ∧ Below w.heap.size w w' := by
  have HA := Lib.hid hA
  have HLA : Hid (la = A.length) := Lib.hid (by have := hA.len_eq; simpa [lv] using this.symm)
  have HSA := Lib.hid hsA
  have hla : la ≤ 1000 := by have := HLA.out; omega
  have HEN : Hid (2 * A.length - 2 ≤ (lvl A L).length) := Lib.hid (lvl_enough A L hn)
  have hmerge : ∀ (k : Nat) (b : Option Addr) (lb cb : Nat) (w2 : World), k ≤ 14 → Below w.heap.size w w2 → NodesIn w2 b lb cb (lvl A k) →
      Calls Tryd.prog 95 #[.slice a la ca, .slice b lb cb] w2 fun e w' => ∃ v, e = .returned v ∧ OwnN w2.heap.size w' v (lvl A (k + 1)) ∧ Below w2.heap.size w2 w' := fun k b lb cb w2 hk hb hN =>
    merge_any A (lvl A k) a b la ca lb cb w2 (hA.below (Nat.le_refl _) hb) hN (by omega) (by have := lvl_short A k; omega) (fun x hx => by have := hwA x hx; omega) (lvl_mem15 A hwA k hk)
  have hmerge0 : ∀ (w2 : World), Below w.heap.size w w2 →
      Calls Tryd.prog 95 #[.slice a la ca, .slice none 0 0] w2 fun e w' => ∃ v, e = .returned v ∧ OwnN w2.heap.size w' v (lvl A 0) ∧ Below w2.heap.size w2 w' := fun w2 hb =>
    merge_any A [] a none la ca 0 0 w2 (hA.below (Nat.le_refl _) hb) (NodesIn.none_ _) (by omega) (by simp) (fun x hx => by have := hwA x hx; omega) (fun p hp => by simp at hp)
  have HM := Lib.hid hmerge
  have HM0 := Lib.hid hmerge0
  have HSS := Lib.hid hS
  clear hmerge hmerge0 hA hsA hn hwA hS
  obtain ⟨m, hm⟩ : ∃ m, m = L + 1 := ⟨_, rfl⟩
  rw [← hm]
  have hm15 : m ≤ 15 := by omega
  have hm0 : (0 : Int) < (m : Int) := by omega
  have HMM := Lib.hid hm
  clear hm hL
  refine (callsIn_wide (n := 6)).1 ?_
  refine callsIn_of_wp_marks Tryd.func86 rfl trivial ?_ rfl
  simp only [Tryd.ntmps86, List.size_toArray, List.length_cons, List.length_nil, Nat.reduceAdd, Nat.reduceSub, Array.replicate_succ, Array.replicate_zero, List.push_toArray, List.append_toArray, List.nil_append, List.cons_append]
  refine wpIn_wide.2 ?_
  go_wp2_with (at_make; refine wpList_make_row _ rfl (.tmp 14) (.tmp 14) 155 rfl w.heap.size 156 (.slice none 0 0) 24 Tryd.underlying155 info_levels rfl .i64 .i64 m rfl rfl (by omega) (by omega) (Nat.le_refl _) ?_)
  intro w1 hown1 hgrow1
  obtain ⟨gL, hgL⟩ : ∃ g, g = w.heap.size := ⟨_, rfl⟩
  rw [lvrow_zero (fun _ => (none, 0, 0))] at hown1
  have HB1 : Hid (Below w.heap.size w w1) := Lib.hid (grown_none_below (Below.refl _ w) hgrow1 (Nat.le_refl _))
  rw [← hgL] at hown1 ⊢
  have HGL : Hid (w.heap.size ≤ gL) := Lib.hid (by omega)
  have HR1 := Lib.hid (OwnV.blk hown1 (lvrow_len _ _ _))
  clear hown1 hgrow1 hgL
  go_wp2_with fail
  refine (HM0.out w1 HB1.out).mono ?_
  rintro e w2 ⟨v, rfl, ho, hb⟩
  obtain ⟨fa, fc, rfl, _⟩ := ho.nodes
  have hr2 := HR1.out.same (hb.block gL HR1.out.lt)
  have HL2 : Hid (LvS w gL m A 1 _ _) := Lib.hid (LvS.step (p := (fa, (lvl A 0).length, fc)) ⟨HR1.out, HB1.out, fun k hk => by omega⟩ hb (OwnN.base_le ho HB1.out.size) HGL.out)
  have c0 : w2.cell? ⟨gL, 0, none⟩ = some (.slice none 0 0) := nil_cell hr2 0 (Nat.le_refl _) (by omega)
  have f0 : w2.frozen? ⟨gL, 0, none⟩ = false := hr2.frozen 0
  unfold slv at HL2
  dsimp only at HL2
  clear ho hb hr2 HR1 HB1 HM0
  go_wp2_with fail
  clear c0 f0
  generalize w2.setCell ⟨gL, 0, none⟩ (.slice fa (lvl A 0).length fc) = w3 at *
  go_loopw [6] (fun s wr => ∃ (i : Nat) (f : Nat → Option Addr × Nat × Nat), s = .int .i64 (i : Int) ∧ 1 ≤ i ∧ i ≤ m ∧ Hid (LvS w gL m A i f wr)) (fun s _ => m - (intOf s).toNat)
  case atStart => exact ⟨1, _, rfl, Nat.le_refl _, by omega, HL2⟩
  case round =>
    clear HL2
    obtain ⟨i, f, rfl, hi1, him, HL⟩ := hrel
    by_cases hlt : i < m
    · as_aux_lemma =>
      have hlti : (i : Int) < (m : Int) := by omega
      obtain ⟨q, hq⟩ : ∃ q, q + 1 = i := ⟨i - 1, by omega⟩
      have e1 : IntKind.i64.wrap ((i : Int) - 1) = (q : Int) := by rw [IntKind.wrap_i64]; omega
      have hqm : (q : Int) < (m : Int) := by omega
      have hc := HL.out.cell q (by omega) (by omega)
      obtain ⟨b, c, hfq, hN⟩ := (HL.out.own q (by omega)).nodes
      rw [hfq] at hc
      have HC := Lib.hid (HM.out q b _ c wr (by omega) HL.out.bel hN)
      have HQ := Lib.hid hq
      clear hfq hN hq
      go_wp2_with fail
      refine HC.out.mono ?_
      rintro e w4 ⟨v, rfl, ho, hb⟩
      obtain ⟨fa, fc, rfl, _⟩ := ho.nodes
      have hr2 := HL.out.row.same (hb.block gL HL.out.row.lt)
      have HL4 : Hid (LvS w gL m A (i + 1) _ _) := Lib.hid (LvS.step (p := (fa, (lvl A (q + 1)).length, fc)) HL.out hb (by rw [← HQ.out]; exact OwnN.base_le ho HL.out.bel.size) HGL.out)
      have c0 : w4.cell? ⟨gL, i, none⟩ = some (.slice none 0 0) := nil_cell hr2 i (Nat.le_refl _) (by omega)
      have f0 : w4.frozen? ⟨gL, i, none⟩ = false := hr2.frozen i
      unfold slv at HL4
      dsimp only at HL4
      clear ho hb hr2 HL HC hc
      go_wp2_with fail
      go_roundw
      case measure => simp [intOf]; omega
      case rel => exact ⟨i + 1, _, by simp, by omega, by omega, HL4⟩
    · have hlti : ¬ (i : Int) < (m : Int) := by omega
      obtain ⟨t0, ht0⟩ : ∃ t0, t0 = 2 * la - 2 := ⟨_, rfl⟩
      have HT0 : Hid (t0 = 2 * A.length - 2) := Lib.hid (by have := HLA.out; omega)
      have HIM : Hid (i = m) := Lib.hid (by omega)
      have HTI : Hid ((2 < 2 * (la : Int) → 2 * (la : Int) - 2 = (t0 : Int)) ∧ (2 * (la : Int) ≤ 2 → t0 = 0)) := Lib.hid (by omega)
      clear ht0 hlt
      go_wp2_with (at_make; refine wpList_make_row _ rfl (.tmp 36) (.tmp 36) 56 rfl w.heap.size 3 (.int .i64 0) 8 Tryd.underlying56 info_int rfl .i64 .i64 la rfl rfl (by omega) (by omega) HL.out.bel.size ?_)
      intro w5 hown5 hgrow5
      obtain ⟨gl, hgl⟩ : ∃ g, g = wr.heap.size := ⟨_, rfl⟩
      have hg2 : ∀ k, k < wr.heap.size → w5.heap[k]? = wr.heap[k]? := fun k hk => hgrow5.block k hk (by simp)
      have hB5 : Below wr.heap.size wr w5 := grown_none_below (Below.refl _ wr) hgrow5 (Nat.le_refl _)
      rw [← hgl] at hown5 ⊢
      have HR5 := Lib.hid (OwnV.blk hown5 (by simp))
      have HL5 : Hid (LvS w gL m A i f w5) := Lib.hid ⟨HL.out.row.same (hB5.block gL HL.out.row.lt), HL.out.bel.trans (hB5.mono HL.out.bel.size), fun k hk => (HL.out.own k hk).below (Nat.le_refl _) hB5⟩
      have HLT : Hid (wr.heap.size = gl ∧ gL < gl ∧ ∀ k, k < i → ∀ b, (slv (f k)).ownBlock = some b → b < gl) := Lib.hid ⟨hgl.symm, by rw [hgl]; exact HL.out.row.lt, fun k hk b hb => by rw [hgl]; exact (HL.out.own k hk).lt b hb⟩
      clear hown5 hgrow5 hg2 hB5 HL hgl
      go_upto_region 8 with (fail)
      obtain ⟨w6, hw6⟩ : ∃ w6, w6 = w5.alloc (.cells #[.slice (some ⟨gl, 0, none⟩) la la] 56) := ⟨_, rfl⟩
      have HL6 : Hid (LvS w gL m A i f w6) := Lib.hid (by
        have hB6 : Below w5.heap.size w5 w6 := by rw [hw6]; exact (Below.refl _ _).alloc (Nat.le_refl _) _
        exact ⟨HL5.out.row.same (hB6.block gL HL5.out.row.lt), HL5.out.bel.trans (hB6.mono HL5.out.bel.size), fun k hk => (HL5.out.own k hk).below (Nat.le_refl _) hB6⟩)
      have HR6 : Hid (Blk w6 gl _ _) := Lib.hid (by rw [hw6]; exact HR5.out.alloc _)
      have HX6 : Hid (Blk w6 w5.heap.size 56 #[.slice (some ⟨gl, 0, none⟩) la la]) := Lib.hid (by rw [hw6]; exact Blk.new w5 _ _)
      have HG6 : Hid (gl < w5.heap.size) := Lib.hid HR5.out.lt
      rw [← hw6]
      clear hw6 HL5 HR5
      generalize w5.heap.size = bl at *
      go_cut [8] from 38 to 42 (fun p wc => p = .pointer (some ⟨w6.heap.size, 0, none⟩) ∧ wc = w6.alloc (.cells #[.int .i64 (t0 : Int)] 3))
      case first =>
        by_cases h2 : 2 < 2 * (la : Int)
        · have e2 := HTI.out.1 h2
          have h3 : (0 : Int) < (t0 : Int) := by omega
          go_wp2_with fail
          go_meet
          case rel => exact ⟨rfl, rfl⟩
        · have h2' : 2 * (la : Int) ≤ 2 := by omega
          have e2 := HTI.out.2 h2'
          subst e2
          go_wp2_with fail
          go_meet
          case rel => exact ⟨rfl, rfl⟩
      obtain ⟨rfl, hwc⟩ := hcut
      have HL7 : Hid (LvS w gL m A i f wc) := Lib.hid (by
        have hB6 : Below w6.heap.size w6 wc := by rw [hwc]; exact (Below.refl _ _).alloc (Nat.le_refl _) _
        exact ⟨HL6.out.row.same (hB6.block gL HL6.out.row.lt), HL6.out.bel.trans (hB6.mono HL6.out.bel.size), fun k hk => (HL6.out.own k hk).below (Nat.le_refl _) hB6⟩)
      have HR7 : Hid (Blk wc gl _ _) := Lib.hid (by rw [hwc]; exact HR6.out.alloc _)
      have HX7 : Hid (Blk wc bl 56 #[.slice (some ⟨gl, 0, none⟩) la la]) := Lib.hid (by rw [hwc]; exact HX6.out.alloc _)
      have HT7 : Hid (Blk wc w6.heap.size 3 #[.int .i64 (t0 : Int)]) := Lib.hid (by rw [hwc]; exact Blk.new w6 _ _)
      have HG7 : Hid (bl < w6.heap.size) := Lib.hid HX6.out.lt
      clear hwc HL6 HR6 HX6 HTI
      generalize w6.heap.size = bt at *
      go_wp2_with fail
      refine (backward_any (some ⟨gL, 0, none⟩) m m wc).mono ?_
      rintro e w8 ⟨rfl, hw8⟩
      have hB8 : Below wc.heap.size wc w8 := by rw [hw8]; exact (Below.refl _ _).alloc (Nat.le_refl _) _
      have HL8 : Hid (LvS w gL m A i f w8) := Lib.hid ⟨HL7.out.row.same (hB8.block gL HL7.out.row.lt), HL7.out.bel.trans (hB8.mono HL7.out.bel.size), fun k hk => (HL7.out.own k hk).below (Nat.le_refl _) hB8⟩
      have HR8 : Hid (Blk w8 gl _ _) := Lib.hid (by rw [hw8]; exact HR7.out.alloc _)
      have HX8 : Hid (Blk w8 bl 56 #[.slice (some ⟨gl, 0, none⟩) la la]) := Lib.hid (by rw [hw8]; exact HX7.out.alloc _)
      have HT8 : Hid (Blk w8 bt 3 #[.int .i64 (t0 : Int)]) := Lib.hid (by rw [hw8]; exact HT7.out.alloc _)
      have HV8 : Hid (Blk w8 wc.heap.size 155 #[.slice (some ⟨gL, 0, none⟩) m m]) := Lib.hid (by rw [hw8]; exact Blk.new wc _ _)
      have HG8 : Hid (bt < wc.heap.size) := Lib.hid HT7.out.lt
      clear hw8 hB8 HL7 HR7 HX7 HT7
      generalize wc.heap.size = bv at *
      go_wp2_with fail
      have hne : gl ≠ bt := by have := HG6.out; have := HG7.out; omega
      have HLV : Hid (∀ r W, TkI A L w8 gl bt r W → Levels bv gL m m f W) := Lib.hid (by
        rintro r W ⟨acc, t, h1, _⟩
        have q1 := HLT.out
        have q2 := HG6.out
        have q3 := HG7.out
        have q4 := HG8.out
        refine ⟨?_, fun j hj => ?_⟩
        · rw [h1.cell (p := ⟨bv, 0, none⟩) HV8.out.lt (fun e => by rcases e with e | e <;> (simp only at e; omega)), HV8.out.cell]; rfl
        · rw [h1.cell (p := ⟨gL, j, none⟩) HL8.out.row.lt (fun e => by rcases e with e | e <;> (simp only at e; omega))]
          exact HL8.out.cell j (by have := HIM.out; omega) hj)
      have H0 : Hid (TkI A L w8 gl bt 0 w8) := Lib.hid (by
        refine ⟨fun _ => 0, t0, Only.refl _ _, ?_, HT8.out, fun j => ?_, fun _ => ?_⟩
        · have : List.replicate la (Value.int .i64 0) = cel A.length (fun _ => 0) := by
            rw [← HLA.out]
            apply List.ext_getElem
            · simp [cel]
            · intro j h1 h2; simp [cel]
          rw [← this]
          exact HR8.out
        · show 0 + ln A L t0 j = len A L j
          rw [HT0.out, Nat.zero_add]; rfl
        · rw [HT0.out, Nat.sub_zero]; exact HEN.out)
      refine (wpIn_wide (n := 6)).1 (range_rounds1 rfl (by omega) (gf := 99) (lb := #[.pointer (some ⟨bv, 0, none⟩)]) rfl trivial (enters_of Tryd.func99 (by kernel_rfl) rfl)
        (handed m f) m (Levels bv gL m m f) (back_in _ _ trivial rfl (by omega) bv gL m m f (by omega)) (fun _ => rfl) (TkI A L w8 gl bt) (tk_own HR8.out.lt HT8.out.lt) HLV.out H0.out 10 (fun r => slv (f (m - 1 - r))) ?assign ?body ?done)
      case assign =>
        intro l r W K hK
        simp [handed, slv] at hK
        simp [handed]
        gi_wp2
        exact hK
      case body =>
        intro l r W hrm hI
        simp [handed, slv]
        obtain ⟨k, hk⟩ : ∃ k, k = m - 1 - r := ⟨_, rfl⟩
        have hkm : k < m := by omega
        have hkL : k = L - r ∧ r ≤ L := by have := HMM.out; omega
        rw [← hk]
        obtain ⟨b, c, hfk, hN, hob⟩ := own_f (HL8.out.own k (by have := HIM.out; omega))
        have hbl := HLT.out.2.2 k (by have := HIM.out; omega)
        rw [hfk]
        simp only
        obtain ⟨acc, t, h1, h2, h3, h4, h5⟩ := hI
        have hfar : ∀ b' off, b = some ⟨b', off, none⟩ → ¬ (b' = gl ∨ b' = bt) := by
          intro b' off hb' e
          have := hbl b' (by rw [hob, hb']; rfl)
          have := HG6.out
          have := HG7.out
          omega
        have HLN : Hid ((lvl A k).length ≤ 2000) := Lib.hid (by have := lvl_short A k; have := HSA.out; omega)
        have htl : t ≤ (lvl A k).length := by rw [hkL.1]; exact h5 hkL.2
        have HTL := Lib.hid htl
        have HNI : Hid (∀ W', Only (fun k => k = gl ∨ k = bt) w8 W' → NodesIn W' b (lvl A k).length c (lvl A k)) := Lib.hid (fun W' hO => hN.only hO hfar)
        have htc : (t : Int) ≤ (c : Int) := by have := hN.le_cap; omega
        have hlc : (lvl A k).length ≤ c := hN.le_cap
        have HAC : Hid (∀ j, acc j ≤ 15) := Lib.hid (fun j => by have := h4 j; have := len_le (A := A) (L := L) j; have := HMM.out; omega)
        have HIN : Hid (Inn A k acc gl bt t w8 W 0 W) := Lib.hid ⟨KeepsOthers.refl _, h1, by simp only [lf_zero, Nat.not_lt_zero, if_false, Nat.add_zero]; exact h2, h3⟩
        have H4 := Lib.hid h4
        have HKL := Lib.hid hkL
        have cb : W.cell? ⟨bt, 0, none⟩ = some (.int .i64 (t : Int)) := by rw [h3.cell]; rfl
        have ht2 : t ≤ 2000 := by have := HLN.out; omega
        obtain ⟨len_, hlen_⟩ : ∃ x, x = (lvl A k).length := ⟨_, rfl⟩
        rw [← hlen_] at hlc ⊢
        have HLE := Lib.hid hlen_
        clear hbl hob hfk hfar hN h1 h2 h3 h4 h5 hkL htl hk hlen_
        gi_wp2
        clear cb htc
        gi_loopw [51, 11, 12, 13] (fun s51 s11 _ _ wr => ∃ i p : Nat, s51 = .int .i64 (i : Int) ∧ s11 = .int .i64 (p : Int) ∧ i ≤ t ∧ p ≤ i ∧ Hid (p + lf (lvl A k) i = i) ∧ Hid (Inn A k acc gl bt t w8 W i wr)) (fun s _ _ _ _ => t - (intOf s).toNat)
        case atStart => exact ⟨0, 0, rfl, rfl, Nat.zero_le _, Nat.le_refl _, Lib.hid (by rw [lf_zero]), HIN⟩
        case round =>
          clear HIN
          obtain ⟨i, p, rfl, rfl, hit, hpi, HP, HIN⟩ := hrel
          by_cases hlt : i < t
          · have hlti : (i : Int) < (t : Int) := by omega
            have hil : i < (lvl A k).length := by have := HTL.out; omega
            have hNW := HNI.out wr HIN.out.only
            obtain ⟨nb, no, rfl, _, hcs⟩ := hNW.some_ (by omega)
            obtain ⟨q, hq⟩ : ∃ q, q = lf (lvl A k) i := ⟨_, rfl⟩
            have e1 : IntKind.i64.wrap ((i : Int) - (p : Int)) = (q : Int) := by have := HP.out; rw [IntKind.wrap_i64]; omega
            have HX := Lib.hid (HIN.out.only.blk HX8.out (by have := HG6.out; have := HG7.out; rintro (e | e) <;> omega))
            have hacc := HAC.out q
            have HQ := Lib.hid hq
            have HIL := Lib.hid hil
            obtain ⟨⟨x, fl⟩, hnd⟩ : ∃ nd, nd = (lvl A k)[i]'hil := ⟨_, rfl⟩
            have c1 : wr.cell? ⟨nb, no + i * 2, none⟩ = some (.int .i64 ((x : Nat) : Int)) := by rw [(hcs i hil).1, ← hnd]
            have c2 : wr.cell? ⟨nb, no + i * 2 + 1, none⟩ = some (.bool fl) := by rw [(hcs i hil).2, ← hnd]
            have HFL : Hid (((lvl A k)[i]'HIL.out).2 = fl) := Lib.hid (by rw [← hnd])
            clear hcs hNW hlt hnd hil hq
            cases fl with
            | false =>
              have HIN2 : Hid (Inn A k acc gl bt t w8 W (i + 1) (wr.alloc (.cells #[.int .i64 (x : Int), .bool false] 162))) := Lib.hid ((HIN.out.alloc _).pass HIL.out HFL.out)
              have HP2 : Hid (p + 1 + lf (lvl A k) (i + 1) = i + 1) := Lib.hid (by
                rw [lf_succ _ _ HIL.out, HFL.out]
                have := HP.out
                simp; omega)
              clear HIN HP
              gi_wp2
              clear c1 c2
              generalize wr.alloc (.cells #[.int .i64 (x : Int), .bool false] 162) = w9 at *
              go_roundw
              case measure => simp [intOf] <;> omega
              case rel => exact ⟨i + 1, p + 1, by simp, by simp, by omega, by omega, HP2, HIN2⟩
            | true =>
              have h1 := lf_succ (lvl A k) i HIL.out
              rw [HFL.out] at h1
              simp only [if_true] at h1
              have hqn : q < la := by
                have h2 := (at_le A k (i + 1) (by have := HIL.out; omega)).1
                have := HLA.out
                have := HQ.out
                have : at_ A k (i + 1) = lf (lvl A k) (i + 1) := rfl
                omega
              have HIN1 := HIN.out.alloc (.cells #[.int .i64 (x : Int), .bool true] 162)
              have HIN2 := Lib.hid (HIN1.grow HIL.out HFL.out hne)
              rw [← HQ.out] at HIN2
              have HP2 : Hid (p + lf (lvl A k) (i + 1) = i + 1) := Lib.hid (by have := HP.out; omega)
              have d1 : (wr.alloc (.cells #[.int .i64 (x : Int), .bool true] 162)).cell? ⟨bl, 0, none⟩ = some (.slice (some ⟨gl, 0, none⟩) la la) := by rw [(HX.out.alloc _).cell]; rfl
              have d2 : (wr.alloc (.cells #[.int .i64 (x : Int), .bool true] 162)).cell? ⟨gl, q, none⟩ = some (.int .i64 ((acc q : Nat) : Int)) := by
                rw [HIN1.row.cell, List.getElem?_toArray, cel_get _ _ _ (by rw [← HLA.out]; exact hqn), HQ.out]; simp
              have d3 : (wr.alloc (.cells #[.int .i64 (x : Int), .bool true] 162)).frozen? ⟨gl, q, none⟩ = false := HIN1.row.frozen q
              have hqi : (q : Int) < (la : Int) := by omega
              obtain ⟨aq, haq⟩ : ∃ x, x = acc q := ⟨_, rfl⟩
              rw [← haq] at d2 HIN2 hacc
              have e3 : IntKind.i64.wrap ((aq : Int) + 1) = ((aq + 1 : Nat) : Int) := by rw [IntKind.wrap_i64]; omega
              clear HIN HP HX h1 HIN1 haq
              gi_wp2
              clear c1 c2 d1 d2 d3
              generalize wr.alloc (.cells #[.int .i64 (x : Int), .bool true] 162) = w9 at *
              go_roundw
              case measure => simp [intOf] <;> omega
              case rel => exact ⟨i + 1, p, by simp, rfl, by omega, by omega, HP2, HIN2⟩
          · obtain rfl : i = t := by omega
            obtain ⟨q, hq⟩ : ∃ q, q = 2 * p := ⟨_, rfl⟩
            have e1 : 2 * (p : Int) = (q : Int) := by omega
            have hf : wr.frozen? ⟨bt, 0, none⟩ = false := HIN.out.take.frozen 0
            have hc : wr.cell? ⟨bt, 0, none⟩ = some (.int .i64 (i : Int)) := by rw [HIN.out.take.cell]; rfl
            have HE := Lib.hid (tk_next HKL.out.2 (by rw [← HKL.out.1]; exact HTL.out) H4.out (by rw [← HKL.out.1]; exact HIN.out) hne)
            rw [← HKL.out.1, show i - lf (lvl A k) i = p by have := HP.out; omega, ← hq] at HE
            have hq2 : q ≤ 4000 := by omega
            clear HIN hq
            gi_wp2
            exact HE.out
      case done =>
        rintro D W hD ⟨acc, t, h1, h2, h3, h4, h5⟩ hK
        have hx : W.cell? ⟨bl, 0, none⟩ = some (.slice (some ⟨gl, 0, none⟩) la la) := by
          have := h1.blk HX8.out (by have := HG6.out; have := HG7.out; rintro (e | e) <;> omega)
          rw [this.cell]; rfl
        have HO : Hid (OwnV 3 w.heap.size W (.slice (some ⟨gl, 0, none⟩) la la) (cel A.length (len A L))) := Lib.hid (by
          have e : cel A.length acc = cel A.length (len A L) := by
            unfold cel
            refine List.map_congr_left fun j _ => ?_
            have := h4 j
            rw [show L + 1 - m = 0 by have := HMM.out; omega] at this
            have e2 : lnx A 0 t j = 0 := rfl
            rw [e2] at this
            rw [show acc j = len A L j by omega]
          rw [e] at h2
          exact OwnV.of_blk h2 (by rw [cel_len]; exact HLA.out.symm) (by have := HLT.out; have := HGL.out; omega) (by omega))
        have HB : Hid (Below w.heap.size w W) := Lib.hid (HL8.out.bel.trans (h1.below HL8.out.bel.size (fun k hk => by have := HLT.out; have := HGL.out; have := HG6.out; have := HG7.out; rcases hk with rfl | rfl <;> omega)))
        have HD : Hid (w8.heap.size ≤ D) := Lib.hid hD
        clear h1 h2 h3 h4 h5
        go_wp2_with fail
        refine ⟨by simp, .inl ⟨_, _, rfl, run_takeDeferred hK, ?_⟩⟩
        refine ⟨_, results_tmp rfl _ _ _, ⟨_, rfl, ?_, ?_⟩⟩
        · exact HO.out.kept (grownBy_putObj' W D _) (.inr (by
            show some gl ≠ some D
            intro e
            injection e with e
            have := HR8.out.lt
            omega))
        · exact HB.out.trans (belowK_b (w := w) (Nat.le_refl _) W D _ _ (by have := HL8.out.bel.size; omega) hK rfl rfl)
end Go.Proofs.YtbjjkhlebdaoaaaDoor.PkC
end
