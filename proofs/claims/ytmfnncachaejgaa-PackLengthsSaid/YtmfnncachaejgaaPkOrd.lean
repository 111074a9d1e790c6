/-
  Costs of lengths, held against each other.
-/
import Derived.Test.YtmfnncachaejgaaPkTold
import Derived.Test.YtmfnncachaejgaaPkRc
namespace Go.Proofs.Ytmfnncachaejgaa.PkC
open Go.Shelf Go.RowKit Go.My PackMath

theorem sm_map (l : List Nat) (g : Nat → Nat) : sm l.length (fun j => g (l.getD j 0)) = (l.map g).sum := by
  have h := sm_list (l.map g) l.length
  rw [List.take_of_length_le (by simp)] at h
  rw [← h]
  exact sm_congr fun j hj => (map_getD l g j hj).symm
theorem pos_sum (cs : List Nat) (g : Nat → Nat) (k : Nat) : ((pos cs k).map g).sum = sm k (fun i => if 0 < cs.getD i 0 then g i else 0) := by
  induction k with
  | zero => rfl
  | succ k ih =>
    rw [sm_succ, ← ih]
    by_cases h : 0 < cs.getD k 0
    · rw [pos_yes _ _ h, if_pos h, List.map_append, List.sum_append]; simp
    · rw [pos_no _ _ h, if_neg h]; simp
/-- A sum over the order is the sum over the symbols that appear. -/
theorem ord_sum {cs ord : List Nat} (h : ord.Perm (pos cs cs.length)) (g : Nat → Nat) :
    sm ord.length (fun j => g (ord.getD j 0)) = sm cs.length (fun i => if 0 < cs.getD i 0 then g i else 0) := by
  rw [sm_map, ← pos_sum]
  exact (h.map g).sum_nat
theorem ord_prd {cs ord : List Nat} (h : ord.Perm (pos cs cs.length)) (l : List Nat) :
    prd cs l cs.length = sm ord.length (fun j => (ord.map (cs.getD · 0)).getD j 0 * l.getD (ord.getD j 0) 0) := by
  have e := ord_sum h (fun i => cs.getD i 0 * l.getD i 0)
  unfold prd
  rw [show sm cs.length (fun j => cs.getD j 0 * l.getD j 0) = sm cs.length (fun i => if 0 < cs.getD i 0 then cs.getD i 0 * l.getD i 0 else 0) from sm_congr fun i _ => by
    by_cases hc : 0 < cs.getD i 0
    · rw [if_pos hc]
    · rw [if_neg hc, show cs.getD i 0 = 0 by omega, Nat.zero_mul], ← e]
  exact sm_congr fun j hj => by rw [map_getD _ _ _ hj]
/-- The cost of the lengths that are handed back. -/
theorem cost_lens {cs : List Nat} {L : Nat} {ord lens : List Nat} (h : Lens cs L ord lens) :
    prd cs lens cs.length = sm (ord.map (cs.getD · 0)).length (fun j => (ord.map (cs.getD · 0)).getD j 0 * lfin (ord.map (cs.getD · 0)) L j) := by
  rw [ord_prd h.perm, List.length_map]
  exact sm_congr fun j hj => by rw [h.has j hj]
theorem pos_vals (cs : List Nat) (k : Nat) (hk : k ≤ cs.length) : (pos cs k).map (cs.getD · 0) = (cs.take k).filter (fun x => decide (0 < x)) := by
  induction k with
  | zero => rfl
  | succ k ih =>
    have hk' : k < cs.length := by omega
    have e : cs.getD k 0 = cs[k] := by rw [List.getD_eq_getElem?_getD, List.getElem?_eq_getElem hk']; rfl
    rw [List.take_succ_eq_append_getElem hk', List.filter_append, ← ih (by omega)]
    by_cases h : 0 < cs.getD k 0
    · rw [pos_yes _ _ h, List.map_append, List.map_cons, List.map_nil, e, List.filter_cons_of_pos (by rw [← e]; simpa using h)]; rfl
    · rw [pos_no _ _ h, List.filter_cons_of_neg (by rw [← e]; simpa using h)]; simp
theorem ord_vals {cs ord : List Nat} (h : ord.Perm (pos cs cs.length)) : (ord.map (cs.getD · 0)).Perm (cs.filter (fun x => decide (0 < x))) := by
  have := h.map (cs.getD · 0)
  rwa [pos_vals cs cs.length (Nat.le_refl _), List.take_of_length_le (Nat.le_refl _)] at this
/-- The order's counts are the same, whatever the order of the symbols. -/
theorem same_vals {cs cs2 ord ord2 : List Nat} (hp : cs2.Perm cs) (h : ord.Perm (pos cs cs.length)) (h2 : ord2.Perm (pos cs2 cs2.length)) (s : Srt (ord.map (cs.getD · 0))) (s2 : Srt (ord2.map (cs2.getD · 0))) :
    ord2.map (cs2.getD · 0) = ord.map (cs.getD · 0) :=
  srt_unique s2 s ((ord_vals h2).trans ((hp.filter _).trans (ord_vals h).symm))
/-- Turned counts cost the same. -/
theorem cost_turned {cs cs2 : List Nat} {L : Nat} {ord lens ord2 lens2 : List Nat} (hp : cs2.Perm cs) (h : Lens cs L ord lens) (h2 : Lens cs2 L ord2 lens2) :
    prd cs2 lens2 cs2.length = prd cs lens cs.length := by
  rw [cost_lens h, cost_lens h2, same_vals hp h.perm h2.perm h.srt h2.srt]
theorem ord_len_le {cs : List Nat} {L : Nat} {ord lens : List Nat} (h : Lens cs L ord lens) : ord.length ≤ cs.length := by
  have := h.perm.length_eq
  have := pos_len cs cs.length
  omega
/-- A greater most costs no more. -/
theorem cost_more {cs : List Nat} {L : Nat} {ord lens ord2 lens2 : List Nat} (hL : L + 1 ≤ 14) (hn : cs.length ≤ 2 ^ (L + 1)) (h : Lens cs L ord lens) (h2 : Lens cs (L + 1) ord2 lens2) :
    prd cs lens2 cs.length ≤ prd cs lens cs.length := by
  rw [cost_lens h, cost_lens h2, same_vals (List.Perm.refl _) h.perm h2.perm h.srt h2.srt]
  have hs := h.srt
  have hl : (ord.map (cs.getD · 0)).length ≤ 2 ^ (L + 1) := by rw [List.length_map]; exact Nat.le_trans (ord_len_le h) hn
  generalize ord.map (cs.getD · 0) = A at *
  by_cases h1 : A.length = 1
  · refine Nat.le_of_eq (sm_congr fun j _ => ?_)
    unfold lfin; rw [if_pos h1, if_pos h1]
  · by_cases h0 : A.length = 0
    · rw [h0]; exact Nat.le_refl _
    · have e : ∀ L', sm A.length (fun j => A.getD j 0 * lfin A L' j) = sm A.length (fun j => A.getD j 0 * PackMath.len A L' j) := fun L' => sm_congr fun j _ => by unfold lfin; rw [if_neg h1]
      rw [e, e]
      refine len_best hs (by omega) ?_ (PackMath.len A L) (fun j _ => by have := len_le (A := A) (L := L) j; omega) (by rw [len_kraft hs (by omega) (by omega) hl]; exact Nat.le_refl _)
      have : 2 ^ (L + 1) ≤ 2 ^ (L + 1 + 1) := Nat.pow_le_pow_right (by omega) (by omega)
      omega
/-- A greater count has no greater length. -/
theorem len_order {cs : List Nat} {L : Nat} {ord lens : List Nat} (h : Lens cs L ord lens) (i k : Nat) (hi : i < cs.length) (hk : k < cs.length) (h1 : cs.getD k 0 < cs.getD i 0) (h2 : 0 < cs.getD k 0) :
    lens.getD i 0 ≤ lens.getD k 0 := by
  obtain ⟨j, hj, e1, e2, e3⟩ := lens_sym h i hi (by omega)
  obtain ⟨q, hq, f1, f2, f3⟩ := lens_sym h k hk h2
  rw [e3, f3]
  have hs := h.srt
  unfold lfin
  split
  · exact Nat.le_refl _
  · refine len_mono ?_
    by_cases hjq : q ≤ j
    · exact hjq
    · have := Srt.get hs (i := j) (j := q) (by omega) (by simpa using hq)
      omega
/-- Any other lengths cost no less. -/
theorem cost_against {cs : List Nat} {L : Nat} {ord lens : List Nat} (hL : L ≤ 14) (h2 : 2 ≤ cs.length) (hn : cs.length ≤ 2 ^ (L + 1)) (hp : ∀ i, i < cs.length → 0 < cs.getD i 0) (h : Lens cs L ord lens)
    (l : List Nat) (hl : ∀ i, i < cs.length → l.getD i 0 ≤ L + 1) (hk : sm cs.length (fun i => 2 ^ (15 - l.getD i 0)) ≤ 32768) :
    prd cs lens cs.length ≤ prd cs l cs.length := by
  have ho : ord.length = cs.length := by
    have e := ord_sum h.perm (fun _ => 1)
    rw [sm_const, show sm cs.length (fun i => if 0 < cs.getD i 0 then 1 else 0) = sm cs.length (fun _ => 1) from sm_congr fun i hi => by rw [if_pos (hp i hi)], sm_const] at e
    omega
  rw [cost_lens h, ord_prd h.perm]
  have hs := h.srt
  have hlen : (ord.map (cs.getD · 0)).length = ord.length := List.length_map _
  have hlt := (ord_facts h.perm).1
  have e := ord_sum h.perm (fun i => 2 ^ (15 - l.getD i 0))
  rw [show sm cs.length (fun i => if 0 < cs.getD i 0 then 2 ^ (15 - l.getD i 0) else 0) = sm cs.length (fun i => 2 ^ (15 - l.getD i 0)) from sm_congr fun i hi => by rw [if_pos (hp i hi)]] at e
  rw [← e] at hk
  generalize ord.map (cs.getD · 0) = A at *
  rw [← hlen] at hk hlt ⊢
  rw [show sm A.length (fun j => A.getD j 0 * lfin A L j) = sm A.length (fun j => A.getD j 0 * PackMath.len A L j) from sm_congr fun j _ => by unfold lfin; rw [if_neg (by omega)]]
  exact len_best hs hL (by omega) (fun j => l.getD (ord.getD j 0) 0) (fun j hj => hl _ (hlt j hj).1) hk
end Go.Proofs.Ytmfnncachaejgaa.PkC
