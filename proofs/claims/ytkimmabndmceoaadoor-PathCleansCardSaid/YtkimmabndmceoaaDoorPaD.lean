/-
  path.Right, Split, Last.
-/
import Derived.Test.YtkimmabndmceoaaDoorPaC
import Derived.Test.YtkimmabndmceoaaDoorRow
namespace Go.Proofs.YtkimmabndmceoaaDoor.PaC
open Go.RowKit Go.My PaMath

/-- Is a path right? -/
def isR (l : List UInt8) : Bool := decide (clean l = some l)
theorem isR_iff (l : List UInt8) : isR l = true ↔ l ≠ [] ∧ mea l = l.length := by unfold isR; rw [decide_eq_true_iff]; exact right_iff l
theorem isR_no (l : List UInt8) : isR l = false ↔ ¬ (l ≠ [] ∧ mea l = l.length) := by rw [← isR_iff]; simp
theorem clean_of_isR {l : List UInt8} (h : isR l = true) : clean l = some l := of_decide_eq_true h
theorem not_of_isR {l : List UInt8} (h : isR l = false) : clean l ≠ some l := of_decide_eq_false h
set_option maxRecDepth 100000 in
theorem right_any (s : ByteArray) (hs : s.size ≤ 1000000) (w : World) :
    Calls Tryd.prog 11 #[.string s] w fun e w' => e = .returned (.bool (isR (lst s))) ∧ Below w.heap.size w w' := by
  by_cases h0 : lst s = []
  · have hr : isR (lst s) = false := (isR_no _).2 (fun h => h.1 h0)
    obtain rfl : s = ⟨#[]⟩ := lst_inj h0
    go_enter Tryd.func11, Tryd.ntmps11
    go_wp2_with fail
    go_ret
    exact ⟨by rw [hr]; rfl, Below.refl _ _⟩
  have e1 : s.toList ≠ [] := by rw [toList_lst]; exact h0
  have e0 : s.toList.isEmpty = false := by simpa using e1
  by_cases hm : mea (lst s) = s.size
  · have HR := Lib.hid ((isR_iff (lst s)).2 ⟨h0, by rw [hm, lst_size]⟩)
    have HM := Lib.hid hm
    clear h0 hm
    go_enter Tryd.func11, Tryd.ntmps11
    go_wp2_with fail
    refine (measure_any s hs w).mono ?_
    rintro e w1 ⟨rfl, hb⟩
    rw [HM.out]
    go_wp2_with fail
    go_ret
    exact ⟨by rw [HR.out]; rfl, hb⟩
  · have HR := Lib.hid ((isR_no (lst s)).2 (fun h => hm (by rw [h.2, lst_size])))
    have e2 : ((mea (lst s) : Int) == (s.size : Int)) = false := by simp; omega
    clear h0
    go_enter Tryd.func11, Tryd.ntmps11
    go_wp2_with fail
    refine (measure_any s hs w).mono ?_
    rintro e w1 ⟨rfl, hb⟩
    go_wp2_with fail
    go_ret
    exact ⟨by rw [HR.out]; rfl, hb⟩

/-- strings.Split(s, "/"): the parts of s, in a new row. -/
theorem texts_map (l : List ByteArray) : l.map (fun s => Value.string s) = (l.map lst).map (fun x => Value.string (tx x)) := by
  rw [List.map_map]
  exact List.map_congr_left fun s _ => by rw [Function.comp, tx_lst]
/-- Texts as a row's values. -/
def vals (l : List (List UInt8)) : List Value := l.map fun x => .string (tx x)
theorem vals_len (l : List (List UInt8)) : (vals l).length = l.length := by simp [vals]
theorem split_any (s : ByteArray) (hs : s.size ≤ 1000000) (w : World) :
    Calls Tryd.prog 29 #[.string s, .string ⟨#[47]⟩] w fun e w' => ∃ a, e = .returned (.slice a (parts (lst s)).length (parts (lst s)).length) ∧ RowIn w' a (parts (lst s)).length (parts (lst s)).length (vals (parts (lst s))) ∧ Below w.heap.size w w' := by
  have hc : Lib.countB s ⟨#[47]⟩ = (lst s).count 47 := by
    show Lib.count s.data.toList [47] = _
    rw [Lib.count_one]; rfl
  have hp := split_parts _ s rfl
  have hn := parts_count (lst s)
  have hlen := parts_few (lst s)
  rw [← lst_size] at hlen
  have hsp : (Lib.splitB ⟨#[47]⟩ 0 ((lst s).count 47) s).length = (parts (lst s)).length := by rw [← hp, List.length_map]
  have c := Any.strings_genSplit_core Tryd.lays221 (by kernel_rfl) s ⟨#[47]⟩ 0 (-1) (Lib.countB s ⟨#[47]⟩ + 1) w (by omega) (by decide) (by decide)
    (fun x c hx => (Any.strings_Index_one Tryd.lays143 x 47 _).mono fun _ _ h => ⟨by rw [h.1, ← Lib.index_one], h.2⟩)
    ((Any.strings_Count_one Tryd.lays138 s 47 w).mono fun _ _ h => ⟨by rw [h.1, hc]; rfl, h.2⟩) (by decide) (by decide) (by rw [if_pos (by decide), hc]; omega)
  rw [hc, Nat.add_sub_cancel, hsp, ← hn] at c
  have hcs := Lib.cellsOf_full (Lib.splitB ⟨#[47]⟩ 0 ((lst s).count 47) s)
  rw [hsp] at hcs
  rw [hcs] at c
  have hcap : (parts (lst s)).length ≤ 1000001 := by omega
  have hvals : (Lib.splitB ⟨#[47]⟩ 0 ((lst s).count 47) s).map Value.string = vals (parts (lst s)) := by
    rw [← hp, vals, List.map_map]
    exact List.map_congr_left fun s _ => by rw [Function.comp, tx_lst]
  rw [hvals] at c
  obtain ⟨N, hN⟩ : ∃ N, N = (parts (lst s)).length := ⟨_, rfl⟩
  obtain ⟨T, hT⟩ : ∃ T : List (List UInt8), T = parts (lst s) := ⟨_, rfl⟩
  rw [← hT] at hN c hcap ⊢
  rw [← hN] at c hcap ⊢
  have C := Lib.hid c
  have HN := Lib.hid hN
  have HC := Lib.hid hcap
  clear c hc hp hn hlen hsp hcs hvals hT hN hcap
  go_enter Tryd.func29, Tryd.ntmps29
  go_wp2_with fail
  refine C.out.mono ?_
  rintro e w1 ⟨rfl, rfl⟩
  go_wp2_with fail
  go_ret
  refine ⟨_, rfl, ⟨by rw [vals_len, HN.out], Nat.le_refl _, by have := HC.out; omega, fun e => (by cases e), .inr ⟨w.heap.size, 0, rfl, by simp, fun i hi => ?_⟩⟩, (Below.refl _ _).alloc (Nat.le_refl _) _⟩
  rw [(Blk.new w _ _).cell]
  simp [hi]
/-- A row of texts, or none. -/
def Texts (w w' : World) (l : List (List UInt8)) (e : Ending) : Prop := ∃ a c, e = .returned (.slice a l.length c) ∧ RowIn w' a l.length c (vals l) ∧ Below w.heap.size w w'
set_option maxRecDepth 100000 in
theorem psplit_any (s : ByteArray) (hs : s.size ≤ 1000000) (w : World) :
    Calls Tryd.prog 14 #[.string s] w fun e w' => Texts w w' (split (lst s)) e := by
  cases hr : isR (lst s)
  · have hsp : split (lst s) = [] := by unfold split; rw [if_neg (not_of_isR hr)]
    rw [hsp]
    go_enter Tryd.func14, Tryd.ntmps14
    go_wp2_with fail
    refine (right_any s hs w).mono ?_
    rintro e w1 ⟨rfl, hb⟩
    rw [hr]
    go_wp2_with fail
    go_ret
    exact ⟨none, 0, rfl, RowIn.none_ _, hb⟩
  · have hsp : split (lst s) = parts (lst s) := by unfold split; rw [if_pos (clean_of_isR hr)]
    rw [hsp]
    have HSP := Lib.hid hsp
    clear hsp
    go_enter Tryd.func14, Tryd.ntmps14
    go_wp2_with fail
    refine (right_any s hs w).mono ?_
    rintro e w1 ⟨rfl, hb⟩
    rw [hr]
    go_wp2_with fail
    refine (clone_any s w1 (by omega)).mono ?_
    rintro e w2 ⟨rfl, hb2⟩
    go_wp2_with fail
    refine (split_any s hs w2).mono ?_
    rintro e w3 ⟨a, rfl, hR, hb3⟩
    go_wp2_with fail
    go_ret
    exact ⟨a, _, rfl, hR, (hb.trans (hb2.mono hb.size)).trans (hb3.mono (Nat.le_trans hb.size hb2.size))⟩
/-- path.parts: as Less compares. -/
theorem pparts_any (s : ByteArray) (hs : s.size ≤ 1000000) (w : World) :
    Calls Tryd.prog 33 #[.string s] w fun e w' => Texts w w' (key (lst s)) e := by
  cases hr : isR (lst s)
  · have hsp : key (lst s) = [lst s] := by unfold key; rw [if_neg (not_of_isR hr)]
    rw [hsp]
    have HSP := Lib.hid hsp
    clear hsp
    go_enter Tryd.func33, Tryd.ntmps33
    go_wp2_with fail
    refine (right_any s hs w).mono ?_
    rintro e w1 ⟨rfl, hb⟩
    rw [hr]
    go_wp2_with fail
    go_ret
    refine ⟨some ⟨w1.heap.size, 0, none⟩, 1, rfl, ⟨rfl, by simp, by omega, fun e => (by cases e), .inr ⟨w1.heap.size, 0, rfl, by simp, fun i hi => ?_⟩⟩, hb.trans (((Below.refl _ _).alloc (Nat.le_refl _) _).mono hb.size)⟩
    obtain rfl : i = 0 := by rw [vals_len] at hi; simp at hi; omega
    rw [(Blk.new w1 _ _).cell]
    simp [vals, tx_lst]
  · have hsp : key (lst s) = parts (lst s) := by unfold key; rw [if_pos (clean_of_isR hr)]
    rw [hsp]
    have HSP := Lib.hid hsp
    clear hsp
    go_enter Tryd.func33, Tryd.ntmps33
    go_wp2_with fail
    refine (right_any s hs w).mono ?_
    rintro e w1 ⟨rfl, hb⟩
    rw [hr]
    go_wp2_with fail
    refine (split_any s hs w1).mono ?_
    rintro e w3 ⟨a, rfl, hR, hb3⟩
    go_wp2_with fail
    go_ret
    exact ⟨a, _, rfl, hR, hb.trans (hb3.mono hb.size)⟩
/-- What stands behind the last slash. -/
def lastOf (l : List UInt8) : List UInt8 := (split l).getLastD []
theorem bang_lst (s : ByteArray) (j : Nat) (h : j < s.size) : s.data[j]! = (lst s)[j]'(by rw [← lst_size]; exact h) := by
  have h' : j < s.data.size := h
  rw [getElem!_pos s.data j h']
  rfl
theorem last_idx (s : ByteArray) : ∃ k : Nat, Lib.lastIndexByte s 47 + 1 = (k : Int) ∧ k ≤ s.size ∧ (parts (lst s)).getLastD [] = (lst s).drop k := by
  have hz := lst_size s
  rcases Lib.lastIdx_spec s 47 s.size with ⟨h1, h2⟩ | ⟨i, h1, h2, h3, h4⟩
  · refine ⟨0, by unfold Lib.lastIndexByte; rw [h1]; rfl, Nat.zero_le _, ?_⟩
    rw [parts_one]
    · rfl
    · intro hm
      obtain ⟨j, hj, he⟩ := List.mem_iff_getElem.1 hm
      have := h2 j (by omega)
      rw [bang_lst s j (by omega), he] at this
      exact this rfl
  · refine ⟨i + 1, by unfold Lib.lastIndexByte; rw [h2]; rfl, h1, ?_⟩
    rw [bang_lst s i h1] at h3
    have hi : (lst s)[i]'(by omega) = 47 := by
      apply UInt8.toNat_inj.1
      have : (47 : UInt8).toNat = 47 := rfl
      omega
    have e : lst s = (lst s).take i ++ 47 :: (lst s).drop (i + 1) := by
      have := List.take_append_drop i (lst s)
      rw [List.drop_eq_getElem_cons (by omega), hi] at this
      exact this.symm
    have h47 : (47 : UInt8) ∉ (lst s).drop (i + 1) := by
      intro hm
      obtain ⟨j, hj, he⟩ := List.mem_iff_getElem.1 hm
      rw [List.length_drop] at hj
      rw [List.getElem_drop] at he
      have := h4 (i + 1 + j) (by omega) (by omega)
      rw [bang_lst s _ (by omega), he] at this
      exact this rfl
    have hp := parts_last e h47
    rw [List.getLastD_eq_getLast?, hp]
    rfl
set_option maxRecDepth 100000 in
theorem last_any (s : ByteArray) (hs : s.size ≤ 1000000) (w : World) :
    Calls Tryd.prog 16 #[.string s] w fun e w' => e = .returned (.string (tx (lastOf (lst s)))) ∧ Below w.heap.size w w' := by
  cases hr : isR (lst s)
  · have hsp : lastOf (lst s) = [] := by unfold lastOf split; rw [if_neg (not_of_isR hr)]; rfl
    rw [hsp]
    clear hsp
    go_enter Tryd.func16, Tryd.ntmps16
    go_wp2_with fail
    refine (right_any s hs w).mono ?_
    rintro e w1 ⟨rfl, hb⟩
    rw [hr]
    go_wp2_with fail
    go_ret
    exact ⟨rfl, hb⟩
  · obtain ⟨k, hk, hks, hl⟩ := last_idx s
    have hsp : lastOf (lst s) = (lst s).drop k := by unfold lastOf split; rw [if_pos (clean_of_isR hr), hl]
    rw [hsp, ← lst_drop, tx_lst]
    have c : ∀ W, Calls Tryd.prog 31 #[.string s, .string ⟨#[47]⟩] W fun e w' => e = .returned (.int .i64 (Lib.lastIndexByte s 47)) ∧ W = w' := fun W =>
      (Any.strings_LastIndex_one Tryd.lays148 s ⟨#[47]⟩ rfl (by omega) W).mono fun _ _ h => ⟨h.1, h.2.symm⟩
    obtain ⟨K, hK⟩ : ∃ K, K = Lib.lastIndexByte s 47 := ⟨_, rfl⟩
    rw [← hK] at c hk
    have e1 : IntKind.i64.wrap (K + 1) = (k : Int) := by rw [hk, IntKind.wrap_i64]; omega
    have C := Lib.hid c
    have HK := Lib.hid hk
    have hK1 : -1 ≤ K := by omega
    have hK2 : K ≤ 1000000 := by omega
    clear hk hl hsp c hK
    go_enter Tryd.func16, Tryd.ntmps16
    go_wp2_with fail
    refine (right_any s hs w).mono ?_
    rintro e w1 ⟨rfl, hb⟩
    rw [hr]
    go_wp2_with fail
    refine (C.out w1).mono ?_
    rintro e w2 ⟨rfl, rfl⟩
    have e2 : K + 1 = (k : Int) := HK.out
    go_wp2_with fail
    refine (clone_any _ w1 (by rw [ByteArray.size_extract]; omega)).mono ?_
    rintro e w2 ⟨rfl, hb2⟩
    go_wp2_with fail
    go_ret
    exact ⟨rfl, hb.trans (hb2.mono hb.size)⟩
end Go.Proofs.YtkimmabndmceoaaDoor.PaC
