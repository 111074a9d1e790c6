/-
  The document's parts, Clean.
-/
import Derived.Test.YtkimmabndmceoaaDoorPaD
namespace Go.Proofs.YtkimmabndmceoaaDoor.PaC
open Go.RowKit Go.My PaMath

theorem info_str : (Tryd.prog.info? 9).map (fun i => (i.zero, i.size, i.bytes)) = some (some (.string ⟨#[]⟩), 1, 16) := by kernel_rfl
theorem vals_one (l : List (List UInt8)) : ∀ u ∈ vals l, u.oneCell' = true := by
  intro u hu
  obtain ⟨x, _, rfl⟩ := List.mem_map.1 hu
  rfl
theorem one_row (w : World) (p : ByteArray) : RowIn (w.alloc (.cells #[.string p] 9)) (some ⟨w.heap.size, 0, none⟩) 1 1 (vals [lst p]) :=
  ⟨rfl, Nat.le_refl _, by omega, fun e => (by cases e), .inr ⟨w.heap.size, 0, rfl, by simp, fun i hi => by
    obtain rfl : i = 0 := by rw [vals_len] at hi; simp at hi; omega
    rw [(Blk.new w _ _).cell]
    simp [vals, tx_lst]⟩⟩
/-- What the document's loop keeps: `done` ahead, and no slash from `fr` to k. -/
def RpI (s : List UInt8) (k fr : Nat) (done : List (List UInt8)) : Prop :=
  (k ≤ s.length ∧ fr ≤ k ∧ 47 ∉ (s.drop fr).take (k - fr) ∧ parts s = done ++ parts (s.drop fr)) ∨ (k = s.length + 1 ∧ done = parts s)
theorem rp_zero (s : List UInt8) : RpI s 0 0 [] := .inl ⟨Nat.zero_le _, Nat.le_refl _, by simp, by simp⟩
theorem rp_len {s : List UInt8} {k fr : Nat} {done : List (List UInt8)} (h : RpI s k fr done) : done.length ≤ s.length + 1 := by
  have := parts_few s
  rcases h with ⟨_, _, _, h⟩ | ⟨_, h⟩
  · rw [h, List.length_append] at this; omega
  · rw [h]; exact this
theorem rp_next {s : List UInt8} {k fr : Nat} {done : List (List UInt8)} (h : RpI s k fr done) (hk : k < s.length) (hc : s[k] ≠ 47) : RpI s (k + 1) fr done := by
  rcases h with ⟨h1, h2, h3, h4⟩ | ⟨h1, _⟩
  · refine .inl ⟨by omega, by omega, ?_, h4⟩
    rw [show k + 1 - fr = (k - fr) + 1 by omega, List.take_succ_eq_append_getElem (by rw [List.length_drop]; omega)]
    intro hm
    rcases List.mem_append.1 hm with hm | hm
    · exact h3 hm
    · simp only [List.mem_singleton, List.getElem_drop] at hm
      have e : fr + (k - fr) = k := by omega
      simp only [e] at hm
      exact hc hm.symm
  · omega
theorem rp_part {s : List UInt8} {k fr : Nat} {done : List (List UInt8)} (h : RpI s k fr done) (hk : k < s.length) (hc : s[k] = 47) : RpI s (k + 1) (k + 1) (done ++ [(s.drop fr).take (k - fr)]) ∧ fr ≤ k := by
  rcases h with ⟨h1, h2, h3, h4⟩ | ⟨h1, _⟩
  · refine ⟨.inl ⟨by omega, Nat.le_refl _, by simp, ?_⟩, h2⟩
    have e : s.drop fr = (s.drop fr).take (k - fr) ++ 47 :: s.drop (k + 1) := by
      have h5 := List.take_append_drop (k - fr) (s.drop fr)
      rw [List.drop_drop, show fr + (k - fr) = k by omega, List.drop_eq_getElem_cons hk, hc] at h5
      exact h5.symm
    rw [h4, List.append_assoc]
    congr 1
    have h6 := parts_app ((s.drop fr).take (k - fr)) (s.drop (k + 1))
    rw [← e, parts_one h3] at h6
    exact h6
  · omega
theorem rp_end {s : List UInt8} {fr : Nat} {done : List (List UInt8)} (h : RpI s s.length fr done) : RpI s (s.length + 1) (s.length + 1) (done ++ [(s.drop fr).take (s.length - fr)]) ∧ fr ≤ s.length := by
  rcases h with ⟨h1, h2, h3, h4⟩ | ⟨h1, _⟩
  · have e : (s.drop fr).take (s.length - fr) = s.drop fr := List.take_of_length_le (by rw [List.length_drop]; exact Nat.le_refl _)
    rw [e] at h3 ⊢
    exact ⟨.inr ⟨rfl, by rw [h4, parts_one h3]⟩, h2⟩
  · omega
theorem lst_get (s : ByteArray) (k : Nat) (h : k < s.size) : (lst s)[k]'(by rw [← lst_size]; exact h) = s[k] := by simp [lst, ByteArray.getElem_eq_getElem_data]
set_option maxRecDepth 100000 in
set_option maxHeartbeats 4000000 in
theorem rparts_any (s : ByteArray) (hs : s.size ≤ 1000000) (w : World) :
    Calls Tryd.prog 28 #[.string s] w fun e w' => Texts w w' (parts (lst s)) e := by
  go_enter Tryd.func28, Tryd.ntmps28
  go_wp2_with fail
  go_loopw [3, 4, 5] (fun l f i wr => ∃ (k fr : Nat) (a : Option Addr) (c : Nat) (done : List (List UInt8)), i = .int .i64 (k : Int) ∧ f = .int .i64 (fr : Int) ∧ k ≤ s.size + 1 ∧ fr ≤ s.size + 1 ∧ l = .slice a done.length c ∧ Hid (RpI (lst s) k fr done) ∧ Hid (OwnV 9 w.heap.size wr (.slice a done.length c) (vals done)) ∧ Hid (Below w.heap.size w wr)) (fun _ _ i _ => s.size + 1 - (intOf i).toNat)
  case atStart => exact ⟨0, 0, none, 0, [], rfl, rfl, Nat.zero_le _, Nat.zero_le _, rfl, Lib.hid (rp_zero _), Lib.hid (OwnV.nil _ _ _), Lib.hid (Below.refl _ w)⟩
  case round =>
    obtain ⟨k, fr, a, c, done, rfl, rfl, hk, hf, rfl, HI, HO, HB⟩ := hrel
    have hdl : done.length ≤ 1000001 := by have := rp_len HI.out; rw [lst_size] at hs; omega
    by_cases hlt : k ≤ s.size
    · have app : ∀ (p : ByteArray), Hid (OwnV 9 w.heap.size (wr.alloc (.cells #[.string p] 9)) (.slice a done.length c) (vals done)) ∧ Hid (RowIn (wr.alloc (.cells #[.string p] 9)) (some ⟨wr.heap.size, 0, none⟩) 1 1 (vals [lst p])) ∧ Hid (Below w.heap.size w (wr.alloc (.cells #[.string p] 9))) := fun p =>
        ⟨Lib.hid (HO.out.below (Nat.le_refl _) ((Below.refl _ wr).alloc (Nat.le_refl _) _)), Lib.hid (one_row wr p), Lib.hid (HB.out.alloc HB.out.size _)⟩
      have HA := Lib.hid app
      clear app
      by_cases heq : k = s.size
      · subst heq
        have hE := rp_end (s := lst s) (fr := fr) (done := done) (by rw [← lst_size]; exact HI.out)
        have hfr : fr ≤ s.size := by rw [lst_size]; exact hE.2
        have hpl : lst (s.extract fr s.size) = ((lst s).drop fr).take ((lst s).length - fr) := by rw [lst_extract, lst_size]
        have hE1 := hE.1
        rw [← hpl, ← lst_size] at hE1
        have HE := Lib.hid hE1
        clear hE hE1 hpl
        obtain ⟨h1, h2, h3⟩ := HA.out (s.extract fr s.size)

        go_wp2_with (at_builtin; refine wpList_append_row (by rfl) (.tmp 22) (.tmp 27) 27 rfl w.heap.size 9 (.string ⟨#[]⟩) 16 Tryd.underlying27 info_str rfl (.slice a done.length c) (vals done) rfl h1.out (some ⟨wr.heap.size, 0, none⟩) 1 1 (vals [lst (s.extract fr s.size)]) rfl h2.out (vals_one _) (by rw [vals_len]; omega) (by rw [vals_len]; omega) h3.out.size ?_)
        intro a2 c2 w2 hown2 hg2 _
        rw [vals_len] at hown2
        have HO2 : Hid (OwnV 9 w.heap.size w2 (.slice a2 (done ++ [lst (s.extract fr s.size)]).length c2) (vals (done ++ [lst (s.extract fr s.size)]))) := Lib.hid (by rw [List.length_append]; unfold vals at hown2 ⊢; rw [List.map_append]; exact hown2)
        have HB2 : Hid (Below w.heap.size w w2) := Lib.hid (OwnV.grown h1.out h3.out hg2 h3.out.size)
        rw [vals_len]
        clear hown2 hg2 h1 h2 h3 HO HB HA
        go_wp2_with fail
        go_roundw
        case rel => exact ⟨s.size + 1, s.size + 1, a2, c2, done ++ [lst (s.extract fr s.size)], by simp, by simp, by omega, by omega, by rw [List.length_append]; rfl, HE, HO2, HB2⟩
        case measure => simp [intOf] <;> omega
      · have hlt2 : k < s.size := by omega
        have hlt3 : k < (lst s).length := by rw [← lst_size]; exact hlt2
        have hne : ((k : Int) == (s.size : Int)) = false := by simp; omega
        obtain ⟨ch, hch⟩ : ∃ ch, ch = s[k] := ⟨_, rfl⟩
        have hcl : (lst s)[k] = ch := by rw [hch]; exact lst_get s k hlt2
        by_cases hc : ch = 47
        · have hE := rp_part HI.out hlt3 (by rw [hcl]; exact hc)
          have hfr : fr ≤ k := hE.2
          have hpl : lst (s.extract fr k) = ((lst s).drop fr).take (k - fr) := lst_extract _ _ _
          have hE1 := hE.1
          rw [← hpl] at hE1
          have HE := Lib.hid hE1
          have e1 : ((s[k].toNat : Int) == 47) = true := by rw [← hch, hc]; rfl
          clear hE hE1 hpl hcl hch hc
          obtain ⟨h1, h2, h3⟩ := HA.out (s.extract fr k)

          go_wp2_with (at_builtin; refine wpList_append_row (by rfl) (.tmp 22) (.tmp 27) 27 rfl w.heap.size 9 (.string ⟨#[]⟩) 16 Tryd.underlying27 info_str rfl (.slice a done.length c) (vals done) rfl h1.out (some ⟨wr.heap.size, 0, none⟩) 1 1 (vals [lst (s.extract fr k)]) rfl h2.out (vals_one _) (by rw [vals_len]; omega) (by rw [vals_len]; omega) h3.out.size ?_)
          intro a2 c2 w2 hown2 hg2 _
          rw [vals_len] at hown2
          have HO2 : Hid (OwnV 9 w.heap.size w2 (.slice a2 (done ++ [lst (s.extract fr k)]).length c2) (vals (done ++ [lst (s.extract fr k)]))) := Lib.hid (by rw [List.length_append]; unfold vals at hown2 ⊢; rw [List.map_append]; exact hown2)
          have HB2 : Hid (Below w.heap.size w w2) := Lib.hid (OwnV.grown h1.out h3.out hg2 h3.out.size)
          rw [vals_len]
          clear hown2 hg2 h1 h2 h3 HO HB HA
          go_wp2_with fail
          go_roundw
          case rel => exact ⟨k + 1, k + 1, a2, c2, done ++ [lst (s.extract fr k)], by simp, by simp, by omega, by omega, by rw [List.length_append]; rfl, HE, HO2, HB2⟩
          case measure => simp [intOf] <;> omega
        · have HE := Lib.hid (rp_next HI.out hlt3 (by rw [hcl]; exact hc))
          have e1 : ((s[k].toNat : Int) == 47) = false := by
            rw [← hch, beq_eq_false_iff_ne]
            intro e
            exact hc (UInt8.toNat_inj.1 (by have : (47 : UInt8).toNat = 47 := rfl; omega))
          clear hcl hch hc HA
          go_wp2_with fail
          go_roundw
          case rel => exact ⟨k + 1, fr, a, c, done, by simp, rfl, by omega, by omega, rfl, HE, HO, HB⟩
          case measure => simp [intOf] <;> omega
    · obtain rfl : k = s.size + 1 := by omega
      have hd : done = parts (lst s) := by
        rcases HI.out with ⟨h1, _⟩ | ⟨_, h⟩
        · rw [← lst_size] at h1; omega
        · exact h
      have HD := Lib.hid hd
      clear hd
      go_wp2_with fail
      go_ret
      exact ⟨a, c, by rw [← HD.out]; rfl, by rw [← HD.out]; exact HO.out.rowIn (vals_len _), HB.out⟩
end Go.Proofs.YtkimmabndmceoaaDoor.PaC
