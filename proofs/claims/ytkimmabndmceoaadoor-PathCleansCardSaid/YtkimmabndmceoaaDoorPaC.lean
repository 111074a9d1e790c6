/-
  measure: how many bytes of a path remain.
-/
import Derived.Test.YtkimmabndmceoaaDoorPaB
namespace Go.Proofs.YtkimmabndmceoaaDoor.PaC
open Go.RowKit Go.My PaMath

attribute [local go_sem] Oper.semAt_some

/-- What measure's loop keeps. -/
def MeaI (s : ByteArray) (w : World) (r : Nat) (W : World) : Prop := Fine (lst s) r ∧ Blk W w.heap.size 3 #[.int .i64 (acc (lst s) r)] ∧ Below w.heap.size w W
def MeaX (s : ByteArray) (w : World) (c : Code) (_ : Nat) (W : World) : Prop := c = .exit 0 ∧ mea (lst s) = 0 ∧ Blk W w.heap.size 3 #[.int .i64 0] ∧ Below w.heap.size w W
theorem mea_own (s : ByteArray) (w : World) {B : Nat} (hB : w.heap.size ≤ B) : OwnFrom B (MeaI s w) := fun _ _ _ _ h hg hr =>
  ⟨h.1, h.2.1.own hg hr, h.2.2.grown hg h.2.2.size (fun k e => Nat.le_trans hB (hr k e).1)⟩
theorem meax_own (s : ByteArray) (w : World) {B : Nat} (hB : w.heap.size ≤ B) (c : Code) : OwnFrom B (MeaX s w c) := fun _ _ _ _ h hg hr =>
  ⟨h.1, h.2.1, h.2.2.1.own hg hr, h.2.2.2.grown hg h.2.2.2.size (fun k e => Nat.le_trans hB (hr k e).1)⟩

set_option maxRecDepth 100000 in
set_option maxHeartbeats 4000000 in
theorem measure_any (s : ByteArray) (hs : s.size ≤ 1000000) (w : World) :
    Calls Tryd.prog 21 #[.string s] w fun e w' => e = .returned (.int .i64 (mea (lst s) : Int)) ∧ Below w.heap.size w w' := by
  by_cases habs : (lst s).head? = some 47
  · have hm : mea (lst s) = 0 := mea_abs habs
    go_enter Tryd.func21, Tryd.ntmps21
    go_wp2_with fail
    go_step3
    go_wp2_with fail
    refine (abs_any s w).mono ?_
    rintro e w' ⟨rfl, rfl⟩
    rw [decide_eq_true habs]
    go_wp2_with fail
    rw [Exit.noGoto_ret]
    go_ret
    exact ⟨ret_int (by rw [hm]; rfl), Below.refl _ _⟩
  refine (callsIn_wide (n := 8)).1 ?_
  refine callsIn_of_wp_marks Tryd.func21 rfl trivial ?_ rfl
  simp only [Tryd.ntmps21, List.size_toArray, List.length_cons, List.length_nil, Nat.reduceAdd, Nat.reduceSub, Array.replicate_succ, Array.replicate_zero, List.push_toArray, List.append_toArray, List.nil_append, List.cons_append]
  refine wpIn_wide.2 ?_
  go_wp2_with fail
  go_step3
  go_wp2_with fail
  refine (abs_any s w).mono ?_
  rintro e w' ⟨rfl, rfl⟩
  rw [decide_eq_false habs]
  have HA := Lib.hid habs
  clear habs
  go_wp2_with fail
  go_step3
  go_wp2_with fail
  refine (seq_new s _).mono ?_
  rintro e w1 ⟨rfl, hB, hb, hz⟩
  go_wp2_with fail
  rw [World.size_alloc] at hb hz
  simp only [World.size_alloc] at hB
  have hb1 : Below w.heap.size w w1 := ((Below.refl _ w).alloc (Nat.le_refl _) _).trans (hb.mono (Nat.le_succ _))
  have hn1 : Blk w1 w.heap.size 3 #[.int .i64 (-1)] := (Blk.new w _ _).same (hb.block _ (Nat.lt_succ_self _))
  have H0 : Hid (MeaI s w 0 w1) := Lib.hid ⟨Fine.zero _, by rw [acc_zero]; exact hn1, hb1⟩
  have HB := Lib.hid hB
  have HZ := Lib.hid hz
  have HS1 : Hid (w.heap.size ≤ w1.heap.size) := Lib.hid hb1.size
  clear hn1 hb hB hz hb1
  refine (wpIn_wide (n := 8)).1 (range_seq1 rfl (by omega) (gf := 48) (lb := #[.pointer (some ⟨w.heap.size + 1 + 1, 0, none⟩), .pointer (some ⟨w.heap.size + 1, 0, none⟩), .pointer (some ⟨w.heap.size + 1 + 2, 0, none⟩)]) rfl trivial (enters_of Tryd.func48 (by kernel_rfl) rfl)
    (handed s) (parts (lst s)).length (w.heap.size + 1) (BoxS (w.heap.size + 1)) w1 (seq_in _ (by omega) (w.heap.size + 1) s hs w1 HB.out) (KpS.refl _ _) (fun _ => rfl) (MeaI s w) (MeaX s w) (mea_own s w HS1.out) (meax_own s w HS1.out)
    (fun r W1 W2 h hm => ⟨h.1, h.2.1.mv hm (by omega), below_mv h.2.2 hm (by omega)⟩) H0.out 4 (fun r => .string (tx ((parts (lst s)).getD r []))) ?assign ?body ?done ?stop)
  case assign =>
    intro l r W K hK
    simp [handed] at hK
    simp [handed]
    gi_wp2
    exact hK
  case body =>
    intro l r W hr hI
    obtain ⟨p, hp⟩ : ∃ p : ByteArray, tx ((parts (lst s)).getD r []) = p := ⟨_, rfl⟩
    have hpl : (parts (lst s))[r] = lst p := by rw [← hp, lst_tx]; simp [hr]
    have hlen : p.size ≤ 1000000 := by
      have := part_len hr
      rw [lst_size] at hs ⊢
      rw [← hpl]
      omega
    obtain ⟨hF, hb, hB⟩ := hI
    obtain ⟨A, hA⟩ : ∃ A, A = acc (lst s) r := ⟨_, rfl⟩
    rw [← hA] at hb
    have hA1 : -1 ≤ A := by rw [hA]; exact acc_ge _ _
    have hA2 : A ≤ 1000000 := by rw [hA]; have := acc_le (lst s) r; rw [lst_size] at hs; omega
    have c3 : W.cell? ⟨w.heap.size, 0, none⟩ = some (.int .i64 A) := hb.cell 0
    have f3 : W.frozen? ⟨w.heap.size, 0, none⟩ = false := hb.frozen 0
    have HF := Lib.hid hF
    have HBB := Lib.hid hB
    have HN := Lib.hid hb
    have HAA := Lib.hid hA
    have HPL := Lib.hid hpl
    simp only [handed, hp]
    clear hp hpl hA hF hb hB
    simp
    have hO : Hid (∀ v, Only (fun k => k = w.heap.size) W (W.setCell ⟨w.heap.size, 0, none⟩ v)) := Lib.hid fun v => (Only.refl (fun k => k = w.heap.size) W).setCell (p := ⟨w.heap.size, 0, none⟩) (fun _ => rfl) v
    have hK1 : Hid (∀ v, KeepsOthers W (W.setCell ⟨w.heap.size, 0, none⟩ v)) := Lib.hid fun v => KeepsOthers.setCell _ _ v
    have hK2 : Hid (∀ v, KpS (BoxS (w.heap.size + 1)) W (W.setCell ⟨w.heap.size, 0, none⟩ v)) := Lib.hid fun v => KpS.only (hO.out v) (fun k hk e => by unfold BoxS at hk; omega)
    cases hk : kept (lst p)
    · gi_wp2_with fail
      refine ⟨trivial, (CallsIn.inRound l (callsIn_wide.2 (idle_any p W))).mono ?_⟩
      rintro e w' ⟨rfl, rfl⟩
      rw [hk]
      gi_wp2_with fail
      have HK : kept (parts (lst s))[r] = false := by rw [HPL.out]; exact hk
      exact ⟨KeepsOthers.refl _, KpS.refl _ _, HF.out.skip hr HK, by rw [acc_skip hr HK, ← HAA.out]; exact HN.out, HBB.out⟩
    · have HK : Hid (kept (parts (lst s))[r] = true) := Lib.hid (by rw [HPL.out]; exact hk)
      have HX : Hid (mea (lst s) = 0 → SeqPost (BoxS (w.heap.size + 1)) (MeaI s w) (MeaX s w) r W = SeqPost (BoxS (w.heap.size + 1)) (MeaI s w) (MeaX s w) r W ∧ KeepsOthers W (W.setCell ⟨w.heap.size, 0, none⟩ (.int .i64 0)) ∧ MeaX s w (.exit 0) r (W.setCell ⟨w.heap.size, 0, none⟩ (.int .i64 0))) :=
        Lib.hid fun h0 => ⟨rfl, hK1.out _, rfl, h0, HN.out.set_ 0 _, HBB.out.setCell (p := ⟨w.heap.size, 0, none⟩) (Nat.le_refl _) _⟩
      gi_wp2_with fail
      refine ⟨trivial, (CallsIn.inRound l (callsIn_wide.2 (idle_any p W))).mono ?_⟩
      rintro e w' ⟨rfl, rfl⟩
      rw [hk]
      clear hk
      by_cases hd : lst p = [46, 46]
      · have h0 : mea (lst s) = 0 := mea_bad (p := (parts (lst s))[r]) (List.getElem_mem _) (by rw [HPL.out, hd]; decide)
        have H9 := Lib.hid (HX.out h0).2
        have e1 : (p.toList == [46, 46]) = true := by rw [toList_lst, hd]; rfl
        clear hd h0
        gi_wp2_with fail
        exact H9.out
      have e1 : (p.toList == [46, 46]) = false := by rw [toList_lst]; simpa using hd
      have HD := Lib.hid hd
      clear hd
      gi_wp2_with fail
      refine ⟨trivial, (CallsIn.inRound l (callsIn_wide.2 (nul_any p W))).mono ?_⟩
      rintro e w' ⟨rfl, rfl⟩
      by_cases hz : (0 : UInt8) ∈ lst p
      · have h0 : mea (lst s) = 0 := mea_bad (p := (parts (lst s))[r]) (List.getElem_mem _) (by rw [HPL.out]; unfold spoils; simp [hz])
        have H9 := Lib.hid (HX.out h0).2
        rw [decide_eq_true hz]
        clear hz h0
        gi_wp2_with fail
        exact H9.out
      have hsp : spoils (parts (lst s))[r] = false := by rw [HPL.out]; unfold spoils; simp [hz, HD.out]
      have HSP := Lib.hid hsp
      rw [decide_eq_false hz]
      clear hz hsp
      have hpl : (parts (lst s))[r].length = p.size := by rw [HPL.out, lst_size]
      by_cases hl : 4096 < A + 1 + (p.size : Int)
      · have h0 : mea (lst s) = 0 := mea_over hr HK.out (by rw [← HAA.out, hpl]; omega)
        have H9 := Lib.hid (HX.out h0).2
        clear h0 hpl
        gi_wp2_with fail
        exact H9.out
      · have hl2 : A + (1 + (p.size : Int)) ≤ 4096 := by omega
        have HFM := Lib.hid (HF.out.more hr HK.out HSP.out (by rw [← HAA.out, hpl]; exact hl2))
        have HAM : Hid (acc (lst s) (r + 1) = A + (1 + (p.size : Int))) := Lib.hid (by rw [acc_more hr HK.out, hpl, ← HAA.out])
        have e2 : IntKind.i64.wrap (1 + (p.size : Int)) = 1 + (p.size : Int) := by rw [IntKind.wrap_i64]; omega
        have e3 : IntKind.i64.wrap (A + (1 + (p.size : Int))) = A + (1 + (p.size : Int)) := by rw [IntKind.wrap_i64]; omega
        clear hpl
        gi_wp2_with fail
        exact ⟨hK1.out _, hK2.out _, HFM.out, by rw [HAM.out]; exact HN.out.set_ 0 _, HBB.out.setCell (p := ⟨w.heap.size, 0, none⟩) (Nat.le_refl _) _⟩
  case done =>
    intro D W hD hI hK
    have hk := lst_size s
    obtain ⟨hF, hb, hB⟩ := hI
    have hm := mea_end HA.out hF
    obtain ⟨A, hA⟩ : ∃ A, A = acc (lst s) (parts (lst s)).length := ⟨_, rfl⟩
    rw [← hA] at hb hm
    have hA1 : -1 ≤ A := by rw [hA]; exact acc_ge _ _
    have c3 : W.cell? ⟨w.heap.size, 0, none⟩ = some (.int .i64 A) := hb.cell 0
    have HBB := Lib.hid hB
    have HMM := Lib.hid hm
    have HKK := Lib.hid hK
    have HDD := Lib.hid hD
    clear hK hm hA hF hb hB hk hD
    have HRE : Hid (Below w.heap.size w (W.putObj D (.deferred none))) := Lib.hid (HBB.out.trans (belowK_b (w := w) (Nat.le_refl _) W D _ _ (by have := HS1.out; have := HDD.out; omega) HKK.out rfl rfl))
    by_cases hneg : A < 0
    · have h1 : mea (lst s) = 0 := by have := HMM.out; rw [if_pos hneg] at this; omega
      have H1 := Lib.hid h1
      clear h1
      go_wp2_with fail
      try rw [Exit.noGoto_ret]
      refine ⟨by simp, .inl ⟨_, _, rfl, run_takeDeferred HKK.out, ?_⟩⟩
      exact ⟨_, results_tmp rfl _ _ _, by show Ending.returned (.int .i64 (max A 0)) = _; rw [H1.out, Int.max_eq_right (by omega)]; rfl, HRE.out⟩
    · have h1 : (mea (lst s) : Int) = A := by have := HMM.out; rw [if_neg hneg] at this; omega
      have H1 := Lib.hid h1
      clear h1
      go_wp2_with fail
      try rw [Exit.noGoto_ret]
      refine ⟨by simp, .inl ⟨_, _, rfl, run_takeDeferred HKK.out, ?_⟩⟩
      exact ⟨_, results_tmp rfl _ _ _, by show Ending.returned (.int .i64 (max A 0)) = _; rw [H1.out, Int.max_eq_left (by omega)], HRE.out⟩
  case stop =>
    intro D c r W hD hr hI hK
    obtain ⟨rfl, h0, hb, hB⟩ := hI
    have c3 : W.cell? ⟨w.heap.size, 0, none⟩ = some (.int .i64 0) := hb.cell 0
    have HRE : Hid (Below w.heap.size w (W.putObj D (.deferred none))) := Lib.hid (hB.trans (belowK_b (w := w) (Nat.le_refl _) W D _ _ (by have := HS1.out; omega) hK rfl rfl))
    have HKK := Lib.hid hK
    have H1 := Lib.hid h0
    clear hK h0 hb hB hD hr
    gi_wp2_with fail
    go_wp2_with fail
    rw [Exit.noGoto_ret]
    refine ⟨by simp, .inl ⟨_, _, rfl, run_takeDeferred HKK.out, ?_⟩⟩
    exact ⟨_, results_tmp rfl _ _ _, by rw [H1.out]; rfl, HRE.out⟩
end Go.Proofs.YtkimmabndmceoaaDoor.PaC
