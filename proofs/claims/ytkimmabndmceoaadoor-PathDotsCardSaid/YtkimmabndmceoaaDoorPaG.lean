/-
  path.Clean.
-/
import Derived.Test.YtkimmabndmceoaaDoorPaF
namespace Go.Proofs.YtkimmabndmceoaaDoor.PaC
open Go.RowKit Go.My PaMath

attribute [local go_sem] Oper.semAt_some

theorem clean_of_mea {s : List UInt8} (h : mea s = 0) : clean s = none := by
  cases hc : clean s with
  | none => rfl
  | some o => have := mea_some hc; have := some_pos hc; omega
set_option maxRecDepth 100000 in
theorem pclean_no (s : ByteArray) (hs : s.size ≤ 1000000) (hc : clean (lst s) = none) (w : World) :
    Calls Tryd.prog 9 #[.string s] w fun e w' => e = .returned (.tuple #[.string ⟨#[]⟩, .bool false]) ∧ Below w.heap.size w w' := by
  have hm := mea_none hc
  go_enter Tryd.func9, Tryd.ntmps9
  go_wp2_with fail
  refine (measure_any s hs w).mono ?_
  rintro e w1 ⟨rfl, hb⟩
  rw [hm]
  go_wp2_with fail
  go_ret2
  exact ⟨rfl, hb⟩
set_option maxRecDepth 100000 in
set_option maxHeartbeats 4000000 in
theorem pclean_ok (s o : ByteArray) (hs : s.size ≤ 1000000) (hc : clean (lst s) = some (lst o)) (w : World) :
    Calls Tryd.prog 9 #[.string s] w fun e w' => e = .returned (.tuple #[.string o, .bool true]) ∧ Below w.heap.size w w' := by
  have hm : mea (lst s) = o.size := by rw [mea_some hc, lst_size]
  have h0 : 0 < o.size := by rw [lst_size]; exact some_pos hc
  have hmax : o.size ≤ 4096 := by rw [lst_size]; exact (clean_some hc).len
  have hend : sofar (lst s) (parts (lst s)).length = lst o := by rw [sofar_end]; exact (clean_some hc).o_eq.symm
  have HM := Lib.hid hm
  have HE := Lib.hid hend
  clear hm hc hend
  refine (callsIn_wide (n := 8)).1 ?_
  refine callsIn_of_wp_marks Tryd.func9 rfl trivial ?_ rfl
  simp only [Tryd.ntmps9, List.size_toArray, List.length_cons, List.length_nil, Nat.reduceAdd, Nat.reduceSub, Array.replicate_succ, Array.replicate_zero, List.push_toArray, List.append_toArray, List.nil_append, List.cons_append]
  refine wpIn_wide.2 ?_
  go_wp2_with fail
  refine (measure_any s hs w).mono ?_
  rintro e w1 ⟨rfl, hb1⟩
  rw [HM.out]
  go_wp2_with fail
  have b1 := Blk.new w1 39 #[.pointer none, .slice none 0 0]
  obtain ⟨g, hg⟩ : ∃ g, g = w1.heap.size := ⟨_, rfl⟩
  refine (grow_any w1.heap.size o.size _ b1 (by omega)).mono ?_
  rintro e w2 ⟨⟨v, rfl⟩, hB2, hb2⟩
  have hb2' : Below w1.heap.size w1 w2 := ((Below.refl _ w1).alloc (Nat.le_refl _) _).trans hb2
  have hz2 : w1.heap.size < w2.heap.size := Lib.BuilderAtF.lt hB2
  have HB1 := Lib.hid hb1
  have HB2 := Lib.hid hb2'
  have HB := Lib.hid hB2
  have HZ := Lib.hid hz2
  clear b1 hb1 hb2 hb2' hB2 hz2 hg
  go_wp2_with fail
  refine (seq_new s w2).mono ?_
  rintro e w3 ⟨rfl, hX, hb3, hz3⟩
  have H0 : Hid (CleI w1.heap.size w2.heap.size s w1 0 w3) := Lib.hid ⟨bld_same HB.out (fun k c t fz _ hk => (hb3.block k (Array.getElem?_eq_some_iff.1 hk).1).trans hk), ⟨⟨_, hX.1⟩, ⟨_, hX.2.1⟩, ⟨_, hX.2.2⟩⟩, HB2.out.trans (hb3.mono (Nat.le_of_lt HZ.out))⟩
  have HX := Lib.hid hX
  have HS3 : Hid (w1.heap.size ≤ w3.heap.size) := Lib.hid H0.out.2.2.size
  clear hX hb3 hz3
  go_wp2_with fail
  refine (wpIn_wide (n := 8)).1 (range_seq1 rfl (by omega) (gf := 48) (lb := #[.pointer (some ⟨w2.heap.size + 1, 0, none⟩), .pointer (some ⟨w2.heap.size, 0, none⟩), .pointer (some ⟨w2.heap.size + 2, 0, none⟩)]) rfl trivial (enters_of Tryd.func48 (by kernel_rfl) rfl)
    (handed s) (parts (lst s)).length w2.heap.size (BoxS w2.heap.size) w3 (seq_in _ (by omega) w2.heap.size s hs w3 HX.out) (KpS.refl _ _) (fun _ => rfl) (CleI w1.heap.size w2.heap.size s w1) (fun _ _ _ => False) (cle_own _ _ _ _ HS3.out (Nat.le_refl _)) (fun _ _ _ _ _ h _ _ => h)
    (fun r W1 W2 h hm => cle_mv HZ.out h hm) H0.out 6 (fun r => .string (tx ((parts (lst s)).getD r []))) ?assign ?body ?done ?stop)
  case assign =>
    intro l r W K hK
    simp [handed] at hK
    simp [handed]
    gi_wp2
    exact hK
  case body =>
    intro l r W hr hI
    obtain ⟨p, hp⟩ : ∃ p : ByteArray, tx ((parts (lst s)).getD r []) = p := ⟨_, rfl⟩
    have hpl : (parts (lst s))[r] = lst p := by rw [← hp, lst_tx]; simp [hr]
    have hlen : p.size ≤ 1000000 := by
      have := part_len hr
      rw [lst_size] at hs ⊢
      rw [← hpl]
      omega
    have hsl : (sofar (lst s) r).length ≤ 1000000 := by have := sofar_len (lst s) r; rw [lst_size] at hs; omega
    obtain ⟨Q, hQ⟩ : ∃ Q, Q = sofar (lst s) r := ⟨_, rfl⟩
    have HI := Lib.hid hI
    have HQ := Lib.hid hQ
    have HBL : Hid (Bld w1.heap.size Q W) := Lib.hid (by rw [hQ]; exact hI.1)
    rw [← hQ] at hsl
    have HPL := Lib.hid hpl
    have HSW : Hid (w1.heap.size ≤ W.heap.size) := Lib.hid hI.2.2.size
    simp only [handed, hp]
    clear hp hpl hI hQ
    simp
    have HR := Lib.hid hr
    cases hk : kept (lst p)
    · gi_wp2_with fail
      refine ⟨trivial, (CallsIn.inRound l (callsIn_wide.2 (idle_any p W))).mono ?_⟩
      rintro e w' ⟨rfl, rfl⟩
      rw [hk]
      gi_wp2_with fail
      exact ⟨KeepsOthers.refl _, KpS.refl _ _, by rw [sofar_skip hr (by rw [HPL.out]; exact hk)]; exact HI.out.1, HI.out.2.1, HI.out.2.2⟩
    · have HMO : Hid (sofar (lst s) (r + 1) = if Q = [] then lst p else Q ++ 47 :: lst p) := Lib.hid (by rw [sofar_more hr (by rw [HPL.out]; exact hk), HPL.out, HQ.out])
      gi_wp2_with fail
      refine ⟨trivial, (CallsIn.inRound l (callsIn_wide.2 (idle_any p W))).mono ?_⟩
      rintro e w' ⟨rfl, rfl⟩
      rw [hk]
      clear hk
      gi_wp2_with fail
      refine ⟨trivial, (CallsIn.inRound l (callsIn_wide.2 (len_any w1.heap.size Q W HBL.out))).mono ?_⟩
      rintro e w' ⟨rfl, rfl⟩
      by_cases hq : Q = []
      · subst hq
        gi_wp2_with fail
        refine ⟨trivial, (CallsIn.inRound l (callsIn_wide.2 (write_any w1.heap.size [] p W HBL.out (by simp; omega)))).mono ?_⟩
        rintro e W2 ⟨⟨v, rfl⟩, hB, hb, hO⟩
        have HF : Hid (SeqPost (BoxS w2.heap.size) (CleI w1.heap.size w2.heap.size s w1) (fun _ _ _ => False) r W .normal ⟨#[], []⟩ W2) := Lib.hid
          ⟨others_of HBL.out hb.size hO, HI.out.2.1.kps hO HZ.out, by rw [HMO.out, if_pos trivial]; exact hB, HI.out.2.1.kept hO HZ.out, HI.out.2.2.trans hb⟩
        clear hB hb hO
        gi_wp2_with fail
        exact HF.out
      · have hq0 : 0 < Q.length := List.length_pos_iff.2 hq
        have HQ0 := Lib.hid hq
        clear hq
        gi_wp2_with fail
        refine ⟨trivial, (CallsIn.inRound l (callsIn_wide.2 (write_any w1.heap.size Q ⟨#[47]⟩ W HBL.out (by show _ + 1 ≤ _; omega)))).mono ?_⟩
        rintro e W2 ⟨⟨v, rfl⟩, hB, hb, hO⟩
        have HX2 := Lib.hid (HI.out.2.1.kept hO HZ.out)
        have HBB := Lib.hid hB
        have Hb := Lib.hid hb
        have HO := Lib.hid hO
        clear hB hb hO
        gi_wp2_with fail
        refine ⟨trivial, (CallsIn.inRound l (callsIn_wide.2 (write_any w1.heap.size _ p W2 HBB.out (by rw [List.length_append, lst_47]; simp; omega)))).mono ?_⟩
        rintro e W3 ⟨⟨v3, rfl⟩, hB, hb, hO⟩
        have HF : Hid (SeqPost (BoxS w2.heap.size) (CleI w1.heap.size w2.heap.size s w1) (fun _ _ _ => False) r W .normal ⟨#[], []⟩ W3) := Lib.hid
          ⟨(others_of HBL.out Hb.out.size HO.out).trans (others_of HBB.out hb.size hO), (HI.out.2.1.kps HO.out HZ.out).trans (HX2.out.kps hO HZ.out), by rw [HMO.out, if_neg HQ0.out]; rw [lst_47, List.append_assoc] at hB; exact hB, HX2.out.kept hO HZ.out, (HI.out.2.2.trans Hb.out).trans hb⟩
        clear hB hb hO
        gi_wp2_with fail
        exact HF.out
  case done =>
    intro D W hD hI hK
    have HRE : Hid (∀ W', Below w1.heap.size W W' → W'.heap[D]? = some (.deferred (some [])) → Below w.heap.size w (W'.putObj D (.deferred none))) := Lib.hid fun W' hb hk => HB1.out.trans (((hI.2.2.trans hb).mono HB1.out.size).trans (belowK_b (w := w) (Nat.le_refl _) W' D _ _ (by have := HS3.out; have := HB1.out.size; omega) hk rfl rfl))
    have HBL := Lib.hid hI.1
    rw [HE.out] at HBL
    have HKK := Lib.hid hK
    have HDD := Lib.hid hD
    clear hI hK hD
    go_wp2_with fail
    refine (string_any w1.heap.size (lst o) W HBL.out).mono ?_
    rintro e W3 ⟨rfl, hb, hO⟩
    rw [tx_lst]
    have hD3 : W3.heap[D]? = some (.deferred (some [])) := hO D _ HKK.out (by have := HDD.out; have := HS3.out; have := HZ.out; simp; intro e; subst e; have := H0.out.2.1.1; obtain ⟨cs, h⟩ := this; have := h.lt; omega) (fun c fz e => by cases e)
    have H9 := Lib.hid (HRE.out W3 hb hD3)
    have H8 := Lib.hid hD3
    clear hb hO hD3
    go_wp2_with fail
    refine ⟨by simp, .inl ⟨_, _, rfl, run_takeDeferred H8.out, ?_⟩⟩
    exact ⟨_, by simp [results, Tryd.results9, go_sem], rfl, H9.out⟩
  case stop => exact fun _ _ _ _ _ _ h _ => h.elim
end Go.Proofs.YtkimmabndmceoaaDoor.PaC
