import Derived.Test.YtbjjkhlebdaoaaaDoorMgG
import Derived.Test.YtbjjkhlebdaoaaaDoorMgQ
import Derived.Test.YtbjjkhlebdaoaaaDoorMgB

section
/-
  pack.Lengths: every call.
-/
namespace Go.Proofs.YtbjjkhlebdaoaaaDoor.PkC
open Go.Shelf Go.RowKit Go.My PackMath

/-- May these counts be packed? -/
def Fine (zs : List Int) (most : Int) : Prop := zs.length ≤ 400 ∧ 1 ≤ most ∧ most ≤ 15 ∧ (∀ z ∈ zs, 0 ≤ z ∧ z ≤ 1073741824) ∧ (pos (zs.map Int.toNat) zs.length).length ≤ 2 ^ most.toNat
/-- The length of the j-th rarest symbol. -/
def lfin (A : List Nat) (L j : Nat) : Nat := if A.length = 1 then 1 else len A L j
abbrev len_ := @PackMath.len
/-- What Lengths hands back. -/
structure Lens (cs : List Nat) (L : Nat) (ord lens : List Nat) : Prop where
  perm : ord.Perm (pos cs cs.length)
  stl : Stl cs ord
  srt : Srt (ord.map (cs.getD · 0))
  size : lens.length = cs.length
  has : ∀ j, j < ord.length → lens.getD (ord.getD j 0) 0 = lfin (ord.map (cs.getD · 0)) L j
  none : ∀ i, i < cs.length → cs.getD i 0 = 0 → lens.getD i 0 = 0
theorem pos_nodup (cs : List Nat) (k : Nat) : (pos cs k).Nodup := List.Pairwise.filter _ List.nodup_range
theorem ord_facts {cs ord : List Nat} (h : ord.Perm (pos cs cs.length)) : (∀ j, j < ord.length → ord.getD j 0 < cs.length ∧ 0 < cs.getD (ord.getD j 0) 0) ∧ (∀ i j, i < ord.length → j < ord.length → ord.getD i 0 = ord.getD j 0 → i = j) ∧ (∀ i, i < cs.length → 0 < cs.getD i 0 → ∃ j, j < ord.length ∧ ord.getD j 0 = i) ∧ ord.length = (pos cs cs.length).length := by
  have hg : ∀ j, j < ord.length → ∀ (hj : j < ord.length), ord.getD j 0 = ord[j] := fun j hj hj' => by simp [List.getD_eq_getElem?_getD, hj']
  have hnd : ord.Nodup := h.nodup_iff.2 (pos_nodup _ _)
  refine ⟨fun j hj => ?_, fun i j hi hj e => ?_, fun i hi h0 => ?_, h.length_eq⟩
  · rw [hg j hj hj]
    exact pos_lt _ _ _ (h.mem_iff.1 (List.getElem_mem hj))
  · rw [hg i hi hi, hg j hj hj] at e
    have hp := List.pairwise_iff_getElem.1 hnd
    rcases Nat.lt_trichotomy i j with h1 | h1 | h1
    · exact absurd e (hp i j hi hj h1)
    · exact h1
    · exact absurd e.symm (hp j i hj hi h1)
  · have hm : i ∈ ord := h.mem_iff.2 (by simp [pos]; exact ⟨hi, by simpa using h0⟩)
    obtain ⟨j, hj, e⟩ := List.getElem_of_mem hm
    exact ⟨j, hj, by rw [hg j hj hj]; exact e⟩
/-- Behind the last loop. -/
theorem lens_done {cs ord : List Nat} {L : Nat} {f : Nat → Nat} (hpq : ord.Perm (pos cs cs.length) ∧ Stl cs ord) (hs : Srt (ord.map (cs.getD · 0))) (h1 : ∀ j, j < ord.length → f (ord.getD j 0) = lfin (ord.map (cs.getD · 0)) L j) (h2 : ∀ x, (∀ j, j < ord.length → ord.getD j 0 ≠ x) → f x = 0) :
    Lens cs L ord ((List.range cs.length).map f) := by
  obtain ⟨hp, hq⟩ := hpq
  obtain ⟨o1, o2, o3, o4⟩ := ord_facts hp
  have hg : ∀ i, i < cs.length → ((List.range cs.length).map f).getD i 0 = f i := fun i hi => by simp [List.getD_eq_getElem?_getD, hi]
  refine ⟨hp, hq, hs, by simp, fun j hj => ?_, fun i hi h0 => ?_⟩
  · rw [hg _ (o1 j hj).1]; exact h1 j hj
  · rw [hg i hi]
    exact h2 i fun j hj e => by have := (o1 j hj).2; rw [e] at this; omega
theorem back_nat (zs : List Int) (h : ∀ z ∈ zs, 0 ≤ z ∧ z ≤ 1073741824) : zs.map (fun z => Value.int .i64 z) = lv (zs.map Int.toNat) := by
  unfold lv
  rw [List.map_map]
  refine List.map_congr_left fun z hz => ?_
  simp only [Function.comp]
  rw [Int.toNat_of_nonneg (h z hz).1]
theorem cel_is (N : Nat) (f : Nat → Nat) (A : List Nat) (hA : A.length = N) (h : ∀ j, j < N → f j = A.getD j 0) : cel N f = lv A := by
  rw [cel_lv]
  congr 1
  apply List.ext_getElem
  · simp [hA]
  · intro j h1 h2
    have hj : j < N := by simpa using h1
    simp [h j hj, List.getD_eq_getElem?_getD, h2]
theorem small_nat (zs : List Int) (h : ∀ z ∈ zs, 0 ≤ z ∧ z ≤ 1073741824) (o : Nat) : (zs.map Int.toNat).getD o 0 ≤ 1073741824 := by
  rw [List.getD_eq_getElem?_getD]
  by_cases ho : o < zs.length
  · rw [List.getElem?_map, List.getElem?_eq_getElem ho]
    have := h zs[o] (List.getElem_mem ho)
    show zs[o].toNat ≤ _
    omega
  · rw [List.getElem?_map, List.getElem?_eq_none (by omega)]
    show 0 ≤ _
    omega
theorem map_getD (l : List Nat) (f : Nat → Nat) (j : Nat) (h : j < l.length) : (l.map f).getD j 0 = f (l.getD j 0) := by
  simp [List.getD_eq_getElem?_getD, h]

def LensRet (zs : List Int) (most : Int) (base : Nat) (e : Ending) (w' : World) : Prop :=
  (¬ Fine zs most → e = .returned (.tuple #[.slice none 0 0, .int .i64 1])) ∧
  (Fine zs most → ∃ v ord lens, e = .returned (.tuple #[v, .int .i64 0]) ∧ Lens (zs.map Int.toNat) (most.toNat - 1) ord lens ∧ OwnV 3 base w' v (lv lens))

set_option maxRecDepth 100000 in
set_option maxHeartbeats 8000000 in
theorem lengths_all (zs : List Int) (a : Option Addr) (len cap : Nat) (most : Int) (w : World) (hC : RowIn w a len cap (zs.map fun z => Value.int .i64 z)) :
    Calls Tryd.prog 72 #[.slice a len cap, .int .i64 most] w fun e w' => LensRet zs most w.heap.size e w' ∧ Below w.heap.size w w' := by
  have hlen : zs.length = len := by rw [← hC.len_eq]; simp
  have bad : ¬ Fine zs most → LensRet zs most w.heap.size (.returned (.tuple #[.slice none 0 0, .int .i64 1])) w := fun h => ⟨fun _ => rfl, fun h' => absurd h' h⟩
  by_cases h1 : len ≤ 400
  · by_cases h2 : 1 ≤ most
    · by_cases h3 : most ≤ 15
      · obtain ⟨M, rfl⟩ : ∃ M : Nat, most = (M : Int) := ⟨most.toNat, by omega⟩
        have g1 : ¬ (400 : Int) < (len : Int) := by omega
        have g2 : ¬ (M : Int) < 1 := by omega
        have g3 : ¬ (15 : Int) < (M : Int) := by omega
        have hM1 : 1 ≤ M := by omega
        have hM2 : M ≤ 15 := by omega
        have HBAD := Lib.hid bad
        have HC := Lib.hid hC
        have HLE := Lib.hid hlen
        clear bad hC hlen h2 h3
        go_enter Tryd.func72, Tryd.ntmps72
        go_wp2_with fail
        go_loopw [28, 7] (fun s _ wr => ∃ i : Nat, s = .int .i64 (i : Int) ∧ i ≤ len ∧ w = wr ∧ Hid (∀ j, j < i → 0 ≤ zs.getD j 0 ∧ zs.getD j 0 ≤ 1073741824)) (fun s _ _ => len - (intOf s).toNat)
        case atStart => exact ⟨0, rfl, Nat.zero_le _, rfl, Lib.hid (fun j hj => by omega)⟩
        case round =>
          obtain ⟨i, rfl, hi, rfl, HG⟩ := hrel
          by_cases hlt : i < len
          · have hlti : (i : Int) < (len : Int) := by omega
            obtain ⟨cb, co, rfl⟩ := HC.out.some_ (by omega)
            obtain ⟨z, hz⟩ : ∃ z, z = zs.getD i 0 := ⟨_, rfl⟩
            have hiz : i < zs.length := by rw [HLE.out]; exact hlt
            have hzm : z ∈ zs := by rw [hz, List.getD_eq_getElem?_getD, List.getElem?_eq_getElem hiz]; exact List.getElem_mem hiz
            have hc1 : w.cell? ⟨cb, co + i, none⟩ = some (.int .i64 z) := by
              rw [HC.out.get i (by simpa using hiz), hz]
              simp [List.getD_eq_getElem?_getD, hiz]
            have HZ := Lib.hid hz
            have HZM := Lib.hid hzm
            clear hz hzm hiz
            by_cases z1 : z < 0
            · have hb := Lib.hid (HBAD.out (fun h => by have := h.2.2.2.1 z HZM.out; omega))
              go_wp2_with fail
              go_ret2
              exact ⟨hb.out, Below.refl _ _⟩
            · by_cases z2 : 1073741824 < z
              · have hb := Lib.hid (HBAD.out (fun h => by have := h.2.2.2.1 z HZM.out; omega))
                go_wp2_with fail
                go_ret2
                exact ⟨hb.out, Below.refl _ _⟩
              · go_wp2_with fail
                go_roundw
                case measure => simp [intOf]; omega
                case rel => exact ⟨i + 1, by simp, by omega, by trivial, Lib.hid (fun j hj => by
                  by_cases e : j = i
                  · rw [e, ← HZ.out]; omega
                  · exact HG.out j (by omega))⟩
          · have hlti : ¬ (i : Int) < (len : Int) := by omega
            have hall : ∀ z ∈ zs, 0 ≤ z ∧ z ≤ 1073741824 := by
              intro z hz
              obtain ⟨j, hj, e⟩ := List.getElem_of_mem hz
              have := HG.out j (by have := HLE.out; omega)
              rw [List.getD_eq_getElem?_getD, List.getElem?_eq_getElem hj, Option.getD_some, e] at this
              exact this
            obtain ⟨cs, hcs⟩ : ∃ cs, cs = zs.map Int.toNat := ⟨_, rfl⟩
            have HCS : Hid (RowIn w a len cap (lv cs)) := Lib.hid (by
              have := HC.out
              rw [back_nat zs hall, ← hcs] at this
              exact this)
            have hcl : cs.length = len := by rw [hcs, List.length_map]; exact HLE.out
            have HALL := Lib.hid hall
            have HCZ := Lib.hid hcs
            have HCL := Lib.hid hcl
            clear hall hcs hlt HG HC hi
            go_wp2_with fail
            refine (rising_any cs a len cap w HCS.out (by omega)).mono ?_
            rintro e w2 ⟨v, rfl, ord, hp, hs, ho, hb⟩
            obtain ⟨oa, oc, rfl, hoR⟩ := ho.row
            rw [lv_len] at hoR ⊢
            obtain ⟨N, hN⟩ : ∃ N, N = ord.length := ⟨_, rfl⟩
            rw [← hN] at hoR ⊢
            have hNl : N ≤ len := by rw [hN, hp.1.length_eq, ← hcl]; exact pos_len _ _
            have HPM := Lib.hid hp
            have HSR := Lib.hid hs
            have HOR := Lib.hid hoR
            have HB2 := Lib.hid hb
            have HNN := Lib.hid hN
            clear hp hs ho hb hoR hN hcl
            obtain ⟨P, hP⟩ : ∃ P : Nat, P = 2 ^ M := ⟨_, rfl⟩
            have hP15 : P ≤ 32768 := by have := Nat.pow_le_pow_right (show 0 < 2 by omega) hM2; omega
            have e1 : IntKind.i64.wrap ((2 : Int) ^ M) = (P : Int) := by
              have : (2 : Int) ^ M = (P : Int) := by rw [hP]; push_cast; rfl
              rw [this, IntKind.wrap_i64]; omega
            have e2 : wrap64 ((2 : Int) ^ M) = (P : Int) := by
              have : (2 : Int) ^ M = (P : Int) := by rw [hP]; push_cast; rfl
              rw [this]; unfold wrap64; omega
            have HP := Lib.hid hP
            have HNC : Hid (N = (pos cs cs.length).length) := Lib.hid (by rw [HNN.out]; exact HPM.out.1.length_eq)
            clear hP
            by_cases hNP : N ≤ P
            · have hNPi : ¬ (P : Int) < (N : Int) := by omega
              have HFI : Hid (Fine zs (M : Int)) := Lib.hid (by
                refine ⟨by have := HLE.out; omega, by omega, by omega, HALL.out, ?_⟩
                rw [← HCZ.out, show zs.length = cs.length by rw [HLE.out, HCL.out], ← HNC.out]
                have := HP.out
                simpa [← this] using hNP)
              have HNP := Lib.hid hNP
              clear HBAD hNP
              go_wp2_with (at_make; refine wpList_make_row _ rfl (.tmp 47) (.tmp 47) 56 rfl w.heap.size 3 (.int .i64 0) 8 Tryd.underlying56 info_int rfl .i64 .i64 len rfl rfl (by omega) (by omega) HB2.out.size ?_)
              intro w3 hown3 hgrow3
              obtain ⟨gl, hgl⟩ : ∃ g, g = w2.heap.size := ⟨_, rfl⟩
              have HB3 : Hid (Below w2.heap.size w2 w3) := Lib.hid (grown_none_below (Below.refl _ w2) hgrow3 (Nat.le_refl _))
              have HGL : Hid (w2.heap.size = gl) := Lib.hid hgl.symm
              rw [← hgl] at hown3 ⊢
              have HL3 : Hid (Blk w3 gl 3 (cel len (fun _ => 0)).toArray) := Lib.hid (by rw [← cel_zero]; exact OwnV.blk hown3 (by simp))
              clear hown3 hgrow3 hgl
              have hbb : w.heap.size ≤ gl := by have := HB2.out.size; have := HGL.out; omega
              have HBB := Lib.hid hbb
              have done : ∀ (f : Nat → Nat) (w' : World), Below w2.heap.size w2 w' → Blk w' gl 3 (cel len f).toArray → (∀ j, j < N → f (ord.getD j 0) = lfin (ord.map (cs.getD · 0)) (M - 1) j) → (∀ x, (∀ j, j < N → ord.getD j 0 ≠ x) → f x = 0) →
                  LensRet zs (M : Int) w.heap.size (.returned (.tuple #[.slice (some ⟨gl, 0, none⟩) len len, .int .i64 0])) w' ∧ Below w.heap.size w w' := by
                intro f w' hb hl q1 q2
                refine ⟨⟨fun h => absurd HFI.out h, fun _ => ⟨_, ord, (List.range cs.length).map f, rfl, ?_, ?_⟩⟩, HB2.out.trans (hb.mono HB2.out.size)⟩
                · rw [← HCZ.out, Int.toNat_natCast]
                  rw [HNN.out] at q1 q2
                  exact lens_done HPM.out HSR.out q1 q2
                · rw [← cel_lv, HCL.out]
                  exact OwnV.of_blk hl (by rw [cel_len]) HBB.out (by omega)
              have HDONE := Lib.hid done
              have HOF := Lib.hid (ord_facts HPM.out.1)
              clear done hbb hP15 e1 e2 hNPi
              by_cases hN1 : N = 1
              · as_aux_lemma =>
                have hN1i : ((N : Int) == 1) = true := by simp [hN1]
                obtain ⟨o, ho⟩ : ∃ o, o = ord.getD 0 0 := ⟨_, rfl⟩
                have hol : (o : Int) < (len : Int) := by have := (HOF.out.1 0 (by have := HNN.out; omega)).1; rw [← ho, HCL.out] at this; omega
                have hR := HOR.out.below (Nat.le_refl _) HB3.out
                obtain ⟨ob, oo, rfl⟩ := hR.some_ (by omega)
                have c1 : w3.cell? ⟨ob, oo, none⟩ = some (.int .i64 (o : Int)) := by
                  have h := hR.get 0 (by rw [lv_len, ← HNN.out]; omega)
                  rw [lv_get, ← ho] at h
                  exact h
                have c2 := cel_cell HL3.out o (by omega)
                have c3 : w3.frozen? ⟨gl, o, none⟩ = false := HL3.out.frozen o
                have hN0 : (0 : Int) < (N : Int) := by omega
                have HO := Lib.hid ho
                have HN1 := Lib.hid hN1
                have HE : Hid (LensRet zs (M : Int) w.heap.size (.returned (.tuple #[.slice (some ⟨gl, 0, none⟩) len len, .int .i64 0])) (w3.setCell ⟨gl, o, none⟩ (.int .i64 1)) ∧ Below w.heap.size w (w3.setCell ⟨gl, o, none⟩ (.int .i64 1))) := Lib.hid (by
                  refine HDONE.out _ _ (HB3.out.setCell (p := ⟨gl, o, none⟩) (by have := HGL.out; show w2.heap.size ≤ gl; omega) _) (Blk.set_cel HL3.out o 1) (fun j hj => ?_) (fun x hx => ?_)
                  · obtain rfl : j = 0 := by omega
                    rw [← ho, if_pos rfl]
                    unfold lfin
                    rw [List.length_map, ← HNN.out, if_pos hN1]
                  · rw [if_neg (fun e => hx 0 (by omega) (by rw [← ho, e]))])
                clear hR ho hN1
                go_wp2_with fail
                go_ret2
                exact HE.out
              · have hN1i : ((N : Int) == 1) = false := by simp; omega
                go_wp2_with (at_make; refine wpList_make_row _ rfl (.tmp 59) (.tmp 59) 56 rfl w.heap.size 3 (.int .i64 0) 8 Tryd.underlying56 info_int rfl .i64 .i64 N rfl rfl (by omega) (by omega) (by have := HB2.out.size; have := HB3.out.size; omega) ?_)
                intro w4 hown4 hgrow4
                obtain ⟨gv, hgv⟩ : ∃ g, g = w3.heap.size := ⟨_, rfl⟩
                have hB4 : Below w3.heap.size w3 w4 := grown_none_below (Below.refl _ w3) hgrow4 (Nat.le_refl _)
                have HB4 : Hid (Below w2.heap.size w2 w4) := Lib.hid (HB3.out.trans (hB4.mono HB3.out.size))
                have HL4 : Hid (Blk w4 gl _ _) := Lib.hid (HL3.out.same (hB4.block _ HL3.out.lt))
                have hne : gl ≠ gv := by have := HL3.out.lt; omega
                have HGV : Hid (w2.heap.size ≤ gv) := Lib.hid (by have := HB3.out.size; omega)
                rw [← hgv] at hown4 ⊢
                obtain ⟨A, hA⟩ : ∃ A, A = ord.map (cs.getD · 0) := ⟨_, rfl⟩
                have HA := Lib.hid hA
                have hAN : A.length = N := by rw [hA, List.length_map, HNN.out]
                have HAN := Lib.hid hAN
                have HV4 : Hid (Blk w4 gv 3 (cel N (fun j => if j < 0 then A.getD j 0 else 0)).toArray) := Lib.hid (by
                  have := OwnV.blk hown4 (by simp)
                  rw [cel_zero] at this
                  simpa using this)
                clear hown4 hgrow4 hgv hB4 hA hAN HL3 HB3
                go_wp2_with fail
                go_loopw [63, 11, 12] (fun s _ _ wr => ∃ i : Nat, s = .int .i64 (i : Int) ∧ i ≤ N ∧ Hid (Blk wr gl 3 (cel len (fun _ => 0)).toArray) ∧ Hid (Blk wr gv 3 (cel N (fun j => if j < i then A.getD j 0 else 0)).toArray) ∧ Hid (Below w2.heap.size w2 wr)) (fun s _ _ _ => N - (intOf s).toNat)
                case atStart => exact ⟨0, rfl, Nat.zero_le _, HL4, HV4, HB4⟩
                case round =>
                  clear HL4 HV4 HB4
                  obtain ⟨i, rfl, hiN, HL, HV, HB⟩ := hrel
                  by_cases hlt : i < N
                  · as_aux_lemma =>
                    have hlti : (i : Int) < (N : Int) := by omega
                    obtain ⟨o, ho⟩ : ∃ o, o = ord.getD i 0 := ⟨_, rfl⟩
                    have hol : (o : Int) < (len : Int) := by have := (HOF.out.1 i (by have := HNN.out; omega)).1; rw [← ho, HCL.out] at this; omega
                    have hR := HOR.out.below (Nat.le_refl _) HB.out
                    obtain ⟨ob, oo, rfl⟩ := hR.some_ (by omega)
                    have c1 : wr.cell? ⟨ob, oo + i, none⟩ = some (.int .i64 (o : Int)) := by
                      have h := hR.get i (by rw [lv_len, ← HNN.out]; omega)
                      rw [lv_get, ← ho] at h
                      exact h
                    have hR2 := (HCS.out.below (Nat.le_refl _) HB2.out).below (Nat.le_refl _) HB.out
                    obtain ⟨cb, co, rfl⟩ := hR2.some_ (by omega)
                    obtain ⟨x, hx⟩ : ∃ x, x = cs.getD o 0 := ⟨_, rfl⟩
                    have c2 : wr.cell? ⟨cb, co + o, none⟩ = some (.int .i64 (x : Int)) := by
                      have h := hR2.get o (by rw [lv_len, HCL.out]; omega)
                      rw [lv_get, ← hx] at h
                      exact h
                    have c3 := cel_cell HV.out i hlt
                    have c4 : wr.frozen? ⟨gv, i, none⟩ = false := HV.out.frozen i
                    have HV2 : Hid (Blk (wr.setCell ⟨gv, i, none⟩ (.int .i64 (x : Int))) gv 3 (cel N (fun j => if j < i + 1 then A.getD j 0 else 0)).toArray) := Lib.hid (by
                      have h := Blk.set_cel HV.out i x
                      have e : (fun j => if j = i then x else if j < i then A.getD j 0 else 0) = (fun j => if j < i + 1 then A.getD j 0 else 0) := by
                        funext j
                        by_cases q : j = i
                        · rw [if_pos q, if_pos (by omega), q, hx, ho, HA.out, map_getD _ _ _ (by have := HNN.out; omega)]
                        · rw [if_neg q]
                          by_cases q2 : j < i
                          · rw [if_pos q2, if_pos (by omega)]
                          · rw [if_neg q2, if_neg (by omega)]
                      rw [e] at h
                      exact h)
                    have HL2 : Hid (Blk (wr.setCell ⟨gv, i, none⟩ (.int .i64 (x : Int))) gl _ _) := Lib.hid (Blk.set_far HL.out hne _ _)
                    have HBx : Hid (Below w2.heap.size w2 (wr.setCell ⟨gv, i, none⟩ (.int .i64 (x : Int)))) := Lib.hid (HB.out.setCell (p := ⟨gv, i, none⟩) HGV.out _)
                    clear hR hR2 ho hx HL HV HB
                    go_wp2_with fail
                    go_roundw
                    case measure => simp [intOf]; omega
                    case rel => exact ⟨i + 1, by simp, by omega, HL2, HV2, HBx⟩
                  · have hlti : ¬ (i : Int) < (N : Int) := by omega
                    have HEQ : Hid (i = N) := Lib.hid (by omega)
                    have hrow : RowIn wr (some ⟨gv, 0, none⟩) N N (lv A) := by
                      have h := HV.out
                      rw [cel_is N _ A HAN.out (fun j hj => if_pos (by have := HEQ.out; omega))] at h
                      exact (OwnV.of_blk (base := 0) h (by rw [lv_len]; exact HAN.out) (Nat.zero_le _) (by omega)).rowIn (by rw [lv_len]; exact HAN.out)
                    have hmain := lengths_any A (some ⟨gv, 0, none⟩) N N (M - 1) wr hrow (by rw [HA.out]; exact HSR.out) (by have := HAN.out; omega) (by omega) (by rw [HAN.out, show M - 1 + 1 = M by omega, ← HP.out]; exact HNP.out) (fun x hx => by
                      rw [HA.out] at hx
                      obtain ⟨o, _, rfl⟩ := List.mem_map.1 hx
                      rw [HCZ.out]
                      exact small_nat zs HALL.out o)
                    rw [show M - 1 + 1 = M by omega, HAN.out] at hmain
                    have HMAIN := Lib.hid hmain
                    clear hmain hrow hlt hiN
                    go_wp2_with fail
                    refine HMAIN.out.mono ?_
                    rintro e w5 ⟨v, rfl, hov, hb5⟩
                    obtain ⟨va, vc, rfl, _⟩ := hov.row
                    rw [cel_len] at hov ⊢
                    have HOV := Lib.hid hov
                    have HL5 : Hid (Blk w5 gl _ _) := Lib.hid (HL.out.same (hb5.block _ HL.out.lt))
                    have HB5 : Hid (Below w2.heap.size w2 w5) := Lib.hid (HB.out.trans (hb5.mono HB.out.size))
                    have HGW : Hid (gl < wr.heap.size) := Lib.hid HL.out.lt
                    clear hov hb5 HL HV HB HMAIN
                    generalize wr.heap.size = hw at *
                    go_wp2_with fail
                    go_loopw [80, 13, 14] (fun s _ _ wr => ∃ (i : Nat) (f : Nat → Nat), s = .int .i64 (i : Int) ∧ i ≤ N ∧ Hid (Blk wr gl 3 (cel len f).toArray) ∧ Hid ((∀ j, j < i → f (ord.getD j 0) = lfin A (M - 1) j) ∧ (∀ x, (∀ j, j < i → ord.getD j 0 ≠ x) → f x = 0)) ∧ Hid (Below w2.heap.size w2 wr) ∧ Hid (Only (fun k => k = gl) w5 wr)) (fun s _ _ _ => N - (intOf s).toNat)
                    case atStart => exact ⟨0, fun _ => 0, rfl, Nat.zero_le _, HL5, Lib.hid ⟨fun j hj => by omega, fun _ _ => rfl⟩, HB5, Lib.hid (Only.refl _ _)⟩
                    case round =>
                      clear HL5 HB5
                      obtain ⟨i, f, rfl, hiN, HL, HF, HB, HO⟩ := hrel
                      by_cases hlt : i < N
                      · as_aux_lemma =>
                        have hlti : (i : Int) < (N : Int) := by omega
                        obtain ⟨o, ho⟩ : ∃ o, o = ord.getD i 0 := ⟨_, rfl⟩
                        have hol : (o : Int) < (len : Int) := by have := (HOF.out.1 i (by have := HNN.out; omega)).1; rw [← ho, HCL.out] at this; omega
                        have hR := HOR.out.below (Nat.le_refl _) HB.out
                        obtain ⟨ob, oo, rfl⟩ := hR.some_ (by omega)
                        have c1 : wr.cell? ⟨ob, oo + i, none⟩ = some (.int .i64 (o : Int)) := by
                          have h := hR.get i (by rw [lv_len, ← HNN.out]; omega)
                          rw [lv_get, ← ho] at h
                          exact h
                        have hV := (HOV.out.only HO.out (fun k hk e => by have := HOV.out.base k hk; have := HGW.out; omega)).rowIn (cel_len _ _)
                        obtain ⟨vb, vo, rfl⟩ := hV.some_ (by omega)
                        obtain ⟨x, hx⟩ : ∃ x, x = len_ A (M - 1) i := ⟨_, rfl⟩
                        have c2 : wr.cell? ⟨vb, vo + i, none⟩ = some (.int .i64 (x : Int)) := by
                          have h := hV.get i (by rw [cel_len]; exact hlt)
                          rw [h, hx]
                          simp [cel, len_]
                        have c3 := cel_cell HL.out o (by omega)
                        have c4 : wr.frozen? ⟨gl, o, none⟩ = false := HL.out.frozen o
                        have HL2 := Lib.hid (Blk.set_cel HL.out o x)
                        have HF2 : Hid ((∀ j, j < i + 1 → (fun j => if j = o then x else f j) (ord.getD j 0) = lfin A (M - 1) j) ∧ (∀ y, (∀ j, j < i + 1 → ord.getD j 0 ≠ y) → (fun j => if j = o then x else f j) y = 0)) := Lib.hid (by
                          have hinj := HOF.out.2.1
                          rw [← HNN.out] at hinj
                          refine ⟨fun j hj => ?_, fun y hy => ?_⟩
                          · by_cases e : j = i
                            · subst e
                              simp only
                              rw [← ho, if_pos rfl, hx]
                              unfold lfin
                              rw [if_neg (by rw [HAN.out]; exact hN1)]
                            · simp only
                              rw [if_neg (fun h => e (hinj j i (by omega) hlt (by rw [h, ho])))]
                              exact HF.out.1 j (by omega)
                          · simp only
                            rw [if_neg (fun h => hy i (by omega) (by rw [h, ho]))]
                            exact HF.out.2 y (fun j hj => hy j (by omega)))
                        have HBx : Hid (Below w2.heap.size w2 (wr.setCell ⟨gl, o, none⟩ (.int .i64 (x : Int)))) := Lib.hid (HB.out.setCell (p := ⟨gl, o, none⟩) (by have := HGL.out; show w2.heap.size ≤ gl; omega) _)
                        have HOx : Hid (Only (fun k => k = gl) w5 (wr.setCell ⟨gl, o, none⟩ (.int .i64 (x : Int)))) := Lib.hid (HO.out.setCell (p := ⟨gl, o, none⟩) (fun _ => rfl) _)
                        clear hR hV ho hx HL HF HB HO
                        go_wp2_with fail
                        go_roundw
                        case measure => simp [intOf]; omega
                        case rel => exact ⟨i + 1, _, by simp, by omega, HL2, HF2, HBx, HOx⟩
                      · have hlti : ¬ (i : Int) < (N : Int) := by omega
                        have HE := Lib.hid (HDONE.out f wr HB.out HL.out (fun j hj => by rw [← HA.out]; exact HF.out.1 j (by omega)) (fun x hx => HF.out.2 x (fun j hj => hx j (by omega))))
                        clear HL HF HB HO
                        go_wp2_with fail
                        go_ret2
                        exact HE.out
            · have hNPi : (P : Int) < (N : Int) := by omega
              have hb := Lib.hid (HBAD.out (fun h => by
                have h5 := h.2.2.2.2
                rw [← HCZ.out, show zs.length = cs.length by rw [HLE.out, HCL.out], ← HNC.out] at h5
                have := HP.out
                rw [Int.toNat_natCast] at h5
                omega))
              clear hNP
              go_wp2_with fail
              go_ret2
              exact ⟨⟨hb.out.1, fun h => absurd h (fun h => by
                have h5 := h.2.2.2.2
                rw [← HCZ.out, show zs.length = cs.length by rw [HLE.out, HCL.out], ← HNC.out] at h5
                have := HP.out
                rw [Int.toNat_natCast] at h5
                omega)⟩, HB2.out⟩
      · have hb := Lib.hid (bad (fun h => h3 h.2.2.1))
        have g1 : ¬ (400 : Int) < (len : Int) := by omega
        have g2 : ¬ most < 1 := by omega
        have g3 : (15 : Int) < most := by omega
        clear bad hC hlen h1 h2 h3
        go_enter Tryd.func72, Tryd.ntmps72
        go_wp2_with fail
        go_ret2
        exact ⟨hb.out, Below.refl _ _⟩
    · have hb := Lib.hid (bad (fun h => h2 h.2.1))
      have g1 : ¬ (400 : Int) < (len : Int) := by omega
      have g2 : most < 1 := by omega
      clear bad hC hlen h1 h2
      go_enter Tryd.func72, Tryd.ntmps72
      go_wp2_with fail
      go_ret2
      exact ⟨hb.out, Below.refl _ _⟩
  · have hb := Lib.hid (bad (fun h => h1 (by have := h.1; omega)))
    have g1 : (400 : Int) < (len : Int) := by omega
    clear bad hC hlen h1
    go_enter Tryd.func72, Tryd.ntmps72
    go_wp2_with fail
    go_ret2
    exact ⟨hb.out, Below.refl _ _⟩
end Go.Proofs.YtbjjkhlebdaoaaaDoor.PkC
end

section
/-
  What pack.Lengths hands back, by Kraft's sum: sums over the order; a code that is best.
-/
namespace Go.Proofs.YtbjjkhlebdaoaaaDoor.PkC
open Go.Shelf Go.RowKit Go.My PackMath

theorem sm_map (l : List Nat) (g : Nat → Nat) : sm l.length (fun j => g (l.getD j 0)) = (l.map g).sum := by
  have h := sm_list (l.map g) l.length
  rw [List.take_of_length_le (by simp)] at h
  rw [← h]
  exact sm_congr fun j hj => (map_getD l g j hj).symm
theorem pos_sum (cs : List Nat) (g : Nat → Nat) (k : Nat) : ((pos cs k).map g).sum = sm k (fun i => if 0 < cs.getD i 0 then g i else 0) := by
  induction k with
  | zero => rfl
  | succ k ih =>
    rw [sm_succ, ← ih]
    by_cases h : 0 < cs.getD k 0
    · rw [pos_yes _ _ h, if_pos h, List.map_append, List.sum_append]; simp
    · rw [pos_no _ _ h, if_neg h]; simp
/-- A sum over the order is the sum over the symbols that appear. -/
theorem ord_sum {cs ord : List Nat} (h : ord.Perm (pos cs cs.length)) (g : Nat → Nat) :
    sm ord.length (fun j => g (ord.getD j 0)) = sm cs.length (fun i => if 0 < cs.getD i 0 then g i else 0) := by
  rw [sm_map, ← pos_sum]
  exact (h.map g).sum_nat
theorem lens_sym {cs : List Nat} {L : Nat} {ord lens : List Nat} (h : Lens cs L ord lens) (i : Nat) (hi : i < cs.length) (h0 : 0 < cs.getD i 0) :
    ∃ j, j < ord.length ∧ ord.getD j 0 = i ∧ (ord.map (cs.getD · 0)).getD j 0 = cs.getD i 0 ∧ lens.getD i 0 = lfin (ord.map (cs.getD · 0)) L j := by
  obtain ⟨o1, o2, o3, o4⟩ := ord_facts h.perm
  obtain ⟨j, hj, e⟩ := o3 i hi h0
  exact ⟨j, hj, e, by rw [map_getD _ _ _ hj, e], by rw [← e]; exact h.has j hj⟩
theorem lens_le {cs : List Nat} {L : Nat} {ord lens : List Nat} (h : Lens cs L ord lens) (i : Nat) : lens.getD i 0 ≤ L + 1 := by
  by_cases hi : i < cs.length
  · by_cases h0 : 0 < cs.getD i 0
    · obtain ⟨j, hj, e1, e2, e3⟩ := lens_sym h i hi h0
      rw [e3]
      unfold lfin
      split
      · omega
      · exact len_le _
    · rw [h.none i hi (by omega)]; omega
  · rw [List.getD_eq_getElem?_getD, List.getElem?_eq_none (by rw [h.size]; omega)]; exact Nat.zero_le _
/-- What is handed back makes a whole code. -/
theorem lens_kraft {cs : List Nat} {L : Nat} {ord lens : List Nat} (h : Lens cs L ord lens) (hL : L ≤ 14) (h2 : 2 ≤ ord.length) (hn : ord.length ≤ 2 ^ (L + 1)) : CanMath.kr lens = 32768 := by
  have hs := h.srt
  have hlen : (ord.map (cs.getD · 0)).length = ord.length := List.length_map _
  have hh := h.has
  unfold CanMath.kr
  rw [← sm_map, h.size]
  have e := ord_sum h.perm (fun i => CanMath.share (lens.getD i 0))
  rw [show sm cs.length (fun j => CanMath.share (lens.getD j 0)) = sm cs.length (fun i => if 0 < cs.getD i 0 then CanMath.share (lens.getD i 0) else 0) from sm_congr fun i hi => by
    by_cases hc : 0 < cs.getD i 0
    · rw [if_pos hc]
    · rw [if_neg hc, h.none i hi (by omega)]; rfl, ← e]
  generalize ord.map (cs.getD · 0) = A at *
  rw [← hlen]
  rw [← len_kraft hs hL (by omega) (by omega : A.length ≤ 2 ^ (L + 1))]
  refine sm_congr fun j hj => ?_
  rw [hh j (by omega)]
  have := len_pos hs hL (by omega) (by omega : A.length ≤ 2 ^ (L + 1)) j hj
  have e : lfin A L j = PackMath.len A L j := by unfold lfin; rw [if_neg (by omega)]
  rw [e]
  unfold CanMath.share
  rw [if_neg (by omega)]
theorem lens_zero {cs : List Nat} {L : Nat} {ord lens : List Nat} (h : Lens cs L ord lens) (hL : L ≤ 14) (hn : ord.length ≤ 2 ^ (L + 1)) (i : Nat) (hi : i < cs.length) (h0 : 0 < cs.getD i 0) : 0 < lens.getD i 0 ∧ (ord.length = 1 → lens.getD i 0 ≤ 1) := by
  obtain ⟨j, hj, e1, e2, e3⟩ := lens_sym h i hi h0
  have hs := h.srt
  have hlen : (ord.map (cs.getD · 0)).length = ord.length := List.length_map _
  rw [e3]
  generalize ord.map (cs.getD · 0) = A at *
  unfold lfin
  split
  · omega
  · exact ⟨len_pos hs hL (by omega) (by omega) j (by omega), fun h => by omega⟩
theorem kr_ord {cs : List Nat} {L : Nat} {ord lens : List Nat} (h : Lens cs L ord lens) : CanMath.kr lens = sm ord.length (fun j => CanMath.share (lfin (ord.map (cs.getD · 0)) L j)) := by
  unfold CanMath.kr
  rw [← sm_map, h.size]
  have e := ord_sum h.perm (fun i => CanMath.share (lens.getD i 0))
  rw [show sm cs.length (fun j => CanMath.share (lens.getD j 0)) = sm cs.length (fun i => if 0 < cs.getD i 0 then CanMath.share (lens.getD i 0) else 0) from sm_congr fun i hi => by
    by_cases hc : 0 < cs.getD i 0
    · rw [if_pos hc]
    · rw [if_neg hc, h.none i hi (by omega)]; rfl, ← e]
  exact sm_congr fun j hj => by rw [h.has j hj]
theorem count_kr (ls : List Nat) : ls.count 1 * 16384 ≤ CanMath.kr ls := by
  induction ls with
  | nil => simp [CanMath.kr]
  | cons x t ih =>
    rw [CanMath.kr_cons, List.count_cons]
    by_cases hx : x = 1
    · subst hx
      rw [show CanMath.share 1 = 16384 from rfl]
      simp only [beq_self_eq_true, if_true]
      rw [Nat.succ_mul, Nat.add_comm 16384]
      exact Nat.add_le_add_right ih _
    · have : (x == 1) = false := by simp [hx]
      rw [this]
      simp only [Bool.false_eq_true, if_false, Nat.add_zero]
      omega
/-- Lengths are told by the counts alone. -/
theorem lens_one {cs : List Nat} {L : Nat} {ord lens ord' lens' : List Nat} (h : Lens cs L ord lens) (h' : Lens cs L ord' lens') : lens = lens' := by
  obtain rfl := stl_one h.stl h'.stl h.perm h'.perm
  apply List.ext_getElem
  · rw [h.size, h'.size]
  · intro i hi hi'
    have g : lens.getD i 0 = lens'.getD i 0 := by
      have hc : i < cs.length := by rw [← h.size]; exact hi
      by_cases h0 : 0 < cs.getD i 0
      · obtain ⟨o1, o2, o3, o4⟩ := ord_facts h.perm
        obtain ⟨j, hj, e⟩ := o3 i hc h0
        rw [← e, h.has j hj, h'.has j hj]
      · rw [h.none i hc (by omega), h'.none i hc (by omega)]
    simpa [List.getD_eq_getElem?_getD, hi, hi'] using g
/-- A code that is best for these counts. -/
structure Best (cs lens : List Nat) (most : Nat) : Prop where
  size : lens.length = cs.length
  all : ∀ i, lens.getD i 0 ≤ most
  pos : ∀ i, i < cs.length → 0 < cs.getD i 0 → 1 ≤ lens.getD i 0
  zero : ∀ i, cs.getD i 0 = 0 → lens.getD i 0 = 0
  whole : ∀ i j, i ≠ j → i < cs.length → j < cs.length → 0 < cs.getD i 0 → 0 < cs.getD j 0 → CanMath.kr lens = 32768
  one : CanMath.kr lens = 32768 ∨ (CanMath.kr lens = 16384 ∧ lens.count 1 = 1) ∨ CanMath.kr lens = 0
  src : ∃ ord, Lens cs (most - 1) ord lens
theorem Best.same {cs lens lens' : List Nat} {most : Nat} (h : Best cs lens most) (h' : Best cs lens' most) : lens = lens' := by
  obtain ⟨o, k⟩ := h.src
  obtain ⟨o', k'⟩ := h'.src
  exact lens_one k k'
theorem Best.le {cs lens : List Nat} {most : Nat} (h : Best cs lens most) : CanMath.kr lens ≤ 32768 := by
  rcases h.one with e | ⟨e, -⟩ | e <;> omega
set_option maxRecDepth 100000 in
theorem lens_best {cs : List Nat} {L : Nat} {ord lens : List Nat} (h : Lens cs L ord lens) (hL : L ≤ 14) (hn : cs.length ≤ 2 ^ (L + 1)) : Best cs lens (L + 1) := by
  obtain ⟨o1, o2, o3, o4⟩ := ord_facts h.perm
  have hol : ord.length ≤ 2 ^ (L + 1) := by rw [o4]; exact Nat.le_trans (pos_len _ _) hn
  refine ⟨h.size, fun i => lens_le h i, fun i hi h0 => (lens_zero h hL hol i hi h0).1, fun i h0 => ?_, fun i j hij hi hj h1 h2 => ?_, ?_, ⟨ord, h⟩⟩
  · by_cases hi : i < cs.length
    · exact h.none i hi h0
    · rw [List.getD_eq_getElem?_getD, List.getElem?_eq_none (by rw [h.size]; omega)]; rfl
  · obtain ⟨a, ha, ea⟩ := o3 i hi h1
    obtain ⟨b, hb, eb⟩ := o3 j hj h2
    have hab : a ≠ b := fun e => hij (by rw [← ea, ← eb, e])
    exact lens_kraft h hL (by omega) hol
  · by_cases h2 : 2 ≤ ord.length
    · exact .inl (lens_kraft h hL h2 hol)
    · have hk := kr_ord h
      by_cases h1 : ord.length = 1
      · right; left
        rw [h1] at hk
        have e1 : lfin (ord.map (cs.getD · 0)) L 0 = 1 := by unfold lfin; rw [if_pos (by rw [List.length_map]; exact h1)]
        have hk1 : CanMath.kr lens = 16384 := by
          rw [hk]
          show 0 + CanMath.share (lfin (ord.map (cs.getD · 0)) L 0) = 16384
          rw [e1]; rfl
        refine ⟨hk1, ?_⟩
        have hc := count_kr lens
        have hm : 1 ∈ lens := by
          have h3 := h.has 0 (by omega)
          rw [e1] at h3
          have h4 := (o1 0 (by omega)).1
          rw [← h.size] at h4
          rw [List.getD_eq_getElem?_getD, List.getElem?_eq_getElem h4] at h3
          have h5 : lens[ord.getD 0 0] = 1 := h3
          rw [← h5]
          exact List.getElem_mem h4
        have := List.count_pos_iff.2 hm
        omega
      · right; right
        rw [hk, show ord.length = 0 by omega]
        rfl
end Go.Proofs.YtbjjkhlebdaoaaaDoor.PkC
end
