/-
  The document's Right, Split, Last, Less.
-/
import Derived.Test.YtkimmabndmceoaaDoorPaI
import Derived.Deep.QuietTactic
import Derived.BigQuiet
import Derived.Deep.DeepCutAuto
import Derived.Deep.CutBlock
namespace Go.Proofs.YtkimmabndmceoaaDoor.PaC
open Go.RowKit Go.My PaMath

set_option maxRecDepth 100000 in
theorem rright_any (s : ByteArray) (hs : s.size ≤ 1000000) (w : World) :
    Calls Tryd.prog 12 #[.string s] w fun e w' => e = .returned (.bool (isR (lst s))) ∧ Below w.heap.size w w' := by
  cases hc : clean (lst s) with
  | none =>
    have hr : isR (lst s) = false := by unfold isR; rw [hc]; rfl
    have hv := cleanV_none hc
    have HR := Lib.hid hr
    have HV := Lib.hid hv
    clear hc hr hv
    go_enter Tryd.func12, Tryd.ntmps12
    go_wp2_with fail
    refine (rclean_any s hs w).mono ?_
    rintro e w1 ⟨rfl, hb⟩
    rw [HV.out]
    go_wp2_with fail
    go_ret
    exact ⟨by rw [HR.out]; rfl, hb⟩
  | some o =>
    have hv := cleanV_some hc
    have HV := Lib.hid hv
    by_cases ho : o = lst s
    · have hr : isR (lst s) = true := by unfold isR; rw [hc, ho]; simp
      have HR := Lib.hid hr
      have HO := Lib.hid ho
      clear hc hr hv ho
      go_enter Tryd.func12, Tryd.ntmps12
      go_wp2_with fail
      refine (rclean_any s hs w).mono ?_
      rintro e w1 ⟨rfl, hb⟩
      rw [HV.out, HO.out, tx_lst]
      go_wp2_with fail
      go_ret
      exact ⟨by rw [HR.out]; rfl, hb⟩
    · have hr : isR (lst s) = false := by unfold isR; rw [hc]; simpa using ho
      have HR := Lib.hid hr
      have e1 : ((tx o).toList == s.toList) = false := pstr_no (by rw [lst_tx]; exact ho)
      obtain ⟨O, hO⟩ : ∃ O, O = tx o := ⟨_, rfl⟩
      rw [← hO] at e1
      have HO := Lib.hid hO
      clear hc hr hv ho hO
      go_enter Tryd.func12, Tryd.ntmps12
      go_wp2_with fail
      refine (rclean_any s hs w).mono ?_
      rintro e w1 ⟨rfl, hb⟩
      rw [HV.out, ← HO.out]
      go_wp2_with fail
      go_ret
      exact ⟨by rw [HR.out]; rfl, hb⟩
set_option maxRecDepth 100000 in
theorem rsplit_any (s : ByteArray) (hs : s.size ≤ 1000000) (w : World) :
    Calls Tryd.prog 15 #[.string s] w fun e w' => Texts w w' (split (lst s)) e := by
  cases hr : isR (lst s)
  · have hsp : split (lst s) = [] := by unfold split; rw [if_neg (not_of_isR hr)]
    rw [hsp]
    clear hsp
    go_enter Tryd.func15, Tryd.ntmps15
    go_wp2_with fail
    refine (rright_any s hs w).mono ?_
    rintro e w1 ⟨rfl, hb⟩
    rw [hr]
    go_wp2_with fail
    go_ret
    exact ⟨none, 0, rfl, RowIn.none_ _, hb⟩
  · have hsp : split (lst s) = parts (lst s) := by unfold split; rw [if_pos (clean_of_isR hr)]
    rw [hsp]
    have HSP := Lib.hid hsp
    clear hsp
    go_enter Tryd.func15, Tryd.ntmps15
    go_wp2_with fail
    refine (rright_any s hs w).mono ?_
    rintro e w1 ⟨rfl, hb⟩
    rw [hr]
    go_wp2_with fail
    refine (rparts_any s hs w1).mono ?_
    rintro e w3 ⟨a, c, rfl, hR, hb3⟩
    go_wp2_with fail
    go_ret
    exact ⟨a, c, rfl, hR, hb.trans (hb3.mono hb.size)⟩
set_option maxRecDepth 100000 in
theorem rlast_any (s : ByteArray) (hs : s.size ≤ 1000000) (w : World) :
    Calls Tryd.prog 17 #[.string s] w fun e w' => e = .returned (.string (tx (lastOf (lst s)))) ∧ Below w.heap.size w w' := by
  obtain ⟨L, hL⟩ : ∃ L, L = split (lst s) := ⟨_, rfl⟩
  have hlo : lastOf (lst s) = L.getLastD [] := by unfold lastOf; rw [hL]
  rw [hlo]
  obtain ⟨P, hP⟩ : ∃ P, P = tx (L.getLastD []) := ⟨_, rfl⟩
  rw [← hP]
  have HL := Lib.hid hL
  have HP := Lib.hid hP
  clear hL hlo hP
  go_enter Tryd.func17, Tryd.ntmps17
  go_wp2_with fail
  refine (rsplit_any s hs w).mono ?_
  rintro e w1 ⟨a, c, rfl, hR, hb⟩
  rw [← HL.out] at hR ⊢
  by_cases h0 : L = []
  · subst h0
    go_wp2_with fail
    go_ret
    exact ⟨by rw [HP.out]; rfl, hb⟩
  have hpos := List.length_pos_iff.2 h0
  obtain ⟨bb, off, rfl⟩ := hR.some_ hpos
  have hlc := hR.le_cap
  have hcc := hR.cap_le
  obtain ⟨q, hq⟩ : ∃ q, q + 1 = L.length := ⟨L.length - 1, by omega⟩
  have c0 := vals_get hR q (by omega)
  have hlast : L.getLastD [] = L[q]'(by omega) := by
    rw [List.getLastD_eq_getLast?, List.getLast?_eq_getElem?]
    rw [show L.length - 1 = q by omega, List.getElem?_eq_getElem (by omega)]
    rfl
  have hpp := HP.out
  rw [hlast] at hpp
  rw [← hpp] at c0
  rw [← hq] at hR hlc hpos ⊢
  have e1 : IntKind.i64.wrap (((q + 1 : Nat) : Int) - 1) = (q : Int) := by rw [IntKind.wrap_i64]; omega
  have e2 : (((q + 1 : Nat) : Int) == 0) = false := by simp; omega
  clear hlast hpp hq h0
  go_wp2_with fail
  go_ret
  exact ⟨rfl, hb⟩
/-- Parts to compare by: none means the text itself. -/
theorem split_key (l : List UInt8) : (split l = [] ∧ key l = [l]) ∨ (split l = key l ∧ 0 < (key l).length) := by
  unfold split key
  by_cases h : clean l = some l
  · rw [if_pos h, if_pos h]
    exact .inr ⟨rfl, List.length_pos_iff.2 (parts_ne l)⟩
  · rw [if_neg h, if_neg h]
    exact .inl ⟨rfl, rfl⟩
theorem lts_at {a b : List (List UInt8)} {k : Nat} (ha : k < a.length) (hb : k < b.length) (h : a.take k = b.take k) (e : a[k] ≠ b[k]) : lts a b = lt a[k] b[k] := by
  rw [lts_drop (by omega) (by omega) h, List.drop_eq_getElem_cons ha, List.drop_eq_getElem_cons hb, lts, if_neg e]
theorem lts_end {a b : List (List UInt8)} {k : Nat} (ha : k ≤ a.length) (hb : k ≤ b.length) (hk : k = a.length ∨ k = b.length) (h : a.take k = b.take k) : lts a b = decide (a.length < b.length) := by
  rw [lts_drop ha hb h]
  by_cases hl : a.length < b.length
  · have : k = a.length := by omega
    subst this
    rw [List.drop_eq_nil_of_le (Nat.le_refl a.length), List.drop_eq_getElem_cons hl, lts, decide_eq_true hl]
  · have : k = b.length := by omega
    subst this
    rw [List.drop_eq_nil_of_le (Nat.le_refl b.length), decide_eq_false hl]
    cases List.drop b.length a <;> rfl
theorem drewN_below (w : World) (n : Nat) : Below w.heap.size w (w.drewN n) := ⟨rfl, rfl, rfl, Nat.le_refl _, fun _ _ => rfl⟩
theorem vals_ex {W : World} {a : Option Addr} {c : Nat} {l : List (List UInt8)} (h : RowIn W a l.length c (vals l)) (k : Nat) (hk : k < l.length) : ∃ b off, a = some ⟨b, off, none⟩ ∧ W.cell? ⟨b, off + k, none⟩ = some (.string (tx l[k])) := by
  obtain ⟨b, off, rfl⟩ := h.some_ (by omega)
  exact ⟨b, off, rfl, vals_get h k hk⟩
set_option maxRecDepth 100000 in
set_option maxHeartbeats 4000000 in
theorem rless_any (a b : ByteArray) (ha : a.size ≤ 1000000) (hb : b.size ≤ 1000000) (w : World) :
    Calls Tryd.prog 19 #[.string a, .string b] w fun e w' => e = .returned (.bool (lts (key (lst a)) (key (lst b)))) ∧ Below w.heap.size w w' := by
  obtain ⟨K, hK⟩ : ∃ K, K = key (lst a) := ⟨_, rfl⟩
  obtain ⟨L, hL⟩ : ∃ K, K = key (lst b) := ⟨_, rfl⟩
  obtain ⟨A, hA⟩ : ∃ A, A = split (lst a) := ⟨_, rfl⟩
  obtain ⟨B, hB⟩ : ∃ A, A = split (lst b) := ⟨_, rfl⟩
  have ka := split_key (lst a)
  have kb := split_key (lst b)
  rw [← hK, ← hA] at ka
  rw [← hL, ← hB] at kb
  rw [← hK, ← hL]
  obtain ⟨V, hV⟩ : ∃ V, V = lts K L := ⟨_, rfl⟩
  rw [← hV]
  have HV := Lib.hid hV
  have HSA := Lib.hid hA
  have HSB := Lib.hid hB
  have KA := Lib.hid ka
  have KB := Lib.hid kb
  clear hK hL hV hA hB ka kb
  go_enter Tryd.func19, Tryd.ntmps19
  go_wp2_with fail
  refine (rsplit_any a ha w).mono ?_
  rintro e w1 ⟨a1, c1, rfl, hR1, hb1⟩
  rw [← HSA.out] at hR1 ⊢
  have HR1 := Lib.hid hR1
  have HB1 := Lib.hid hb1
  clear hR1 hb1
  go_wp2_with fail
  refine (rsplit_any b hb w1).mono ?_
  rintro e w2 ⟨a2, c2, rfl, hR2, hb2⟩
  rw [← HSB.out] at hR2 ⊢
  have HR2 := Lib.hid hR2
  have HR3 := Lib.hid (HR1.out.below (Nat.le_refl _) hb2)
  have HB2 := Lib.hid (HB1.out.trans (hb2.mono HB1.out.size))
  clear hR2 hb2 HR1 HB1
  go_upto_if 14 with (fail)
  go_cut [5] (fun v wx => ∃ ax cx, v = .slice ax K.length cx ∧ Hid (RowIn wx ax K.length cx (vals K)) ∧ Hid (Below w2.heap.size w2 wx))
  case first =>
    rcases KA.out with ⟨e1, e2⟩ | ⟨e1, e2⟩
    · have E2 := Lib.hid e2
      subst e1
      clear e2
      go_wp2_with fail
      go_meet
      case rel => exact ⟨some ⟨w2.heap.size, 0, none⟩, 1, by rw [E2.out]; rfl, Lib.hid (by rw [E2.out]; exact one_row w2 a), Lib.hid ((Below.refl _ _).alloc (Nat.le_refl _) _)⟩
    · subst e1
      have e3 : ((A.length : Int) == 0) = false := by simp; intro h; subst h; simp at e2
      clear e2
      go_wp2_with fail
      go_meet
      case rel => exact ⟨a1, c1, rfl, HR3, Lib.hid (Below.refl _ _)⟩
  obtain ⟨ax, cx, rfl, HX, HBX⟩ := hcut
  have HR4 := Lib.hid (HR2.out.below (Nat.le_refl _) HBX.out)
  go_upto_if 19 with (fail)
  go_cut [5, 6] (fun v u wx => ∃ ax cx ay cy, v = .slice ax K.length cx ∧ u = .slice ay L.length cy ∧ Hid (RowIn wx ax K.length cx (vals K)) ∧ Hid (RowIn wx ay L.length cy (vals L)) ∧ Hid (Below w.heap.size w wx))
  case first =>
    rcases KB.out with ⟨e1, e2⟩ | ⟨e1, e2⟩
    · have E2 := Lib.hid e2
      subst e1
      clear e2
      go_wp2_with fail
      go_meet
      case rel => exact ⟨ax, cx, some ⟨wc.heap.size, 0, none⟩, 1, rfl, by rw [E2.out]; rfl, Lib.hid (HX.out.below (Nat.le_refl _) ((Below.refl _ _).alloc (Nat.le_refl _) _)), Lib.hid (by rw [E2.out]; exact one_row wc b), Lib.hid ((HB2.out.trans (HBX.out.mono HB2.out.size)).alloc (Nat.le_trans HB2.out.size HBX.out.size) _)⟩
    · subst e1
      have e3 : ((B.length : Int) == 0) = false := by simp; intro h; subst h; simp at e2
      clear e2
      go_wp2_with fail
      go_meet
      case rel => exact ⟨ax, cx, a2, c2, rfl, rfl, HX, HR4, Lib.hid (HB2.out.trans (HBX.out.mono HB2.out.size))⟩
  clear HX HBX HR4 HR2 HR3 HB2 ax cx a1 a2 c1 c2 KA KB HSA HSB
  obtain ⟨ax, cx, ay, cy, rfl, rfl, HX, HY, HB⟩ := hcut
  obtain ⟨lx, hLx⟩ : ∃ n, n = K.length := ⟨_, rfl⟩
  obtain ⟨ly, hLy⟩ : ∃ n, n = L.length := ⟨_, rfl⟩
  have HLX := Lib.hid hLx
  have HLY := Lib.hid hLy
  have hlx := HX.out.le_cap
  have hly := HY.out.le_cap
  have hcx := HX.out.cap_le
  have hcy := HY.out.cap_le
  rw [← hLx] at hlx ⊢
  rw [← hLy] at hly ⊢
  clear hLx hLy
  go_wp2_with fail
  go_loopw [7] (fun i wr => ∃ k : Nat, i = .int .i64 (k : Int) ∧ k ≤ lx ∧ k ≤ ly ∧ Hid (K.take k = L.take k) ∧ Hid (RowIn wr ax K.length cx (vals K)) ∧ Hid (RowIn wr ay L.length cy (vals L)) ∧ Hid (Below w.heap.size w wr)) (fun i _ => lx - (intOf i).toNat)
  case atStart => exact ⟨0, rfl, Nat.zero_le _, Nat.zero_le _, Lib.hid rfl, HX, HY, HB⟩
  case round =>
    clear HX HY HB
    obtain ⟨k, rfl, hk1, hk2, HK, HX, HY, HB⟩ := hrel
    have stop : (k = lx ∨ k = ly) → V = decide (lx < ly) := fun h => by
      rw [HV.out, HLX.out, HLY.out]
      exact lts_end (by have := HLX.out; omega) (by have := HLY.out; omega) (by have := HLX.out; have := HLY.out; omega) HK.out
    have HST := Lib.hid stop
    clear stop
    by_cases h1 : k < lx
    · by_cases h2 : k < ly
      · obtain ⟨bx, ox, rfl, cx0⟩ := vals_ex HX.out k (by have := HLX.out; omega)
        obtain ⟨by_, oy, rfl, cy0⟩ := vals_ex HY.out k (by have := HLY.out; omega)
        obtain ⟨p, hp⟩ : ∃ p : ByteArray, p = tx (K[k]'(by have := HLX.out; omega)) := ⟨_, rfl⟩
        obtain ⟨q, hq⟩ : ∃ p : ByteArray, p = tx (L[k]'(by have := HLY.out; omega)) := ⟨_, rfl⟩
        rw [← hp] at cx0
        rw [← hq] at cy0
        by_cases hpq : lst p = lst q
        · have HE := Lib.hid (take_more (a := K) (b := L) (k := k) (by have := HLX.out; omega) (by have := HLY.out; omega) HK.out (by rw [hp, hq] at hpq; exact hpq))
          have e1 : (p.toList == q.toList) = true := pstr_yes hpq
          clear hp hq hpq
          go_wp2_with fail
          go_quiet (fail)
          go_wp2_with fail
          go_roundw
          case rel => exact ⟨k + 1, by simp, by omega, by omega, HE, Lib.hid (HX.out.below (Nat.le_refl _) (drewN_below _ nq)), Lib.hid (HY.out.below (Nat.le_refl _) (drewN_below _ nq)), Lib.hid (HB.out.trans ((drewN_below wr nq).mono HB.out.size))⟩
          case measure => simp [intOf] <;> omega
        · have hne : K[k]'(by have := HLX.out; omega) ≠ L[k]'(by have := HLY.out; omega) := fun e => hpq (by rw [hp, hq, e])
          have HE := lts_at (a := K) (b := L) (k := k) (by have := HLX.out; omega) (by have := HLY.out; omega) HK.out hne
          have hV : V = Op.bytesLess p.toList q.toList := by rw [HV.out, HE, less_lt, toList_lst, toList_lst, hp, hq, lst_tx, lst_tx]
          have HVV := Lib.hid hV
          have e1 : (p.toList == q.toList) = false := pstr_no hpq
          clear hp hq hpq hne HE hV
          go_wp2_with fail
          go_quiet (fail)
          go_wp2_with fail
          go_quiet (fail)
          go_wp2_with fail
          go_ret
          exact ⟨by rw [HVV.out]; rfl, (HB.out.trans ((drewN_below wr _).mono HB.out.size)).trans ((drewN_below _ _).mono HB.out.size)⟩
      · have hV := HST.out (.inr (by omega))
        have HVV := Lib.hid hV
        clear hV
        go_wp2_with fail
        go_ret
        exact ⟨by rw [HVV.out]; rfl, HB.out⟩
    · have hV := HST.out (.inl (by omega))
      have HVV := Lib.hid hV
      clear hV
      go_wp2_with fail
      go_ret
      exact ⟨by rw [HVV.out]; rfl, HB.out⟩
end Go.Proofs.YtkimmabndmceoaaDoor.PaC
