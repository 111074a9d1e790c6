/-
  The document's Least.
-/
import Derived.Test.YtmfnncachaejgaaPkLsA
import Derived.Test.YtmfnncachaejgaaAct
namespace Go.Proofs.Ytmfnncachaejgaa.PkC
open Go.Shelf Go.RowKit Go.My PackMath

set_option maxRecDepth 100000 in
set_option maxHeartbeats 8000000 in
theorem least_any (cs : List Nat) (a : Option Addr) (len cap M : Nat) (w : World) (hR : RowIn w a len cap (lv cs)) (hl : cs.length ≤ 400) (hM : 1 ≤ M) (hM15 : M ≤ 15) (hc : ∀ j, cs.getD j 0 ≤ 1073741824)
    (A : List Nat) (hA : Srt A) (hAp : A.Perm (cs.filter (fun x => decide (0 < x)))) (h2 : 2 ≤ A.length) (hN : A.length ≤ 2 ^ M) :
    Calls Try.prog 13 #[.slice a len cap, .int .i64 (M : Int)] w fun e w' => e = .returned (.int .i64 ((((ws (lvl A (M - 1))).take (2 * A.length - 2)).sum : Nat) : Int)) ∧ Below w.heap.size w w' := by
  have hlen := lv_size hR
  have hlen4 : len ≤ 400 := by omega
  have HR := Lib.hid hR
  have HL := Lib.hid hlen
  have HC := Lib.hid hc
  have HA := Lib.hid hA
  have HAP := Lib.hid hAp
  have H2 := Lib.hid h2
  have HN := Lib.hid hN
  clear hR hlen hc hl hA hAp h2 hN
  go_enter Try.func13, Try.ntmps13
  go_wp2_with fail
  have HST : Hid (OwnV 3 w.heap.size w (.slice none 0 0) (lv [])) := Lib.hid (OwnV.nil _ _ _)
  go_loopw [6, 5, 7] (fun s t _ wr => ∃ (i n : Nat) (ad : Option Addr) (c : Nat) (X : List Nat), s = .int .i64 (i : Int) ∧ t = .slice ad n c ∧ i ≤ len ∧ n ≤ i ∧ Hid (X.length = n) ∧ Hid (Srt X ∧ X.Perm ((cs.take i).filter (fun x => decide (0 < x)))) ∧ Hid (OwnV 3 w.heap.size wr (.slice ad n c) (lv X)) ∧ Hid (Below w.heap.size w wr)) (fun s _ _ _ => len - (intOf s).toNat)
  case atStart => exact ⟨0, 0, none, 0, [], rfl, rfl, Nat.zero_le _, Nat.le_refl _, Lib.hid rfl, Lib.hid ⟨List.Pairwise.nil, by simp⟩, HST, Lib.hid (Below.refl _ _)⟩
  case round =>
    clear HST
    obtain ⟨i, n, ad, c, X, rfl, rfl, hi, hni, HX, HS, HO, HB⟩ := hrel
    by_cases hlt : i < len
    · as_aux_lemma =>
      have hlti : (i : Int) < (len : Int) := by omega
      have hRw := HR.out.below (Nat.le_refl _) HB.out
      obtain ⟨ib, io, rfl⟩ := hRw.some_ (by omega)
      obtain ⟨v, hv⟩ : ∃ v, v = cs.getD i 0 := ⟨_, rfl⟩
      have hic : i < cs.length := by rw [HL.out]; exact hlt
      have hve : cs[i] = v := by rw [hv, getD_at _ _ hic]
      have c1 : wr.cell? ⟨ib, io + i, none⟩ = some (.int .i64 (v : Int)) := by
        rw [hv]; exact lv_cell hRw i hic
      have hvb : v ≤ 1073741824 := by rw [hv]; exact HC.out i
      have HTK : Hid (cs.take (i + 1) = cs.take i ++ [v]) := Lib.hid (by rw [List.take_succ_eq_append_getElem hic, hve])
      clear hv hve hic hRw
      by_cases hv0 : v = 0
      · have hz : ((v : Int) == 0) = true := by simp; omega
        have HS2 : Hid (Srt X ∧ X.Perm ((cs.take (i + 1)).filter (fun x => decide (0 < x)))) := Lib.hid ⟨HS.out.1, by rw [HTK.out, List.filter_append, List.filter_cons_of_neg (by simp; omega)]; simpa using HS.out.2⟩
        subst hv0
        clear HS HTK
        go_wp2_with fail
        go_roundw
        case measure => simp [intOf]; omega
        case rel => exact ⟨i + 1, n, ad, c, X, by simp, by simp, by omega, by omega, HX, HS2, HO, HB⟩
      · have hz : ((v : Int) == 0) = false := by simp; omega
        have HTF : Hid ((cs.take (i + 1)).filter (fun x => decide (0 < x)) = (cs.take i).filter (fun x => decide (0 < x)) ++ [v]) := Lib.hid (by rw [HTK.out, List.filter_append, List.filter_cons_of_pos (by simp; omega)]; rfl)
        have HLT : Hid ((lv X).length = n) := Lib.hid (by rw [lv_len, HX.out])
        have HR2 : Hid (RowIn (wr.alloc (.cells #[.int .i64 (v : Int)] 3)) (some ⟨wr.heap.size, 0, none⟩) 1 1 (lv [v])) := Lib.hid (lit_row wr v)
        have HO2 : Hid (OwnV 3 w.heap.size (wr.alloc (.cells #[.int .i64 (v : Int)] 3)) (.slice ad n c) (lv X)) := Lib.hid (HO.out.below (Nat.le_refl _) ((Below.refl _ wr).alloc (Nat.le_refl _) _))
        have HB2 : Hid (Below w.heap.size w (wr.alloc (.cells #[.int .i64 (v : Int)] 3))) := Lib.hid (HB.out.alloc HB.out.size _)
        clear HO HB hv0 HTK
        go_wp2_with (at_builtin; refine wpList_append_row (by rfl) (.tmp 29) (.tmp 34) 22 rfl w.heap.size 3 (.int .i64 0) 8 Try.underlying22 info_int' rfl (.slice ad n c) (lv X) rfl HO2.out (some ⟨wr.heap.size, 0, none⟩) 1 1 (lv [v]) rfl HR2.out (lv_one _) (by rw [HLT.out]; omega) (by rw [HLT.out]; omega) HB2.out.size ?_)
        intro a7 c7 w7 hown hgrow _
        rw [HLT.out] at hown ⊢
        rw [← lv_append] at hown
        have HO7 := Lib.hid hown
        have HB7 := Lib.hid (HO2.out.grown HB2.out hgrow HB2.out.size)
        obtain ⟨g, rfl⟩ := own_some hown (by rw [lv_len, List.length_append, HX.out]; simp)
        clear hown hgrow HO2 HB2 HR2 c1 HLT
        have HI0 : Hid (Ins X v n (X ++ [v])) := Lib.hid (by have := ins_start X v; rwa [HX.out] at this)
        go_wp2_with fail
        go_loopw [7] (fun s wr => ∃ (k : Nat) (Y : List Nat), s = .int .i64 (k : Int) ∧ k ≤ n ∧ Hid (Ins X v k Y) ∧ Hid (OwnV 3 w.heap.size wr (.slice (some ⟨g, 0, none⟩) (n + 1) c7) (lv Y)) ∧ Hid (Below w.heap.size w wr)) (fun s _ => (intOf s).toNat)
        case atStart => exact ⟨n, _, rfl, Nat.le_refl _, HI0, HO7, HB7⟩
        case round =>
          clear HI0 HO7 HB7
          obtain ⟨k, Y, rfl, hk, HI, HO, HB⟩ := hrel
          have HEND : Hid ((∀ j, k = j + 1 → X.getD j 0 ≤ v) → Srt Y ∧ Y.Perm ((cs.take (i + 1)).filter (fun x => decide (0 < x)))) := Lib.hid (fun h => by
            have := HI.out.done HS.out.1 h
            refine ⟨this.1, this.2.trans ?_⟩
            rw [HTF.out]
            exact HS.out.2.append_right _)
          have HYL : Hid (Y.length = n + 1) := Lib.hid (by rw [HI.out.len, HX.out])
          by_cases hk0 : k = 0
          · subst hk0
            have HE := Lib.hid (HEND.out (fun j h => by omega))
            have d1 : decide ((0 : Int) < ((0 : Nat) : Int)) = false := by simp
            clear HEND HI
            go_wp2_with fail
            go_quiet (fail)
            have HO2 : Hid (OwnV 3 w.heap.size (wr.drewN nq) (.slice (some ⟨g, 0, none⟩) (n + 1) c7) (lv Y)) := HO
            have HB2 : Hid (Below w.heap.size w (wr.drewN nq)) := Lib.hid (HB.out.trans (L3.quiet_any wr nq))
            clear HO HB
            generalize wr.drewN nq = w8 at *
            go_wp2_with fail
            go_roundw
            case measure => simp [intOf]; omega
            case rel => exact ⟨i + 1, n + 1, _, c7, Y, by simp, by simp, by omega, by omega, HYL, HE, HO2, HB2⟩
          · obtain ⟨j, hj⟩ : ∃ j, j + 1 = k := ⟨k - 1, by omega⟩
            obtain ⟨x, hx⟩ : ∃ x, x = X.getD j 0 := ⟨_, rfl⟩
            have hYj : Y.getD j 0 = x := by rw [HI.out.below (by omega), hx]
            have hYk : Y.getD k 0 = v := HI.out.at_k
            have c1 : wr.cell? ⟨g, j, none⟩ = some (.int .i64 (x : Int)) := by
              have := lv_cell (HO.out.rowIn (by rw [lv_len, HYL.out])) j (by rw [HYL.out]; omega)
              rwa [hYj, Nat.zero_add] at this
            have c2 : wr.cell? ⟨g, k, none⟩ = some (.int .i64 (v : Int)) := by
              have := lv_cell (HO.out.rowIn (by rw [lv_len, HYL.out])) k (by rw [HYL.out]; omega)
              rwa [hYk, Nat.zero_add] at this
            have e1 : IntKind.i64.wrap ((k : Int) - 1) = (j : Int) := by rw [IntKind.wrap_i64]; omega
            have e2 : (k : Int) - 1 = (j : Int) := by omega
            have d1 : decide ((0 : Int) < (k : Int)) = true := by simp; omega
            have d1n : decide (0 < k) = true := by simp; omega
            have hk0n : 0 < k := by omega
            have i1 : (j : Int) < ((n + 1 : Nat) : Int) := by omega
            have i2 : (k : Int) < ((n + 1 : Nat) : Int) := by omega
            have i3 : j < n + 1 := by omega
            have i4 : k < n + 1 := by omega
            have HJ := Lib.hid hj
            have HXJ := Lib.hid hx
            clear hYj hYk hj hx hk0
            by_cases hvx : v < x
            · have d2 : decide ((v : Int) < (x : Int)) = true := by simp; omega
              have d2n : decide (v < x) = true := by simp; omega
              have HIS : Hid (Ins X v j ((Y.set j v).set k x)) := Lib.hid (by
                have h := HI.out
                rw [← HJ.out] at h ⊢
                exact h.step HXJ.out.symm hvx)
              clear HEND HI
              go_wp2_with fail
              go_quiet (fail)
              have HO2 : Hid (OwnV 3 w.heap.size (wr.drewN nq) (.slice (some ⟨g, 0, none⟩) (n + 1) c7) (lv Y)) := HO
              have HB2 : Hid (Below w.heap.size w (wr.drewN nq)) := Lib.hid (HB.out.trans (L3.quiet_any wr nq))
              have c3 : (wr.drewN nq).cell? ⟨g, j, none⟩ = some (.int .i64 (x : Int)) := c1
              have c4 : (wr.drewN nq).cell? ⟨g, k, none⟩ = some (.int .i64 (v : Int)) := c2
              clear HO HB c1 c2
              generalize wr.drewN nq = w8 at *
              have f1 : w8.frozen? ⟨g, j, none⟩ = false := HO2.out.free (by rw [lv_len, HYL.out]) j
              have f2 : w8.frozen? ⟨g, k, none⟩ = false := HO2.out.free (by rw [lv_len, HYL.out]) k
              clear d2 d2n d1 d1n hvx
              go_wp2_with fail
              go_region
              all_goals
                go_wp2_with fail
                go_roundw
                case measure => simp [intOf]; omega
                case rel => exact ⟨j, (Y.set j v).set k x, by simp, by omega, HIS, Lib.hid (by
                  have h := (HO2.out.store (by rw [lv_len, HYL.out]) j (.int .i64 (v : Int))).store (by rw [List.length_set, lv_len, HYL.out]) k (.int .i64 (x : Int))
                  rw [lv_set, lv_set] at h
                  exact h), Lib.hid (((HB2.out.setCell (HO2.out.base g rfl) _ : Below _ _ (w8.setCell ⟨g, j, none⟩ _)).setCell (HO2.out.base g rfl) _ : Below _ _ ((w8.setCell ⟨g, j, none⟩ _).setCell ⟨g, k, none⟩ _)).drew)⟩
            · have hvx' : x ≤ v := by omega
              have d2 : decide ((v : Int) < (x : Int)) = false := by simp; omega
              have d2n : decide (v < x) = false := by simp; omega
              have HE := Lib.hid (HEND.out (fun j' h => by
                have : j' = j := by have := HJ.out; omega
                rw [this, ← HXJ.out]; exact hvx'))
              clear HEND HI
              go_wp2_with fail
              go_quiet (fail)
              have HO2 : Hid (OwnV 3 w.heap.size (wr.drewN nq) (.slice (some ⟨g, 0, none⟩) (n + 1) c7) (lv Y)) := HO
              have HB2 : Hid (Below w.heap.size w (wr.drewN nq)) := Lib.hid (HB.out.trans (L3.quiet_any wr nq))
              clear HO HB c1 c2
              generalize wr.drewN nq = w8 at *
              go_wp2_with fail
              go_roundw
              case measure => simp [intOf]; omega
              case rel => exact ⟨i + 1, n + 1, _, c7, Y, by simp, by simp, by omega, by omega, HYL, HE, HO2, HB2⟩
    · have hlti : ¬ (i : Int) < (len : Int) := by omega
      obtain rfl : i = len := by omega
      have hXA : X = A := srt_unique HS.out.1 HA.out (by
        have h := HS.out.2
        rw [List.take_of_length_le (by rw [HL.out]; exact Nat.le_refl _)] at h
        exact h.trans HAP.out.symm)
      subst hXA
      have HNN : Hid (X.length = n) := HX
      have hn2 : 2 ≤ n := by have := H2.out; have := HX.out; omega
      have hn4 : n ≤ 400 := by omega
      have HRX : Hid (RowIn wr ad n c (lv X)) := Lib.hid (HO.out.rowIn (by rw [lv_len, HX.out]))
      have HMEM : Hid (∀ x ∈ X, x ≤ 1073741824) := Lib.hid (fun x hx => by
        have h := List.mem_filter.1 (HAP.out.mem_iff.1 hx)
        obtain ⟨j, hj, rfl⟩ := List.getElem_of_mem h.1
        have := HC.out j
        rwa [getD_at _ _ hj] at this)
      have hnN : Hid (n ≤ 2 ^ M) := Lib.hid (by have := HN.out; rw [HX.out] at this; exact this)
      obtain ⟨w2, hw2⟩ : ∃ w2, w2 = wr := ⟨_, rfl⟩
      rw [← hw2] at HRX HB ⊢
      have HBW := HB
      clear hw2 hlt hlti HA HS HAP HC H2 HN HX HO HB hi hni HR HL
      go_wp2_with fail
      have HST : Hid (RowIn w2 none 0 0 (lv (rw_ X 0))) := Lib.hid (RowIn.none_ w2)
      go_loopw [9, 8, 10, 11, 12, 13] (fun s r _ _ _ _ wr => ∃ (m rl : Nat) (ra : Option Addr) (rc : Nat), s = .int .i64 (m : Int) ∧ r = .slice ra rl rc ∧ m ≤ M ∧ Hid (RowIn wr ra rl rc (lv (rw_ X m))) ∧ Hid (Below w2.heap.size w2 wr)) (fun s _ _ _ _ _ _ => M - (intOf s).toNat)
      case atStart => exact ⟨0, 0, none, 0, rfl, rfl, Nat.zero_le _, HST, Lib.hid (Below.refl _ _)⟩
      case round =>
        clear HST
        obtain ⟨m, rl, ra, rc, rfl, rfl, hm, HRR, HB⟩ := hrel
        have hrl := lv_size HRR.out
        have hrl8 : rl ≤ 800 := by have := rw_len X m; have := HNN.out; omega
        have HRL := Lib.hid hrl
        by_cases hlt : m < M
        · as_aux_lemma =>
          have hlti : (m : Int) < (M : Int) := by omega
          have HRB : Hid (∀ j, (rw_ X m).getD j 0 ≤ 17592186044416) := Lib.hid (rw_mem X HMEM.out m (by omega))
          have HNX : Hid (ws (mrg X (prs (rw_ X m))) = rw_ X (m + 1)) := Lib.hid (rw_next X m)
          clear hrl HMEM hnN
          generalize rw_ X m = R at *
          obtain ⟨w3, hw3⟩ : ∃ w3, w3 = wr := ⟨_, rfl⟩
          rw [← hw3] at HRR HB ⊢
          have HB3 := HB
          clear hw3 HB
          go_wp2_with fail
          have HST : Hid (OwnV 3 w3.heap.size w3 (.slice none 0 0) (lv ((prs R).take 0))) := Lib.hid (OwnV.nil _ _ _)
          go_loopw [11, 10] (fun s p wr => ∃ (i q : Nat) (pa : Option Addr) (pc : Nat), s = .int .i64 (i : Int) ∧ p = .slice pa q pc ∧ i ≤ 2 * q ∧ 2 * q ≤ i ∧ i ≤ rl ∧ Hid (OwnV 3 w3.heap.size wr (.slice pa q pc) (lv ((prs R).take q))) ∧ Hid (Below w3.heap.size w3 wr)) (fun s _ _ => rl - (intOf s).toNat)
          case atStart => exact ⟨0, 0, none, 0, rfl, rfl, Nat.zero_le _, Nat.le_refl _, Nat.zero_le _, HST, Lib.hid (Below.refl _ _)⟩
          case round =>
            clear HST
            obtain ⟨i, q, pa, pc, rfl, rfl, hiq, hqi, hir, HO, HB⟩ := hrel
            obtain ⟨i1, hi1⟩ : ∃ i1, i1 = i + 1 := ⟨_, rfl⟩
            have e1 : (i : Int) + 1 = (i1 : Int) := by omega
            have e2 : IntKind.i64.wrap (i1 : Int) = (i1 : Int) := by rw [IntKind.wrap_i64]; omega
            have e3 : IntKind.i64.wrap ((i : Int) + 1) = (i1 : Int) := by rw [IntKind.wrap_i64]; omega
            by_cases hlt2 : i1 < rl
            · as_aux_lemma =>
              have hlti2 : (i1 : Int) < (rl : Int) := by omega
              have hlti3 : (i : Int) < (rl : Int) := by omega
              have hlti4 : i < rl := by omega
              have hRw := HRR.out.below (Nat.le_refl _) HB.out
              obtain ⟨ib, io, rfl⟩ := hRw.some_ (by omega)
              obtain ⟨y, hy⟩ : ∃ v, v = R.getD i 0 := ⟨_, rfl⟩
              obtain ⟨z, hz⟩ : ∃ v, v = R.getD i1 0 := ⟨_, rfl⟩
              have c1 : wr.cell? ⟨ib, io + i, none⟩ = some (.int .i64 (y : Int)) := by
                rw [hy]; exact lv_cell hRw i (by rw [HRL.out]; omega)
              have c2 : wr.cell? ⟨ib, io + i1, none⟩ = some (.int .i64 (z : Int)) := by
                rw [hz]; exact lv_cell hRw i1 (by rw [HRL.out]; omega)
              have hyb : y ≤ 17592186044416 := by rw [hy]; exact HRB.out i
              have hzb : z ≤ 17592186044416 := by rw [hz]; exact HRB.out i1
              obtain ⟨yz, hyz⟩ : ∃ yz, yz = y + z := ⟨_, rfl⟩
              have e4 : (y : Int) + (z : Int) = (yz : Int) := by omega
              have e5 : IntKind.i64.wrap (yz : Int) = (yz : Int) := by rw [IntKind.wrap_i64]; omega
              have e6 : IntKind.i64.wrap ((y : Int) + (z : Int)) = (yz : Int) := by rw [IntKind.wrap_i64]; omega
              have HTK : Hid (lv ((prs R).take (q + 1)) = lv ((prs R).take q) ++ lv [yz]) := Lib.hid (by
                have h := prs_take R q (by rw [HRL.out]; omega)
                rw [show 2 * q = i by omega, ← hi1, ← hy, ← hz, ← hyz] at h
                rw [h, lv_append])
              have HLT : Hid ((lv ((prs R).take q)).length = q) := Lib.hid (by rw [lv_len, List.length_take, prs_len, HRL.out]; omega)
              have hi2 : i1 + 1 ≤ rl := hlt2
              have hq8 : q ≤ 800 := by omega
              have hI1a : i1 ≤ i + 1 := by omega
              have hI1b : i + 1 ≤ i1 := by omega
              generalize lv ((prs R).take q) = D at *
              have HR4 : Hid (RowIn (wr.drew.alloc (.cells #[.int .i64 (yz : Int)] 3)) (some ⟨wr.heap.size, 0, none⟩) 1 1 (lv [yz])) := Lib.hid (lit_row wr.drew yz)
              have HO4 : Hid (OwnV 3 w3.heap.size (wr.drew.alloc (.cells #[.int .i64 (yz : Int)] 3)) (.slice pa q pc) D) := Lib.hid (HO.out.below (Nat.le_refl _) (((Below.refl _ wr).drew).alloc (Nat.le_refl _) _))
              have HBD : Hid (Below w3.heap.size w3 wr.drew) := Lib.hid HB.out.drew
              have C1 : Hid (∀ w', Below w3.heap.size w3 w' → w'.cell? ⟨ib, io + i, none⟩ = some (.int .i64 (y : Int))) := Lib.hid (fun w' h => by
                rw [hy]; exact lv_cell (HRR.out.below (Nat.le_refl _) h) i (by rw [HRL.out]; omega))
              have C2 : Hid (∀ w', Below w3.heap.size w3 w' → w'.cell? ⟨ib, io + i1, none⟩ = some (.int .i64 (z : Int))) := Lib.hid (fun w' h => by
                rw [hz]; exact lv_cell (HRR.out.below (Nat.le_refl _) h) i1 (by rw [HRL.out]; omega))
              have HB4 : Hid (Below w3.heap.size w3 (wr.drew.alloc (.cells #[.int .i64 (yz : Int)] 3))) := Lib.hid (HB.out.drew.alloc HB.out.size _)
              clear hRw hy hz hyz hi1 hlt2 HO HB HRB HRR c1 c2
              go_wp2_with fail
              refine wp_region_held (S := fun w' => Below w3.heap.size w3 w') (by kernel_rfl) ?_
              have hS : Below w3.heap.size w3 wr.drew := HBD.out
              change wpAnyH _ _ _ _ _ 14 _ _ wr.drew
              refine act_name fun A0 hA0 => ?_
              have z0 : A0.tmps.size = 157 := by subst hA0; kernel_rfl
              have u10 : A0.eval (.tmp 10) = .slice pa q pc := by subst hA0; kernel_rfl
              have u8 : A0.eval (.tmp 8) = .slice (some ⟨ib, io, none⟩) rl rc := by subst hA0; kernel_rfl
              have u11 : A0.eval (.tmp 11) = .int .i64 (i : Int) := by subst hA0; kernel_rfl
              have HA0 := Lib.hid hA0
              clear hA0
              refine ord_step (i := 0) (d := some 80) (.slice pa q pc) rfl (by kernel_rfl) (by kernel_rfl) (by kernel_rfl) (by kernel_rfl) (fun _ _ _ h => h) rfl hS (fun w' h => x_move (.tmp 10) rfl u10) fun A1 hA1 => ?_
              have z1 := sz_put hA1 z0
              clear u10
              replace u8 := ev_ne hA1 u8 (by decide)
              replace u11 := ev_ne hA1 u11 (by decide)
              have u80 := ev_eq hA1 z0 (by decide)
              have HA1 := Lib.hid hA1
              clear hA1 z0
              refine ord_step (i := 1) (d := some 81) (.slice (some ⟨ib, io, none⟩) rl rc) rfl (by kernel_rfl) (by kernel_rfl) (by kernel_rfl) (by kernel_rfl) (fun _ _ _ h => h) rfl hS (fun w' h => x_move (.tmp 8) rfl u8) fun A2 hA2 => ?_
              have z2 := sz_put hA2 z1
              replace u8 := ev_ne hA2 u8 (by decide)
              replace u11 := ev_ne hA2 u11 (by decide)
              replace u80 := ev_ne hA2 u80 (by decide)
              have u81 := ev_eq hA2 z1 (by decide)
              have HA2 := Lib.hid hA2
              clear hA2 z1
              refine ord_step (i := 2) (d := some 82) (.int .i64 (i : Int)) rfl (by kernel_rfl) (by kernel_rfl) (by kernel_rfl) (by kernel_rfl) (fun _ _ _ h => h) rfl hS (fun w' h => x_move (.tmp 11) rfl u11) fun A3 hA3 => ?_
              have z3 := sz_put hA3 z2
              replace u8 := ev_ne hA3 u8 (by decide)
              replace u11 := ev_ne hA3 u11 (by decide)
              replace u80 := ev_ne hA3 u80 (by decide)
              replace u81 := ev_ne hA3 u81 (by decide)
              have u82 := ev_eq hA3 z2 (by decide)
              have HA3 := Lib.hid hA3
              clear hA3 z2
              refine ord_step (i := 5) (d := some 85) (.slice (some ⟨ib, io, none⟩) rl rc) rfl (by kernel_rfl) (by kernel_rfl) (by kernel_rfl) (by kernel_rfl) (fun _ _ _ h => h) rfl hS (fun w' h => x_move (.tmp 8) rfl u8) fun A4 hA4 => ?_
              have z4 := sz_put hA4 z3
              clear u8
              replace u11 := ev_ne hA4 u11 (by decide)
              replace u80 := ev_ne hA4 u80 (by decide)
              replace u81 := ev_ne hA4 u81 (by decide)
              replace u82 := ev_ne hA4 u82 (by decide)
              have u85 := ev_eq hA4 z3 (by decide)
              have HA4 := Lib.hid hA4
              clear hA4 z3
              refine ord_step (i := 6) (d := some 86) (.int .i64 (i : Int)) rfl (by kernel_rfl) (by kernel_rfl) (by kernel_rfl) (by kernel_rfl) (fun _ _ _ h => h) rfl hS (fun w' h => x_move (.tmp 11) rfl u11) fun A5 hA5 => ?_
              have z5 := sz_put hA5 z4
              clear u11
              replace u80 := ev_ne hA5 u80 (by decide)
              replace u81 := ev_ne hA5 u81 (by decide)
              replace u82 := ev_ne hA5 u82 (by decide)
              replace u85 := ev_ne hA5 u85 (by decide)
              have u86 := ev_eq hA5 z4 (by decide)
              have HA5 := Lib.hid hA5
              clear hA5 z4
              refine ord_step (i := 3) (d := some 83) (.pointer (some ⟨ib, io + i, none⟩)) rfl (by kernel_rfl) (by kernel_rfl) (by kernel_rfl) (by kernel_rfl) (fun _ _ _ h => h) rfl hS (fun w' h => x_idx (.tmp 81) (.tmp 82) (b := ib) (off := io) (len := rl) (cap := rc) (k := i) rfl u81 u82 hlti4) fun A6 hA6 => ?_
              have z6 := sz_put hA6 z5
              clear u81
              clear u82
              replace u80 := ev_ne hA6 u80 (by decide)
              replace u85 := ev_ne hA6 u85 (by decide)
              replace u86 := ev_ne hA6 u86 (by decide)
              have u83 := ev_eq hA6 z5 (by decide)
              have HA6 := Lib.hid hA6
              clear hA6 z5
              refine ord_step (i := 4) (d := some 84) (.int .i64 (y : Int)) rfl (by kernel_rfl) (by kernel_rfl) (by kernel_rfl) (by kernel_rfl) (fun _ _ _ h => h) rfl hS (fun w' h => x_load (.tmp 83) rfl u83 (C1.out w' h)) fun A7 hA7 => ?_
              have z7 := sz_put hA7 z6
              clear u83
              replace u80 := ev_ne hA7 u80 (by decide)
              replace u85 := ev_ne hA7 u85 (by decide)
              replace u86 := ev_ne hA7 u86 (by decide)
              have u84 := ev_eq hA7 z6 (by decide)
              have HA7 := Lib.hid hA7
              clear hA7 z6
              refine ord_step (i := 7) (d := some 87) (.int .i64 (i1 : Int)) rfl (by kernel_rfl) (by kernel_rfl) (by kernel_rfl) (by kernel_rfl) (fun _ _ _ h => h) rfl hS (fun w' h => x_add (.tmp 86) (.const (.int .i64 1)) rfl u86 rfl e3) fun A8 hA8 => ?_
              have z8 := sz_put hA8 z7
              clear u86
              replace u80 := ev_ne hA8 u80 (by decide)
              replace u84 := ev_ne hA8 u84 (by decide)
              replace u85 := ev_ne hA8 u85 (by decide)
              have u87 := ev_eq hA8 z7 (by decide)
              have HA8 := Lib.hid hA8
              clear hA8 z7
              refine ord_step (i := 8) (d := some 88) (.pointer (some ⟨ib, io + i1, none⟩)) rfl (by kernel_rfl) (by kernel_rfl) (by kernel_rfl) (by kernel_rfl) (fun _ _ _ h => h) rfl hS (fun w' h => x_idx (.tmp 85) (.tmp 87) (b := ib) (off := io) (len := rl) (cap := rc) (k := i1) rfl u85 u87 hi2) fun A9 hA9 => ?_
              have z9 := sz_put hA9 z8
              clear u85
              clear u87
              replace u80 := ev_ne hA9 u80 (by decide)
              replace u84 := ev_ne hA9 u84 (by decide)
              have u88 := ev_eq hA9 z8 (by decide)
              have HA9 := Lib.hid hA9
              clear hA9 z8
              refine ord_step (i := 9) (d := some 89) (.int .i64 (z : Int)) rfl (by kernel_rfl) (by kernel_rfl) (by kernel_rfl) (by kernel_rfl) (fun _ _ _ h => h) rfl hS (fun w' h => x_load (.tmp 88) rfl u88 (C2.out w' h)) fun A10 hA10 => ?_
              have z10 := sz_put hA10 z9
              clear u88
              replace u80 := ev_ne hA10 u80 (by decide)
              replace u84 := ev_ne hA10 u84 (by decide)
              have u89 := ev_eq hA10 z9 (by decide)
              have HA10 := Lib.hid hA10
              clear hA10 z9
              refine ord_step (i := 10) (d := some 90) (.int .i64 (yz : Int)) rfl (by kernel_rfl) (by kernel_rfl) (by kernel_rfl) (by kernel_rfl) (fun _ _ _ h => h) rfl hS (fun w' h => x_add (.tmp 84) (.tmp 89) rfl u84 u89 e6) fun A11 hA11 => ?_
              have z11 := sz_put hA11 z10
              clear u84
              clear u89
              replace u80 := ev_ne hA11 u80 (by decide)
              have u90 := ev_eq hA11 z10 (by decide)
              have HA11 := Lib.hid hA11
              clear hA11 z10
              refine ord_lone (i := 11) rfl (by kernel_rfl) rfl ?_
              refine wp_value (d := some 91) (v := .slice (some ⟨wr.heap.size, 0, none⟩) 1 1) (w' := wr.drew.alloc (.cells #[.int .i64 (yz : Int)] 3)) (by kernel_rfl) (x_build (.tmp 90) rfl u90) ?_
              refine act_name_and HB4.out fun A12 hA12 => ?_
              have z12 := sz_put hA12 z11
              clear u90
              replace u80 := ev_ne hA12 u80 (by decide)
              have u91 := ev_eq hA12 z11 (by decide)
              have HA12 := Lib.hid hA12
              clear hA12 z11
              refine ord_lone (i := 12) rfl (by kernel_rfl) rfl ?_
              refine wp_append_row_d (d := some 92) (by kernel_rfl) (.tmp 80) (.tmp 91) 22 rfl w3.heap.size 3 (.int .i64 0) 8 Try.underlying22 info_int' rfl (.slice pa q pc) D u80 HO4.out (some ⟨wr.heap.size, 0, none⟩) 1 1 (lv [yz]) u91 HR4.out (lv_one _) (by rw [HLT.out]; omega) (by rw [HLT.out]; omega) HB4.out.size ?_
              intro a7 c7 w7 hown hgrow
              rw [HLT.out] at hown ⊢
              rw [← HTK.out] at hown
              have HO7 := Lib.hid hown
              have HB7 := Lib.hid (HO4.out.grown HB4.out hgrow HB4.out.size)
              clear hown hgrow HO4 HB4 HR4 hS HBD C1 C2
              have hS := HB7.out
              refine act_name_and hS fun A13 hA13 => ?_
              have z13 := sz_put hA13 z12
              clear u80
              clear u91
              have u92 := ev_eq hA13 z12 (by decide)
              have HA13 := Lib.hid hA13
              clear hA13 z12
              refine ord_step (i := 13) (d := some 10) (.slice a7 (q + 1) c7) rfl (by kernel_rfl) (by kernel_rfl) (by kernel_rfl) (by kernel_rfl) (fun _ _ _ h => h) rfl hS (fun w' h => x_assign (.tmp 92) rfl u92) fun A14 hA14 => ?_
              have z14 := sz_put hA14 z13
              clear u92
              have u10 := ev_eq hA14 z13 (by decide)
              have HA14 := Lib.hid hA14
              clear hA14 z13
              clear hS e1 e2 e3 e4 e5 e6 u10 z14
              have hA14 := HA14.out
              subst hA14
              clear HA14
              have hA13 := HA13.out
              subst hA13
              clear HA13
              have hA12 := HA12.out
              subst hA12
              clear HA12
              have hA11 := HA11.out
              subst hA11
              clear HA11
              have hA10 := HA10.out
              subst hA10
              clear HA10
              have hA9 := HA9.out
              subst hA9
              clear HA9
              have hA8 := HA8.out
              subst hA8
              clear HA8
              have hA7 := HA7.out
              subst hA7
              clear HA7
              have hA6 := HA6.out
              subst hA6
              clear HA6
              have hA5 := HA5.out
              subst hA5
              clear HA5
              have hA4 := HA4.out
              subst hA4
              clear HA4
              have hA3 := HA3.out
              subst hA3
              clear HA3
              have hA2 := HA2.out
              subst hA2
              clear HA2
              have hA1 := HA1.out
              subst hA1
              clear HA1
              have hA0 := HA0.out
              subst hA0
              clear HA0
              refine act_as (by simp only [put_lit, List.set_cons_succ, List.set_cons_zero]; rfl) ?_
              refine wpAnyH_done (by kernel_rfl) ?_ _
              go_wp2_with fail
              go_roundw
              case measure => simp [intOf]; omega
              case rel => exact ⟨i + 2, q + 1, a7, c7, by simp, by simp, by omega, by omega, by omega, HO7, HB7⟩
            · have hlti2 : ¬ (i1 : Int) < (rl : Int) := by omega
              have hq2 : q = rl / 2 := by omega
              have HPF : Hid (RowIn wr pa q pc (lv (prs R))) := Lib.hid (by
                have := HO.out.rowIn (by rw [lv_len, List.length_take, prs_len, HRL.out]; omega)
                rwa [List.take_of_length_le (by rw [prs_len, HRL.out]; omega)] at this)
              have HBN : Hid ((prs R).length = q) := Lib.hid (by rw [prs_len, HRL.out, hq2])
              have hq8 : q ≤ 800 := by omega
              obtain ⟨w4, hw4⟩ : ∃ w4, w4 = wr := ⟨_, rfl⟩
              rw [← hw4] at HPF HB ⊢
              have HB4 := Lib.hid (HB3.out.trans (HB.out.mono HB3.out.size))
              have HRX4 := Lib.hid ((HRX.out.below (Nat.le_refl _) HB3.out).below (Nat.le_refl _) HB.out)
              clear hw4 HB HO hq2 hi1 HRL HRB HRR hlt2 hiq hqi
              generalize prs R = B at *
              go_wp2_with fail
              clear e1 e2 e3 hlti2
              have HST : Hid (OwnV 3 w4.heap.size w4 (.slice none 0 0) (lv [])) := Lib.hid (OwnV.nil _ _ _)
              go_loopw [12, 13, 8] (fun s t r wr => ∃ (i k d : Nat) (ra : Option Addr) (rc : Nat) (D : List Nat), s = .int .i64 (i : Int) ∧ t = .int .i64 (k : Int) ∧ r = .slice ra d rc ∧ i ≤ n ∧ k ≤ q ∧ d ≤ i + k ∧ i + k ≤ d ∧ Hid (Mrgs X B i k D) ∧ Hid (D.length = d) ∧ Hid (OwnV 3 w4.heap.size wr (.slice ra d rc) (lv D)) ∧ Hid (Below w4.heap.size w4 wr)) (fun s t _ _ => (n - (intOf s).toNat) + (q - (intOf t).toNat))
              case atStart => exact ⟨0, 0, 0, none, 0, [], rfl, rfl, rfl, Nat.zero_le _, Nat.zero_le _, Nat.zero_le _, Nat.le_refl _, Lib.hid (mrgs_start X B), Lib.hid rfl, HST, Lib.hid (Below.refl _ _)⟩
              case round =>
                clear HST
                obtain ⟨i, k, d, ra, rc, D, rfl, rfl, rfl, hin, hkq, hd1, hd2, HM, HDL, HO, HB⟩ := hrel
                obtain ⟨xa, hxa⟩ : ∃ v, v = X.getD i 0 := ⟨_, rfl⟩
                obtain ⟨xb, hxb⟩ : ∃ v, v = B.getD k 0 := ⟨_, rfl⟩
                have HXA : Hid (X.getD i 0 = xa) := Lib.hid hxa.symm
                have HXB : Hid (B.getD k 0 = xb) := Lib.hid hxb.symm
                have C1 : Hid (i < n → ∃ b o, ad = some ⟨b, o, none⟩ ∧ wr.cell? ⟨b, o + i, none⟩ = some (.int .i64 (xa : Int))) := Lib.hid (fun h => by
                  have hRw := HRX4.out.below (Nat.le_refl _) HB.out
                  obtain ⟨b, o, e⟩ := hRw.some_ (by omega)
                  refine ⟨b, o, e, ?_⟩
                  rw [e] at hRw
                  rw [hxa]; exact lv_cell hRw i (by rw [HNN.out]; exact h))
                have C2 : Hid (k < q → ∃ b o, pa = some ⟨b, o, none⟩ ∧ wr.cell? ⟨b, o + k, none⟩ = some (.int .i64 (xb : Int))) := Lib.hid (fun h => by
                  have hRw := HPF.out.below (Nat.le_refl _) HB.out
                  obtain ⟨b, o, e⟩ := hRw.some_ (by omega)
                  refine ⟨b, o, e, ?_⟩
                  rw [e] at hRw
                  rw [hxb]; exact lv_cell hRw k (by rw [HBN.out]; exact h))
                clear hxa hxb
                by_cases hk : k < q
                · have hki : (k : Int) < (q : Int) := by omega
                  have d1 : decide ((q : Int) ≤ (k : Int)) = false := by simp; omega
                  have d1n : decide (q ≤ k) = false := by simp; omega
                  obtain ⟨bb_, bo, rfl, c2⟩ := C2.out hk
                  by_cases hi : i < n
                  · have hii : (i : Int) < (n : Int) := by omega
                    have d2 : decide ((i : Int) < (n : Int)) = true := by simp; omega
                    have d2n : decide (i < n) = true := by simp; omega
                    obtain ⟨xb_, xo, rfl, c1⟩ := C1.out hi
                    clear C1 C2
                    by_cases hx : xa ≤ xb
                    · as_aux_lemma =>
                      have d3 : decide ((xa : Int) ≤ (xb : Int)) = true := by simp; omega
                      have d3n : decide (xa ≤ xb) = true := by simp; omega
                      go_wp2_with fail
                      go_quiet (fail)
                      have HO5 : Hid (OwnV 3 w4.heap.size (wr.drewN nq) (.slice ra d rc) (lv D)) := HO
                      have HB5 : Hid (Below w4.heap.size w4 (wr.drewN nq)) := Lib.hid (HB.out.trans (L3.quiet_any wr nq))
                      have c1' : (wr.drewN nq).cell? ⟨xb_, xo + i, none⟩ = some (.int .i64 (xa : Int)) := c1
                      clear HO HB c1 c2 d1 d1n d2 d2n d3 d3n
                      generalize wr.drewN nq = w5 at *

                      have HD2 : Hid (Mrgs X B (i + 1) k (D ++ [xa])) := Lib.hid (by have := HM.out.leaf (by rw [HNN.out]; omega) (fun _ => by rw [HXA.out, HXB.out]; exact hx); rwa [HXA.out] at this)
                      have HLT : Hid ((lv D).length = d) := Lib.hid (by rw [lv_len]; exact HDL.out)
                      have HR2 : Hid (RowIn (w5.alloc (.cells #[.int .i64 (xa : Int)] 3)) (some ⟨w5.heap.size, 0, none⟩) 1 1 (lv [xa])) := Lib.hid (lit_row w5 xa)
                      have HO2 : Hid (OwnV 3 w4.heap.size (w5.alloc (.cells #[.int .i64 (xa : Int)] 3)) (.slice ra d rc) (lv D)) := Lib.hid (HO5.out.below (Nat.le_refl _) ((Below.refl _ w5).alloc (Nat.le_refl _) _))
                      have HB2 : Hid (Below w4.heap.size w4 (w5.alloc (.cells #[.int .i64 (xa : Int)] 3))) := Lib.hid (HB5.out.alloc HB5.out.size _)
                      clear HO5 HB5 HM
                      go_wp2_with (at_builtin; refine wpList_append_row (by rfl) (.tmp 124) (.tmp 129) 22 rfl w4.heap.size 3 (.int .i64 0) 8 Try.underlying22 info_int' rfl (.slice ra d rc) (lv D) rfl HO2.out (some ⟨w5.heap.size, 0, none⟩) 1 1 (lv [xa]) rfl HR2.out (lv_one _) (by rw [HLT.out]; omega) (by rw [HLT.out]; omega) HB2.out.size ?_)
                      intro a7 c7 w7 hown hgrow _
                      rw [HLT.out] at hown ⊢
                      rw [← lv_append] at hown
                      have HO7 := Lib.hid hown
                      have HB7 := Lib.hid (HO2.out.grown HB2.out hgrow HB2.out.size)
                      have HDL2 : Hid ((D ++ [xa]).length = d + 1) := Lib.hid (by rw [List.length_append, HDL.out]; rfl)
                      clear hown hgrow HO2 HB2 HR2 HDL HLT
                      go_wp2_with fail
                      go_roundw
                      case measure => simp [intOf]; omega
                      case rel => exact ⟨i + 1, k, d + 1, a7, c7, D ++ [xa], by simp, by simp, by simp, by omega, by omega, by omega, by omega, HD2, HDL2, HO7, HB7⟩

                    · as_aux_lemma =>
                      have d3 : decide ((xa : Int) ≤ (xb : Int)) = false := by simp; omega
                      have d3n : decide (xa ≤ xb) = false := by simp; omega
                      go_wp2_with fail
                      go_quiet (fail)
                      have HO5 : Hid (OwnV 3 w4.heap.size (wr.drewN nq) (.slice ra d rc) (lv D)) := HO
                      have HB5 : Hid (Below w4.heap.size w4 (wr.drewN nq)) := Lib.hid (HB.out.trans (L3.quiet_any wr nq))
                      have c2' : (wr.drewN nq).cell? ⟨bb_, bo + k, none⟩ = some (.int .i64 (xb : Int)) := c2
                      clear HO HB c1 c2 d1 d1n d2 d2n d3 d3n
                      generalize wr.drewN nq = w5 at *

                      have HD2 : Hid (Mrgs X B i (k + 1) (D ++ [xb])) := Lib.hid (by have := HM.out.pack (by rw [HBN.out]; omega) (fun _ => by rw [HXA.out, HXB.out]; omega); rwa [HXB.out] at this)
                      have HLT : Hid ((lv D).length = d) := Lib.hid (by rw [lv_len]; exact HDL.out)
                      have HR2 : Hid (RowIn (w5.alloc (.cells #[.int .i64 (xb : Int)] 3)) (some ⟨w5.heap.size, 0, none⟩) 1 1 (lv [xb])) := Lib.hid (lit_row w5 xb)
                      have HO2 : Hid (OwnV 3 w4.heap.size (w5.alloc (.cells #[.int .i64 (xb : Int)] 3)) (.slice ra d rc) (lv D)) := Lib.hid (HO5.out.below (Nat.le_refl _) ((Below.refl _ w5).alloc (Nat.le_refl _) _))
                      have HB2 : Hid (Below w4.heap.size w4 (w5.alloc (.cells #[.int .i64 (xb : Int)] 3))) := Lib.hid (HB5.out.alloc HB5.out.size _)
                      clear HO5 HB5 HM
                      go_wp2_with (at_builtin; refine wpList_append_row (by rfl) (.tmp 133) (.tmp 138) 22 rfl w4.heap.size 3 (.int .i64 0) 8 Try.underlying22 info_int' rfl (.slice ra d rc) (lv D) rfl HO2.out (some ⟨w5.heap.size, 0, none⟩) 1 1 (lv [xb]) rfl HR2.out (lv_one _) (by rw [HLT.out]; omega) (by rw [HLT.out]; omega) HB2.out.size ?_)
                      intro a7 c7 w7 hown hgrow _
                      rw [HLT.out] at hown ⊢
                      rw [← lv_append] at hown
                      have HO7 := Lib.hid hown
                      have HB7 := Lib.hid (HO2.out.grown HB2.out hgrow HB2.out.size)
                      have HDL2 : Hid ((D ++ [xb]).length = d + 1) := Lib.hid (by rw [List.length_append, HDL.out]; rfl)
                      clear hown hgrow HO2 HB2 HR2 HDL HLT
                      go_wp2_with fail
                      go_roundw
                      case measure => simp [intOf]; omega
                      case rel => exact ⟨i, k + 1, d + 1, a7, c7, D ++ [xb], by simp, by simp, by simp, by omega, by omega, by omega, by omega, HD2, HDL2, HO7, HB7⟩

                  · as_aux_lemma =>
                    have hii : ¬ (i : Int) < (n : Int) := by omega
                    have d2 : decide ((i : Int) < (n : Int)) = false := by simp; omega
                    have d2n : decide (i < n) = false := by simp; omega
                    clear C1 C2
                    go_wp2_with fail
                    go_quiet (fail)
                    have HO5 : Hid (OwnV 3 w4.heap.size (wr.drewN nq) (.slice ra d rc) (lv D)) := HO
                    have HB5 : Hid (Below w4.heap.size w4 (wr.drewN nq)) := Lib.hid (HB.out.trans (L3.quiet_any wr nq))
                    have c2' : (wr.drewN nq).cell? ⟨bb_, bo + k, none⟩ = some (.int .i64 (xb : Int)) := c2
                    clear HO HB c2 d1 d1n d2 d2n
                    generalize wr.drewN nq = w5 at *

                    have HD2 : Hid (Mrgs X B i (k + 1) (D ++ [xb])) := Lib.hid (by have := HM.out.pack (by rw [HBN.out]; omega) (fun h => by have := HNN.out; omega); rwa [HXB.out] at this)
                    have HLT : Hid ((lv D).length = d) := Lib.hid (by rw [lv_len]; exact HDL.out)
                    have HR2 : Hid (RowIn (w5.alloc (.cells #[.int .i64 (xb : Int)] 3)) (some ⟨w5.heap.size, 0, none⟩) 1 1 (lv [xb])) := Lib.hid (lit_row w5 xb)
                    have HO2 : Hid (OwnV 3 w4.heap.size (w5.alloc (.cells #[.int .i64 (xb : Int)] 3)) (.slice ra d rc) (lv D)) := Lib.hid (HO5.out.below (Nat.le_refl _) ((Below.refl _ w5).alloc (Nat.le_refl _) _))
                    have HB2 : Hid (Below w4.heap.size w4 (w5.alloc (.cells #[.int .i64 (xb : Int)] 3))) := Lib.hid (HB5.out.alloc HB5.out.size _)
                    clear HO5 HB5 HM
                    go_wp2_with (at_builtin; refine wpList_append_row (by rfl) (.tmp 133) (.tmp 138) 22 rfl w4.heap.size 3 (.int .i64 0) 8 Try.underlying22 info_int' rfl (.slice ra d rc) (lv D) rfl HO2.out (some ⟨w5.heap.size, 0, none⟩) 1 1 (lv [xb]) rfl HR2.out (lv_one _) (by rw [HLT.out]; omega) (by rw [HLT.out]; omega) HB2.out.size ?_)
                    intro a7 c7 w7 hown hgrow _
                    rw [HLT.out] at hown ⊢
                    rw [← lv_append] at hown
                    have HO7 := Lib.hid hown
                    have HB7 := Lib.hid (HO2.out.grown HB2.out hgrow HB2.out.size)
                    have HDL2 : Hid ((D ++ [xb]).length = d + 1) := Lib.hid (by rw [List.length_append, HDL.out]; rfl)
                    clear hown hgrow HO2 HB2 HR2 HDL HLT
                    go_wp2_with fail
                    go_roundw
                    case measure => simp [intOf]; omega
                    case rel => exact ⟨i, k + 1, d + 1, a7, c7, D ++ [xb], by simp, by simp, by simp, by omega, by omega, by omega, by omega, HD2, HDL2, HO7, HB7⟩

                · have hki : ¬ (k : Int) < (q : Int) := by omega
                  by_cases hi : i < n
                  · as_aux_lemma =>
                    have hii : (i : Int) < (n : Int) := by omega
                    have d1 : decide ((q : Int) ≤ (k : Int)) = true := by simp; omega
                    have d1n : decide (q ≤ k) = true := by simp; omega
                    obtain ⟨xb_, xo, rfl, c1⟩ := C1.out hi
                    clear C1 C2
                    go_wp2_with fail
                    go_quiet (fail)
                    have HO5 : Hid (OwnV 3 w4.heap.size (wr.drewN nq) (.slice ra d rc) (lv D)) := HO
                    have HB5 : Hid (Below w4.heap.size w4 (wr.drewN nq)) := Lib.hid (HB.out.trans (L3.quiet_any wr nq))
                    have c1' : (wr.drewN nq).cell? ⟨xb_, xo + i, none⟩ = some (.int .i64 (xa : Int)) := c1
                    clear HO HB c1 d1 d1n
                    generalize wr.drewN nq = w5 at *

                    have HD2 : Hid (Mrgs X B (i + 1) k (D ++ [xa])) := Lib.hid (by have := HM.out.leaf (by rw [HNN.out]; omega) (fun h => by have := HBN.out; omega); rwa [HXA.out] at this)
                    have HLT : Hid ((lv D).length = d) := Lib.hid (by rw [lv_len]; exact HDL.out)
                    have HR2 : Hid (RowIn (w5.alloc (.cells #[.int .i64 (xa : Int)] 3)) (some ⟨w5.heap.size, 0, none⟩) 1 1 (lv [xa])) := Lib.hid (lit_row w5 xa)
                    have HO2 : Hid (OwnV 3 w4.heap.size (w5.alloc (.cells #[.int .i64 (xa : Int)] 3)) (.slice ra d rc) (lv D)) := Lib.hid (HO5.out.below (Nat.le_refl _) ((Below.refl _ w5).alloc (Nat.le_refl _) _))
                    have HB2 : Hid (Below w4.heap.size w4 (w5.alloc (.cells #[.int .i64 (xa : Int)] 3))) := Lib.hid (HB5.out.alloc HB5.out.size _)
                    clear HO5 HB5 HM
                    go_wp2_with (at_builtin; refine wpList_append_row (by rfl) (.tmp 124) (.tmp 129) 22 rfl w4.heap.size 3 (.int .i64 0) 8 Try.underlying22 info_int' rfl (.slice ra d rc) (lv D) rfl HO2.out (some ⟨w5.heap.size, 0, none⟩) 1 1 (lv [xa]) rfl HR2.out (lv_one _) (by rw [HLT.out]; omega) (by rw [HLT.out]; omega) HB2.out.size ?_)
                    intro a7 c7 w7 hown hgrow _
                    rw [HLT.out] at hown ⊢
                    rw [← lv_append] at hown
                    have HO7 := Lib.hid hown
                    have HB7 := Lib.hid (HO2.out.grown HB2.out hgrow HB2.out.size)
                    have HDL2 : Hid ((D ++ [xa]).length = d + 1) := Lib.hid (by rw [List.length_append, HDL.out]; rfl)
                    clear hown hgrow HO2 HB2 HR2 HDL HLT
                    go_wp2_with fail
                    go_roundw
                    case measure => simp [intOf]; omega
                    case rel => exact ⟨i + 1, k, d + 1, a7, c7, D ++ [xa], by simp, by simp, by simp, by omega, by omega, by omega, by omega, HD2, HDL2, HO7, HB7⟩

                  · have hii : ¬ (i : Int) < (n : Int) := by omega
                    have hin' : i = n := by omega
                    have hkq' : k = q := by omega
                    have HDE : Hid (D = rw_ X (m + 1)) := Lib.hid (by
                      have h := HM.out
                      rw [hin', hkq', ← HNN.out, ← HBN.out] at h
                      rw [h.end_, HNX.out])
                    have HRN : Hid (RowIn wr ra d rc (lv (rw_ X (m + 1)))) := Lib.hid (by rw [← HDE.out]; exact HO.out.rowIn (by rw [lv_len, HDL.out]))
                    have HBN2 := Lib.hid (HB4.out.trans (HB.out.mono HB4.out.size))
                    clear C1 C2 HM HO HB HDE hin' hkq' HDL HXA HXB
                    go_wp2_with fail
                    go_roundw
                    case measure => simp [intOf]; omega
                    case rel => exact ⟨m + 1, d, ra, rc, by simp, by simp, by omega, HRN, HBN2⟩
        · have hlti : ¬ (m : Int) < (M : Int) := by omega
          obtain rfl : m = M := by omega
          obtain ⟨L, hL⟩ : ∃ L, L + 1 = m := ⟨m - 1, by omega⟩
          have HRE : Hid (rw_ X m = ws (lvl X (m - 1))) := Lib.hid (by rw [← hL]; rfl)
          have HRB : Hid (∀ j, (rw_ X m).getD j 0 ≤ 17592186044416) := Lib.hid (rw_mem X HMEM.out m (by omega))
          obtain ⟨n2, hn22⟩ : ∃ n2, n2 = 2 * n := ⟨_, rfl⟩
          obtain ⟨L2, hL2⟩ : ∃ L2, L2 = 2 * n - 2 := ⟨_, rfl⟩
          have HL2 : Hid (L2 = 2 * X.length - 2) := Lib.hid (by rw [HNN.out, hL2])
          have hlr : L2 ≤ rl := by
            have := lvl_enough X (m - 1) (by rw [HNN.out, show m - 1 + 1 = m by omega]; exact hnN.out)
            rw [← ws_len, ← HRE.out, HRL.out, HNN.out] at this
            omega
          have HBF := Lib.hid (HBW.out.trans (HB.out.mono HBW.out.size))
          have HGOAL : Hid (((ws (lvl X (m - 1))).take (2 * X.length - 2)).sum = ((rw_ X m).take L2).sum) := Lib.hid (by rw [HRE.out, HL2.out])
          clear hL HRE HMEM hnN HNN HRX HL2 HB HBW hrl
          have HTB : Hid (∀ i, ((rw_ X m).take i).sum ≤ i * 17592186044416) := Lib.hid (take_sum_le _ _ HRB.out)
          have HTS : Hid (∀ i, ((rw_ X m).take (i + 1)).sum = ((rw_ X m).take i).sum + (rw_ X m).getD i 0) := Lib.hid (take_sum_succ _)
          generalize rw_ X m = R at *
          obtain ⟨w9, hw9⟩ : ∃ w9, w9 = wr := ⟨_, rfl⟩
          rw [← hw9] at HRR HBF ⊢
          clear hw9
          have e1 : (2 : Int) * (n : Int) = (n2 : Int) := by omega
          have e2 : (n2 : Int) - 2 = (L2 : Int) := by omega
          have e3 : IntKind.i64.wrap ((2 : Int) * (n : Int)) = (n2 : Int) := by rw [IntKind.wrap_i64]; omega
          have e4 : IntKind.i64.wrap ((n2 : Int) - 2) = (L2 : Int) := by rw [IntKind.wrap_i64]; omega
          have hL28 : L2 ≤ 800 := by omega
          have hn28 : n2 ≤ 800 := by omega
          clear hn22 hL2
          go_wp2_with fail
          go_loopw [15, 14] (fun s t wr2 => ∃ (i y q : Nat), s = .int .i64 (i : Int) ∧ t = .int .i64 (y : Int) ∧ i ≤ L2 ∧ Hid (y = (R.take i).sum) ∧ Hid (wr2 = w9.drewN q)) (fun s _ _ => L2 - (intOf s).toNat)
          case atStart => exact ⟨0, 0, 0, rfl, rfl, Nat.zero_le _, Lib.hid (by simp), Lib.hid rfl⟩
          case round =>
            obtain ⟨i, y, q, rfl, rfl, hi, HY, HW⟩ := hrel
            by_cases hlt : i < L2
            · have hlti : (i : Int) < (L2 : Int) := by omega
              have hlti2 : (i : Int) < (rl : Int) := by omega
              obtain ⟨ib, io, rfl⟩ := HRR.out.some_ (by omega)
              obtain ⟨z, hz⟩ : ∃ z, z = R.getD i 0 := ⟨_, rfl⟩
              have c1 : wr.cell? ⟨ib, io + i, none⟩ = some (.int .i64 (z : Int)) := by
                rw [HW.out, drewN_cell, hz]; exact lv_cell HRR.out i (by rw [HRL.out]; omega)
              have hzb : z ≤ 17592186044416 := by rw [hz]; exact HRB.out i
              have hyb : y ≤ 14073748835532800 := by
                have := HTB.out i
                rw [← HY.out] at this
                omega
              have HY2 : Hid (y + z = (R.take (i + 1)).sum) := Lib.hid (by rw [HTS.out, ← HY.out, hz])
              clear hz
              go_wp2_with fail
              go_roundw
              case measure => simp [intOf]; omega
              case rel => exact ⟨i + 1, y + z, q, by simp, by simp, by omega, HY2, HW⟩
            · have hlti : ¬ (i : Int) < (L2 : Int) := by omega
              obtain rfl : i = L2 := by omega
              go_wp2_with fail
              go_ret
              exact ⟨(by rw [HGOAL.out, ← HY.out]; first | done | rfl), by rw [HW.out]; exact HBF.out.trans (L3.quiet_any w9 q)⟩
end Go.Proofs.Ytmfnncachaejgaa.PkC
