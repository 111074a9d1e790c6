/-
  stevedorelaw9.PackEven.
-/
import Derived.Test.YtmfnncachaejgaaPkTold
import Derived.Test.YtmfnncachaejgaaPkRc
namespace Go.Proofs.Ytmfnncachaejgaa.PkC
open Go.Shelf Go.RowKit Go.My PackMath

theorem quiet_e {B : Nat} (w : World) (q : Nat) : Below B w (w.drewN q) := ⟨rfl, rfl, rfl, Nat.le_refl _, fun _ _ => rfl⟩
theorem rep_map (k v : Nat) : (List.replicate k v).map (fun x => Value.int .i64 ((x : Nat) : Int)) = lv (List.replicate k v) := rfl
/-- What Lengths makes of k counts alike. -/
theorem even_lens {k v : Nat} {ord lens : List Nat} (hk2 : 2 ≤ k) (hk3 : k ≤ 300) (hv : 0 < v) (h : Lens (List.replicate k v) 14 ord lens) :
    lens.length = k ∧ ∃ lo hi, (∀ i, i < k → lo ≤ lens.getD i 0 ∧ lens.getD i 0 ≤ hi) ∧ (∃ i, i < k ∧ lens.getD i 0 = lo) ∧ (∃ i, i < k ∧ lens.getD i 0 = hi) ∧ hi ≤ lo + 1 ∧ hi ≤ 15 ∧ ∀ g, k ≤ 2 ^ g → (∀ i, i < g → 2 ^ i < k) → hi = g ∧ (k = 2 ^ g → lo = hi) := by
  have hcl : (List.replicate k v).length = k := by simp
  have hg : ∀ i, i < k → (List.replicate k v).getD i 0 = v := fun i hi => by simp [List.getD_eq_getElem?_getD, hi]
  obtain ⟨o1, o2, o3, o4⟩ := ord_facts h.perm
  have hps : pos (List.replicate k v) k = List.range k := by
    unfold pos
    rw [List.filter_eq_self]
    intro i hi
    have := List.mem_range.1 hi
    rw [hg i this]; exact decide_eq_true hv
  rw [hcl, hps, List.length_range] at o4
  obtain ⟨A, hA⟩ : ∃ A, A = ord.map ((List.replicate k v).getD · 0) := ⟨_, rfl⟩
  have hAl : A.length = k := by rw [hA, List.length_map, o4]
  have he : ∀ j, j < A.length → A.getD j 0 = v := fun j hj => by
    rw [hA, map_getD _ _ _ (by omega), hg _ (by have := (o1 j (by omega)).1; omega)]
  have hS : Srt A := by rw [hA]; exact h.srt
  have h2 : 2 ≤ A.length := by omega
  have hn : A.length ≤ 2 ^ (14 + 1) := by rw [hAl]; omega
  have hh := h.has
  rw [← hA] at hh
  have hh2 : ∀ j, j < k → lens.getD (ord.getD j 0) 0 = PackMath.len A 14 j := fun j hj => by
    have := hh j (by omega)
    unfold lfin at this
    rwa [if_neg (by omega)] at this
  have hs : ∀ i, i < k → ∃ j, j < k ∧ lens.getD i 0 = PackMath.len A 14 j := fun i hi => by
    obtain ⟨j, hj, e⟩ := o3 i (by omega) (by rw [hg i hi]; exact hv)
    exact ⟨j, by omega, by rw [← e]; exact hh2 j (by omega)⟩
  refine ⟨by rw [h.size, hcl], PackMath.len A 14 (k - 1), PackMath.len A 14 0, fun i hi => ?_, ⟨ord.getD (k - 1) 0, ?_, hh2 _ (by omega)⟩, ⟨ord.getD 0 0, ?_, hh2 _ (by omega)⟩, ?_, len_le _, fun g g1 g2 => ?_⟩
  · obtain ⟨j, hj, e⟩ := hs i hi
    rw [e]
    exact ⟨len_mono (by omega), len_mono (by omega)⟩
  · have := (o1 (k - 1) (by omega)).1; omega
  · have := (o1 0 (by omega)).1; omega
  · have := even_apart hS (by omega) h2 hn hv he
    rw [hAl] at this; exact this
  · have := even_high hS (by omega) h2 hn hv he g (by omega) (fun i hi => by rw [hAl]; exact g2 i hi)
    rw [hAl] at this
    exact ⟨this.1, fun e => by rw [this.2 e, this.1]⟩
theorem even_fine (k v : Nat) (hk : k ≤ 300) (hv : v ≤ 1024) : Fine ((List.replicate k v).map fun (x : Nat) => (x : Int)) 15 := by
  refine ⟨by simp; omega, by omega, by omega, fun z hz => ?_, ?_⟩
  · obtain ⟨x, hx, rfl⟩ := List.mem_map.1 hz
    have := List.eq_of_mem_replicate hx
    subst this
    omega
  · refine Nat.le_trans (pos_len _ _) ?_
    simp
    omega
theorem nat_back (l : List Nat) : (l.map fun (x : Nat) => (x : Int)).map Int.toNat = l := by
  rw [List.map_map]
  conv => rhs; rw [← List.map_id l]
  refine List.map_congr_left fun x _ => ?_
  simp
theorem lv_ints (l : List Nat) : lv l = (l.map fun (x : Nat) => (x : Int)).map fun z => Value.int .i64 z := by
  unfold lv; rw [List.map_map]; rfl

theorem un_nat (n : Int) : ∃ u : Nat, IntKind.u64.wrap n = (u : Int) := by
  have : 0 ≤ IntKind.u64.wrap n := by
    simp only [IntKind.wrap, IntKind.bits, IntKind.signed]
    simp
    omega
  exact ⟨(IntKind.u64.wrap n).toNat, by omega⟩
theorem un_mod (n : Int) (m : Nat) (h0 : 0 < m) : ∃ r : Nat, r < m ∧ (IntKind.u64.wrap n).tmod (m : Int) = (r : Int) := by
  obtain ⟨u, hu⟩ := un_nat n
  rw [hu]
  exact ⟨u % m, Nat.mod_lt _ h0, rfl⟩
set_option maxRecDepth 100000 in
set_option maxHeartbeats 8000000 in
theorem even_law (n c : Int) (w : World) : Calls Try.prog 7 #[.int .i64 n, .int .i64 c] w fun e w' => e = .returned (.bool true) ∧ Below w.heap.size w w' := by
  obtain ⟨r, hr, e0⟩ := un_mod n 299 (by omega)
  have e0 : (IntKind.u64.wrap n).tmod 299 = (r : Int) := e0
  obtain ⟨k, hk⟩ : ∃ k, k = 2 + r := ⟨_, rfl⟩
  have e1 : 2 + (r : Int) = (k : Int) := by omega
  have hk2 : 2 ≤ k := by omega
  have hk3 : k ≤ 300 := by omega
  have hr2 : r ≤ 298 := by omega
  obtain ⟨v, hv⟩ : ∃ v, v = 1 + (c % 1024).toNat := ⟨_, rfl⟩
  have hv1 : 0 < v := by omega
  have hv2 : v ≤ 1024 := by omega
  have e2 : bits .and .i64 c 1023 = ((v - 1 : Nat) : Int) := by
    rw [i64_and_mask c 10 (by omega) 1023 1024 rfl rfl]; omega
  have HV1 := Lib.hid hv1
  obtain ⟨u, hu⟩ : ∃ u, u = v - 1 := ⟨_, rfl⟩
  rw [← hu] at e2
  have e3 : 1 + (u : Int) = (v : Int) := by omega
  have hu2 : u ≤ 1023 := by omega
  clear hk hv hv1 hu hr
  go_enter Try.func7, Try.ntmps7
  go_wp2_with fail
  clear e0 e1
  have HST : Hid (OwnV 3 w.heap.size w (.slice none 0 0) (lv (List.replicate 0 v))) := Lib.hid (OwnV.nil _ _ _)
  go_loopw [7, 6] (fun s t wr => ∃ (i : Nat) (ad : Option Addr) (c : Nat), s = .int .i64 (i : Int) ∧ t = .slice ad i c ∧ i ≤ k ∧ Hid (OwnV 3 w.heap.size wr (.slice ad i c) (lv (List.replicate i v))) ∧ Hid (Below w.heap.size w wr)) (fun s _ _ => k - (intOf s).toNat)
  case atStart => exact ⟨0, none, 0, rfl, rfl, Nat.zero_le _, HST, Lib.hid (Below.refl _ _)⟩
  case round =>
    clear HST
    obtain ⟨i, ad, cc, rfl, rfl, hi, HO, HB⟩ := hrel
    by_cases hlt : i < k
    · as_aux_lemma =>
      have hlti : (i : Int) < (k : Int) := by omega
      have HTK : Hid (lv (List.replicate (i + 1) v) = lv (List.replicate i v) ++ lv [v]) := Lib.hid (by rw [List.replicate_succ', lv_append])
      have HLT : Hid ((lv (List.replicate i v)).length = i) := Lib.hid (by rw [lv_len, List.length_replicate])
      generalize lv (List.replicate i v) = D at *
      have HR2 : Hid (RowIn (wr.alloc (.cells #[.int .i64 (v : Int)] 3)) (some ⟨wr.heap.size, 0, none⟩) 1 1 (lv [v])) := Lib.hid (lit_row wr v)
      have HO2 : Hid (OwnV 3 w.heap.size (wr.alloc (.cells #[.int .i64 (v : Int)] 3)) (.slice ad i cc) D) := Lib.hid (HO.out.below (Nat.le_refl _) ((Below.refl _ wr).alloc (Nat.le_refl _) _))
      have HB2 : Hid (Below w.heap.size w (wr.alloc (.cells #[.int .i64 (v : Int)] 3))) := Lib.hid (HB.out.alloc HB.out.size _)
      clear HO HB
      go_wp2_with (at_builtin; refine wpList_append_row (by rfl) (.tmp 24) (.tmp 28) 22 rfl w.heap.size 3 (.int .i64 0) 8 Try.underlying22 info_int' rfl (.slice ad i cc) D rfl HO2.out (some ⟨wr.heap.size, 0, none⟩) 1 1 (lv [v]) rfl HR2.out (lv_one _) (by rw [HLT.out]; omega) (by rw [HLT.out]; omega) HB2.out.size ?_)
      intro a7 c7 w7 hown hgrow _
      rw [HLT.out] at hown ⊢
      rw [← HTK.out] at hown
      have HO7 := Lib.hid hown
      have HB7 := Lib.hid (HO2.out.grown HB2.out hgrow HB2.out.size)
      clear hown hgrow HO2 HB2 HR2
      go_wp2_with fail
      go_roundw
      case measure => simp [intOf]; omega
      case rel => exact ⟨i + 1, a7, c7, by simp, by simp, by omega, HO7, HB7⟩
    · have hlti : ¬ (i : Int) < (k : Int) := by omega
      obtain rfl : i = k := by omega
      have HR : Hid (RowIn wr ad i cc ((List.replicate i v).map (fun (x : Nat) => (x : Int)) |>.map fun z => Value.int .i64 z)) := Lib.hid (by
        rw [← lv_ints]
        exact HO.out.rowIn (by rw [lv_len, List.length_replicate]))
      have HFI : Hid (Fine ((List.replicate i v).map fun (x : Nat) => (x : Int)) 15) := Lib.hid (even_fine i v hk3 hv2)
      clear hlt HO e2 e3 hu2 hr2 hv2 hi
      go_wp2_with fail
      refine (lengths_all _ ad i cc 15 wr HR.out).mono ?_
      rintro e w3 ⟨hret, hb⟩
      obtain ⟨va, ord, lens, rfl, hL, hO⟩ := hret.2 HFI.out
      rw [nat_back] at hL
      obtain ⟨hll, lo, hi, q1, q2, q3, q4, q5, q6⟩ := even_lens hk2 hk3 HV1.out hL
      obtain ⟨oa, oc, rfl, hoR⟩ := hO.row
      rw [lv_len, hll] at hoR ⊢
      have HRL := Lib.hid hoR
      have HB3 := Lib.hid (HB.out.trans (hb.mono HB.out.size))
      have HLL := Lib.hid hll
      have HQ1 := Lib.hid q1
      have HQ2 := Lib.hid q2
      have HQ3 := Lib.hid q3
      have HQ6 := Lib.hid q6
      obtain ⟨a0, ha0⟩ : ∃ x, x = lens.getD 0 0 := ⟨_, rfl⟩
      have h00 := q1 0 (by omega)
      rw [← ha0] at h00
      have HA0 := Lib.hid ha0
      clear hret hb hL hO hoR hll q1 q2 q3 q6 ha0 HB HR HFI
      obtain ⟨b, o, rfl⟩ := HRL.out.some_ (by omega)
      have c1 : w3.cell? ⟨b, o, none⟩ = some (.int .i64 (a0 : Int)) := by
        have := lv_cell HRL.out 0 (by rw [HLL.out]; omega)
        rw [← HA0.out] at this
        exact this
      have hk0 : (0 : Int) < (i : Int) := by omega
      have hk0n : 0 < i := by omega
      generalize i = k at *
      go_wp2_with fail
      go_quiet (fail)
      have HR4 : Hid (RowIn (w3.drewN nq) (some ⟨b, o, none⟩) k oc (lv lens)) := Lib.hid (HRL.out.below (Nat.le_refl _) (quiet_e _ _))
      have HB4 : Hid (Below w.heap.size w (w3.drewN nq)) := Lib.hid (HB3.out.trans (quiet_e _ _))
      clear HRL HB3 c1
      generalize w3.drewN nq = w4 at *
      go_wp2_with fail
      go_loopw [12, 10, 11] (fun s s10 s11 wr => ∃ (i x y q : Nat), s = .int .i64 (i : Int) ∧ s10 = .int .i64 (x : Int) ∧ s11 = .int .i64 (y : Int) ∧ i ≤ k ∧ lo ≤ x ∧ y ≤ hi ∧ x ≤ 15 ∧ Hid ((∀ j, j < i → x ≤ lens.getD j 0) ∧ (∀ j, j < i → lens.getD j 0 ≤ y)) ∧ Hid (wr = w4.drewN q)) (fun s _ _ _ => k - (intOf s).toNat)
      case atStart => exact ⟨0, a0, a0, 0, rfl, rfl, rfl, Nat.zero_le _, h00.1, h00.2, by omega, Lib.hid ⟨fun j hj => by omega, fun j hj => by omega⟩, Lib.hid rfl⟩
      case round =>
        obtain ⟨i, x, y, q, rfl, rfl, rfl, hik, hx, hy, hx15, HF, HW⟩ := hrel
        by_cases hlt : i < k
        · have hlti : (i : Int) < (k : Int) := by omega
          obtain ⟨z, hz⟩ : ∃ z, z = lens.getD i 0 := ⟨_, rfl⟩
          have c1 : wr.cell? ⟨b, o + i, none⟩ = some (.int .i64 (z : Int)) := by
            rw [HW.out, drewN_cell, hz]
            exact lv_cell HR4.out i (by rw [HLL.out]; exact hlt)
          have hz2 := HQ1.out i hlt
          rw [← hz] at hz2
          have HZ := Lib.hid hz
          clear hz
          have key : ∀ x' y' : Nat, x' = min x z → y' = max y z → Hid ((∀ j, j < i + 1 → x' ≤ lens.getD j 0) ∧ (∀ j, j < i + 1 → lens.getD j 0 ≤ y')) := by
            intro x' y' h1 h2
            refine Lib.hid ⟨fun j hj => ?_, fun j hj => ?_⟩
            · by_cases e : j = i
              · rw [e, ← HZ.out]; omega
              · have := HF.out.1 j (by omega); omega
            · by_cases e : j = i
              · rw [e, ← HZ.out]; omega
              · have := HF.out.2 j (by omega); omega
          have KEY := Lib.hid key
          clear key
          obtain ⟨x2, hx2⟩ : ∃ x2, x2 = min x z := ⟨_, rfl⟩
          obtain ⟨y2, hy2⟩ : ∃ y2, y2 = max y z := ⟨_, rfl⟩
          have HF2 := KEY.out x2 y2 hx2 hy2
          have e1 : (if z < x then (z : Int) else (x : Int)) = (x2 : Int) := by split <;> omega
          have e2 : (if y < z then (z : Int) else (y : Int)) = (y2 : Int) := by split <;> omega
          have e3 : (if (z : Int) < (x : Int) then (z : Int) else (x : Int)) = (x2 : Int) := by split <;> omega
          have e4 : (if (y : Int) < (z : Int) then (z : Int) else (y : Int)) = (y2 : Int) := by split <;> omega
          have hb3 : lo ≤ x2 ∧ y2 ≤ hi ∧ x2 ≤ 15 := by omega
          have HY2 := Lib.hid hy2
          have HX2 := Lib.hid hx2
          clear hx2 hy2 KEY HF
          go_wp2_with fail
          go_quiet (fail)
          have HW2 : Hid (wr.drewN nq = w4.drewN (q + nq)) := Lib.hid (by rw [HW.out, World.drewN_drewN])
          clear HW c1 e1 e2 e3 e4
          generalize wr.drewN nq = w5 at *
          go_wp2_with fail
          go_roundw
          case measure => simp [intOf]; omega
          case rel => exact ⟨i + 1, x2, y2, q + nq, by simp, by (have := HX2.out; congr 1; omega), by (have := HY2.out; congr 1; omega), by omega, hb3.1, hb3.2.1, hb3.2.2, HF2, HW2⟩
        · have hlti : ¬ (i : Int) < (k : Int) := by omega
          obtain rfl : x = lo := by
            obtain ⟨j, hj, e⟩ := HQ2.out
            have := HF.out.1 j (by omega)
            omega
          obtain rfl : y = hi := by
            obtain ⟨j, hj, e⟩ := HQ3.out
            have := HF.out.2 j (by omega)
            omega
          have HB5 : Hid (Below w.heap.size w wr) := Lib.hid (by rw [HW.out]; exact HB4.out.trans (quiet_e _ _))
          clear HF HW HB4 HR4 HQ1 HQ2 HQ3 hlt
          go_wp2_with fail
          go_loopw [13] (fun s wr2 => ∃ h : Nat, s = .int .i64 (h : Int) ∧ h ≤ 9 ∧ Hid (∀ i, i < h → 2 ^ i < k) ∧ wr = wr2) (fun s _ => 10 - (intOf s).toNat)
          case atStart => exact ⟨0, rfl, Nat.zero_le _, Lib.hid (fun i hi => by omega), rfl⟩
          case round =>
            obtain ⟨h, rfl, hh9, HH, rfl⟩ := hrel
            obtain ⟨P, hP⟩ : ∃ P : Nat, P = 2 ^ h := ⟨_, rfl⟩
            have h98 : h ≤ 8 ∨ P = 512 := by
              by_cases h8 : h ≤ 8
              · exact .inl h8
              · have : h = 9 := by omega
                right
                rw [hP, this]
            have hP15 : P ≤ 512 := by have := Nat.pow_le_pow_right (show 0 < 2 by omega) hh9; omega
            have E1 : Hid (IntKind.i64.wrap ((2 : Int) ^ h) = (P : Int)) := Lib.hid (by
              have e0 : (2 : Int) ^ h = (P : Int) := by rw [hP]; push_cast; rfl
              rw [e0, IntKind.wrap_i64]; omega)
            have E2 : Hid (wrap64 ((2 : Int) ^ h) = (P : Int)) := Lib.hid (by
              have e0 : (2 : Int) ^ h = (P : Int) := by rw [hP]; push_cast; rfl
              rw [e0]; unfold wrap64; omega)
            have HP := Lib.hid hP
            by_cases hlt : P < k
            · as_aux_lemma =>
              have hlti : (P : Int) < (k : Int) := by omega
              have h9 : h ≤ 8 := by rcases h98 with h98 | h98 <;> omega
              clear hP
              have e1 := E1.out
              have e2 := E2.out
              go_wp2_with fail
              clear e1 e2
              go_roundw
              case measure => simp [intOf]; omega
              case rel => exact ⟨h + 1, by simp, by omega, Lib.hid (fun i hi => by
                by_cases e : i = h
                · rw [e, ← HP.out]; exact hlt
                · exact HH.out i (by omega)), by trivial⟩
            · have hlti : ¬ (P : Int) < (k : Int) := by omega
              obtain ⟨g1, g2⟩ := HQ6.out h (by omega) HH.out
              rw [← hP] at g2
              subst g1
              have e3 : IntKind.i64.wrap ((y : Int) - (x : Int)) = (y : Int) - (x : Int) := by rw [IntKind.wrap_i64]; omega
              have e4 : decide ((y : Int) - (x : Int) ≤ 1) = true := by simp; omega
              have HG2 := Lib.hid g2
              have HT := Lib.hid (told_any wr)
              clear hP g2
              by_cases hpk : k = P
              · have hxy := HG2.out hpk
                subst hxy
                have f1 : ((P : Int) != (k : Int)) = false := by simp [hpk]
                clear hpk
                have e1 := E1.out
                have e2 := E2.out
                go_wp2_with fail
                refine HT.out.mono ?_
                rintro e w6 ⟨rfl, hb⟩
                have HB6 := Lib.hid (HB5.out.trans (hb.mono HB5.out.size))
                clear hb HT HB5
                go_wp2_with fail
                go_ret
                exact ⟨by simp, HB6.out⟩
              · have f1 : ((P : Int) != (k : Int)) = true := by simp; omega
                clear hpk
                have e1 := E1.out
                have e2 := E2.out
                go_wp2_with fail
                refine HT.out.mono ?_
                rintro e w6 ⟨rfl, hb⟩
                have HB6 := Lib.hid (HB5.out.trans (hb.mono HB5.out.size))
                clear hb HT HB5
                go_wp2_with fail
                go_ret
                exact ⟨by simp, HB6.out⟩
end Go.Proofs.Ytmfnncachaejgaa.PkC
