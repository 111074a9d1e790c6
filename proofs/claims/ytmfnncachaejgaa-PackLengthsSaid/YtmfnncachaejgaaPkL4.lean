/-
  stevedorelaw9.PackAgainst.
-/
import Derived.Test.YtmfnncachaejgaaPkL3
import Derived.Test.YtmfnncachaejgaaCanDn
namespace Go.Proofs.Ytmfnncachaejgaa.PkC
open Go.Shelf Go.RowKit Go.My PackMath

/-- Two rows lie apart. -/
def Ap (v v3 : Value) : Prop := ∀ j, v.ownBlock = some j → v3.ownBlock ≠ some j
theorem Ap.symm {v v3 : Value} (h : Ap v v3) : Ap v3 v := fun j h1 h2 => h j h2 h1
theorem ap_after {E : TypeId} {base : Nat} {w : World} {v v3 v4 : Value} {vs : List Value} (h : OwnV E base w v vs) (hap : Ap v v3) (hn : Nxt v3.ownBlock w.heap.size v4.ownBlock) : Ap v v4 := by
  intro j hj e
  rcases hn with hn | ⟨k, hk, hk2⟩
  · exact hap j hj (hn ▸ e)
  · have := h.lt j hj
    rw [hk] at e; injection e with e; omega
theorem kept_ap {E : TypeId} {base : Nat} {w w' : World} {v v3 : Value} {vs : List Value} (h : OwnV E base w v vs) (hg : w.grownBy w' v3.ownBlock) (hap : Ap v v3) : OwnV E base w' v vs :=
  h.kept hg (by
    rcases hq : v.ownBlock with _ | j
    · exact .inl rfl
    · exact .inr (fun e => hap j hq e.symm))
theorem row_take {w : World} {a : Option Addr} {len cap : Nat} {vs : List Value} (h : RowIn w a len cap vs) (k : Nat) (hk : k ≤ len) : RowIn w a k cap (vs.take k) := by
  obtain ⟨h1, h2, h3, h4, h5⟩ := h
  refine ⟨by rw [List.length_take]; omega, by omega, h3, fun e => (by have := h4 e; omega), ?_⟩
  rcases h5 with h5 | ⟨b, off, rfl, h6, h7⟩
  · exact .inl (by omega)
  · refine .inr ⟨b, off, rfl, h6, fun i hi => ?_⟩
    have hi2 : i < vs.length := by rw [List.length_take] at hi; omega
    rw [h7 i hi2, List.getElem_take]
def pf (y : Int) : Nat := 1 + msk y
/-- The length that is held against. -/
def kf (zb : List Int) (n i : Nat) : Nat := match zb[i]? with
  | some z => 1 + ((IntKind.u64.wrap z).tmod (n : Int)).toNat
  | none => 4
theorem kf_in {zb : List Int} {n i : Nat} (h : i < zb.length) : kf zb n i = 1 + ((IntKind.u64.wrap zb[i]).tmod (n : Int)).toNat := by
  unfold kf; rw [List.getElem?_eq_getElem h]
theorem kf_out {zb : List Int} {n i : Nat} (h : zb.length ≤ i) : kf zb n i = 4 := by
  unfold kf; rw [List.getElem?_eq_none h]
theorem kf_range (zb : List Int) (n i : Nat) (hn : 4 ≤ n) : 1 ≤ kf zb n i ∧ kf zb n i ≤ n := by
  by_cases h : i < zb.length
  · rw [kf_in h]
    obtain ⟨r, hr, e⟩ := L3.un_mod zb[i] n (by omega)
    rw [e, Int.toNat_natCast]; omega
  · rw [kf_out (by omega)]; omega
theorem kr_sm (ls : List Nat) (h : ∀ i, i < ls.length → 1 ≤ ls.getD i 0) : CanMath.kr ls = sm ls.length (fun i => 2 ^ (15 - ls.getD i 0)) := by
  unfold CanMath.kr
  rw [← sm_map]
  refine sm_congr fun i hi => ?_
  have := h i hi
  unfold CanMath.share
  rw [if_neg (by omega)]
set_option maxRecDepth 100000 in
set_option maxHeartbeats 8000000 in
theorem against_law (ya yb : List Int) (a b : Option Addr) (la ca lb cb : Nat) (most : Int) (w : World) (hA : RowIn w a la ca (ya.map fun z => Value.int .i64 z)) (hB : RowIn w b lb cb (yb.map fun z => Value.int .i64 z)) :
    Calls Try.prog 6 #[.slice a la ca, .slice b lb cb, .int .i64 most] w fun e w' => e = .returned (.bool true) ∧ Below w.heap.size w w' := by
  have hla : ya.length = la := by rw [← hA.len_eq]; simp
  have hlb : yb.length = lb := by rw [← hB.len_eq]; simp
  obtain ⟨n0, hn0⟩ : ∃ n0, n0 = min la 12 := ⟨_, rfl⟩
  have hlc := hA.le_cap
  have hcl := hA.cap_le
  have hlcb := hB.le_cap
  have hclb := hB.cap_le
  have HA : Hid (RowIn w a n0 ca ((ya.take n0).map fun z => Value.int .i64 z)) := Lib.hid (by
    have := row_take hA n0 (by omega)
    rwa [← List.map_take] at this)
  have HZL : Hid ((ya.take n0).length = n0) := Lib.hid (by rw [List.length_take]; omega)
  have HAA := Lib.hid hA
  have HBB := Lib.hid hB
  have HLB := Lib.hid hlb
  have HN0 := Lib.hid hn0
  have hn12 : n0 ≤ 12 := by omega
  obtain ⟨r, hr, e0⟩ := L3.un_mod most 12 (by omega)
  have e0 : (IntKind.u64.wrap most).tmod 12 = (r : Int) := e0
  have E0 := Lib.hid e0
  clear hA hB hla hlb e0 hn0
  generalize ya.take n0 = zs at *
  go_enter Try.func6, Try.ntmps6
  go_upto_if 16 with (fail)
  go_cut [0, 17, 18] (fun s _ _ wc => s = .slice a n0 ca ∧ w = wc)
  case first =>
    by_cases h : la ≤ 12
    · have hi : ¬ (12 : Int) < (la : Int) := by omega
      obtain rfl : n0 = la := by have := HN0.out; omega
      go_wp2_with fail
      all_goals (first | (exfalso; omega) | (go_meet; case rel => exact ⟨rfl, rfl⟩))
    · have hi : (12 : Int) < (la : Int) := by omega
      obtain rfl : n0 = 12 := by have := HN0.out; omega
      obtain ⟨ab, ao, rfl⟩ := HAA.out.some_ (by omega)
      go_wp2_with fail
      all_goals (first | (exfalso; omega) | (go_meet; case rel => exact ⟨rfl, rfl⟩))
  obtain ⟨rfl, rfl⟩ := hcut
  clear HAA HN0 hlc
  obtain ⟨n, hn⟩ : ∃ n, n = 4 + r := ⟨_, rfl⟩
  have e3 : 4 + (r : Int) = (n : Int) := by omega
  have hn4 : 4 ≤ n := by omega
  have hn15 : n ≤ 15 := by omega
  have hp4 : n0 ≤ 2 ^ n := Nat.le_trans (show n0 ≤ 2 ^ 4 by omega) (Nat.pow_le_pow_right (by omega) hn4)
  have HP4 := Lib.hid hp4
  clear hn hp4
  have e0 := E0.out
  have er : (r : Int) ≤ 11 := by omega
  have hlbi : (lb : Int) ≤ 9223372036854775807 := by omega
  go_wp2_with fail
  clear e0 e3 er E0
  have HST : Hid (OwnV 3 w.heap.size w (.slice none 0 0) (lv ((zs.take 0).map pf))) := Lib.hid (OwnV.nil _ _ _)
  have HST2 : Hid (OwnV 3 w.heap.size w (.slice none 0 0) (lv ((List.range 0).map (kf yb n)))) := Lib.hid (OwnV.nil _ _ _)
  go_loopw [10, 8, 9, 11] (fun s p l _ wr => ∃ (i : Nat) (ap : Option Addr) (cp : Nat) (al : Option Addr) (cl : Nat), s = .int .i64 (i : Int) ∧ p = .slice ap i cp ∧ l = .slice al i cl ∧ i ≤ n0 ∧ Hid (OwnV 3 w.heap.size wr (.slice ap i cp) (lv ((zs.take i).map pf))) ∧ Hid (OwnV 3 w.heap.size wr (.slice al i cl) (lv ((List.range i).map (kf yb n)))) ∧ Hid (Ap (.slice ap i cp) (.slice al i cl)) ∧ Hid (Below w.heap.size w wr)) (fun s _ _ _ _ => n0 - (intOf s).toNat)
  case atStart => exact ⟨0, none, 0, none, 0, rfl, rfl, rfl, Nat.zero_le _, HST, HST2, Lib.hid (fun j h => by cases h), Lib.hid (Below.refl _ _)⟩
  case round =>
    clear HST HST2
    obtain ⟨i, ap, cp, al, cl, rfl, rfl, rfl, hi, HO, HQ, HAP, HB⟩ := hrel
    by_cases hlt : i < n0
    · as_aux_lemma =>
      have hlti : (i : Int) < (n0 : Int) := by omega
      have hR := HA.out.below (Nat.le_refl _) HB.out
      obtain ⟨ib, io, rfl⟩ := hR.some_ (by omega)
      have hiy : i < zs.length := by rw [HZL.out]; exact hlt
      obtain ⟨y, hy⟩ : ∃ y, y = zs[i]'hiy := ⟨_, rfl⟩
      have c1 : wr.cell? ⟨ib, io + i, none⟩ = some (.int .i64 y) := by
        rw [hR.get i (by simpa using hiy), hy]; simp
      have HTK : Hid (lv ((zs.take (i + 1)).map pf) = lv ((zs.take i).map pf) ++ lv [pf y]) := Lib.hid (by rw [hy, take_one _ _ _ hiy, lv_append])
      have HLT : Hid ((lv ((zs.take i).map pf)).length = i) := Lib.hid (by rw [lv_len, List.length_map, List.length_take]; omega)
      generalize lv ((zs.take i).map pf) = D at *
      obtain ⟨v, hv⟩ : ∃ v, v = pf y := ⟨_, rfl⟩
      rw [← hv] at HTK
      have e1 : bits .and .i64 y 1048575 = ((msk y : Nat) : Int) := msk_and y
      have hv2 : 1 + ((msk y : Nat) : Int) = (v : Int) := by rw [hv]; unfold pf; omega
      have hmy : ((msk y : Nat) : Int) < 1048576 := by have := msk_lt y; omega
      have hmy0 : msk y < 1048576 := msk_lt y
      generalize msk y = my at *
      have HR2 : Hid (RowIn (wr.alloc (.cells #[.int .i64 (v : Int)] 3)) (some ⟨wr.heap.size, 0, none⟩) 1 1 (lv [v])) := Lib.hid (lit_row wr v)
      have HO2 : Hid (OwnV 3 w.heap.size (wr.alloc (.cells #[.int .i64 (v : Int)] 3)) (.slice ap i cp) D) := Lib.hid (HO.out.below (Nat.le_refl _) ((Below.refl _ wr).alloc (Nat.le_refl _) _))
      have HQ2 : Hid (OwnV 3 w.heap.size (wr.alloc (.cells #[.int .i64 (v : Int)] 3)) (.slice al i cl) (lv ((List.range i).map (kf yb n)))) := Lib.hid (HQ.out.below (Nat.le_refl _) ((Below.refl _ wr).alloc (Nat.le_refl _) _))
      have HB2 : Hid (Below w.heap.size w (wr.alloc (.cells #[.int .i64 (v : Int)] 3))) := Lib.hid (HB.out.alloc HB.out.size _)
      clear hR hiy hy hv HO HB HQ
      go_wp2_with (at_builtin; refine wpList_append_row (by rfl) (.tmp 30) (.tmp 37) 22 rfl w.heap.size 3 (.int .i64 0) 8 Try.underlying22 info_int' rfl (.slice ap i cp) D rfl HO2.out (some ⟨wr.heap.size, 0, none⟩) 1 1 (lv [v]) rfl HR2.out (lv_one _) (by rw [HLT.out]; omega) (by rw [HLT.out]; omega) HB2.out.size ?_)
      intro a7 c7 w7 hown hgrow hnxt
      rw [HLT.out] at hown hnxt ⊢
      rw [← HTK.out] at hown
      have HO7 := Lib.hid hown
      have HQ7 : Hid (OwnV 3 w.heap.size w7 (.slice al i cl) (lv ((List.range i).map (kf yb n)))) := Lib.hid (kept_ap HQ2.out hgrow HAP.out.symm)
      have HAP7 : Hid (Ap (.slice a7 (i + 1) c7) (.slice al i cl)) := Lib.hid (Ap.symm (ap_after HQ2.out HAP.out.symm (by rw [World.size_alloc]; exact hnxt)))
      have HB7 := Lib.hid (HO2.out.grown HB2.out hgrow HB2.out.size)
      clear hown hgrow hnxt HO2 HB2 HR2 HQ2 HAP c1 e1 hv2 hmy hmy0
      by_cases hil : i < lb
      · have hili : (i : Int) < (lb : Int) := by omega
        have hRb := HBB.out.below (Nat.le_refl _) HB7.out
        obtain ⟨jb, jo, rfl⟩ := hRb.some_ (by omega)
        have hiz : i < yb.length := by rw [HLB.out]; exact hil
        obtain ⟨z, hz⟩ : ∃ z, z = yb[i]'hiz := ⟨_, rfl⟩
        have c2 : w7.cell? ⟨jb, jo + i, none⟩ = some (.int .i64 z) := by
          rw [hRb.get i (by simpa using hiz), hz]; simp
        obtain ⟨q, hq, eq⟩ := L3.un_mod z n (by omega)
        obtain ⟨kv, hkv⟩ : ∃ kv, kv = 1 + q := ⟨_, rfl⟩
        have HKV : Hid (kf yb n i = kv) := Lib.hid (by rw [kf_in hiz, ← hz, eq, Int.toNat_natCast, hkv])
        have ek : 1 + (q : Int) = (kv : Int) := by omega
        have hq15 : (q : Int) < 15 := by omega
        have hnz : ((n : Int) == 0) = false := by simp; omega
        have hnz2 : (n : Int) ≠ 0 := by omega
        have hnz3 : n ≠ 0 := by omega
        clear hkv hz hRb hiz
        have HTK2 : Hid (lv ((List.range (i + 1)).map (kf yb n)) = lv ((List.range i).map (kf yb n)) ++ lv [kv]) := Lib.hid (by rw [List.range_succ, List.map_append, lv_append, List.map_cons, List.map_nil, HKV.out])
        have HLT2 : Hid ((lv ((List.range i).map (kf yb n))).length = i) := Lib.hid (by rw [lv_len, List.length_map, List.length_range])
        generalize lv ((List.range i).map (kf yb n)) = D2 at *
        have HR8 : Hid (RowIn (w7.alloc (.cells #[.int .i64 (kv : Int)] 3)) (some ⟨w7.heap.size, 0, none⟩) 1 1 (lv [kv])) := Lib.hid (lit_row w7 kv)
        have HQ8 : Hid (OwnV 3 w.heap.size (w7.alloc (.cells #[.int .i64 (kv : Int)] 3)) (.slice al i cl) D2) := Lib.hid (HQ7.out.below (Nat.le_refl _) ((Below.refl _ w7).alloc (Nat.le_refl _) _))
        have HO8 : Hid (OwnV 3 w.heap.size (w7.alloc (.cells #[.int .i64 (kv : Int)] 3)) (.slice a7 (i + 1) c7) (lv ((zs.take (i + 1)).map pf))) := Lib.hid (HO7.out.below (Nat.le_refl _) ((Below.refl _ w7).alloc (Nat.le_refl _) _))
        have HB8 : Hid (Below w.heap.size w (w7.alloc (.cells #[.int .i64 (kv : Int)] 3))) := Lib.hid (HB7.out.alloc HB7.out.size _)
        clear HQ7 HB7 HO7
        go_wp2_with (at_builtin; refine wpList_append_row (by rfl) (.tmp 53) (.tmp 55) 22 rfl w.heap.size 3 (.int .i64 0) 8 Try.underlying22 info_int' rfl (.slice al i cl) D2 rfl HQ8.out (some ⟨w7.heap.size, 0, none⟩) 1 1 (lv [kv]) rfl HR8.out (lv_one _) (by rw [HLT2.out]; omega) (by rw [HLT2.out]; omega) HB8.out.size ?_)
        intro a9 c9 w9 hown hgrow hnxt
        rw [HLT2.out] at hown hnxt ⊢
        rw [← HTK2.out] at hown
        have HQ9 := Lib.hid hown
        have HO9 : Hid (OwnV 3 w.heap.size w9 (.slice a7 (i + 1) c7) (lv ((zs.take (i + 1)).map pf))) := Lib.hid (kept_ap HO8.out hgrow HAP7.out)
        have HAP9 : Hid (Ap (.slice a7 (i + 1) c7) (.slice a9 (i + 1) c9)) := Lib.hid (ap_after HO8.out HAP7.out (by rw [World.size_alloc]; exact hnxt))
        have HB9 := Lib.hid (HQ8.out.grown HB8.out hgrow HB8.out.size)
        clear hown hgrow hnxt HQ8 HB8 HR8 HO8 HAP7
        go_wp2_with fail
        go_roundw
        case measure => simp [intOf]; omega
        case rel => exact ⟨i + 1, a7, c7, a9, c9, by simp, by simp, by simp, by omega, HO9, HQ9, HAP9, HB9⟩

      · have hili : ¬ (i : Int) < (lb : Int) := by omega
        obtain ⟨kv, hkv⟩ : ∃ kv, kv = 4 := ⟨_, rfl⟩
        have HKV : Hid (kf yb n i = kv) := Lib.hid (by rw [kf_out (by rw [HLB.out]; omega), hkv])
        subst hkv
        have HTK2 : Hid (lv ((List.range (i + 1)).map (kf yb n)) = lv ((List.range i).map (kf yb n)) ++ lv [4]) := Lib.hid (by rw [List.range_succ, List.map_append, lv_append, List.map_cons, List.map_nil, HKV.out])
        have HLT2 : Hid ((lv ((List.range i).map (kf yb n))).length = i) := Lib.hid (by rw [lv_len, List.length_map, List.length_range])
        generalize lv ((List.range i).map (kf yb n)) = D2 at *
        have HR8 : Hid (RowIn (w7.alloc (.cells #[.int .i64 4] 3)) (some ⟨w7.heap.size, 0, none⟩) 1 1 (lv [4])) := Lib.hid (lit_row w7 4)
        have HQ8 : Hid (OwnV 3 w.heap.size (w7.alloc (.cells #[.int .i64 4] 3)) (.slice al i cl) D2) := Lib.hid (HQ7.out.below (Nat.le_refl _) ((Below.refl _ w7).alloc (Nat.le_refl _) _))
        have HO8 : Hid (OwnV 3 w.heap.size (w7.alloc (.cells #[.int .i64 4] 3)) (.slice a7 (i + 1) c7) (lv ((zs.take (i + 1)).map pf))) := Lib.hid (HO7.out.below (Nat.le_refl _) ((Below.refl _ w7).alloc (Nat.le_refl _) _))
        have HB8 : Hid (Below w.heap.size w (w7.alloc (.cells #[.int .i64 4] 3))) := Lib.hid (HB7.out.alloc HB7.out.size _)
        clear HQ7 HB7 HO7
        go_wp2_with (at_builtin; refine wpList_append_row (by rfl) (.tmp 53) (.tmp 55) 22 rfl w.heap.size 3 (.int .i64 0) 8 Try.underlying22 info_int' rfl (.slice al i cl) D2 rfl HQ8.out (some ⟨w7.heap.size, 0, none⟩) 1 1 (lv [4]) rfl HR8.out (lv_one _) (by rw [HLT2.out]; omega) (by rw [HLT2.out]; omega) HB8.out.size ?_)
        intro a9 c9 w9 hown hgrow hnxt
        rw [HLT2.out] at hown hnxt ⊢
        rw [← HTK2.out] at hown
        have HQ9 := Lib.hid hown
        have HO9 : Hid (OwnV 3 w.heap.size w9 (.slice a7 (i + 1) c7) (lv ((zs.take (i + 1)).map pf))) := Lib.hid (kept_ap HO8.out hgrow HAP7.out)
        have HAP9 : Hid (Ap (.slice a7 (i + 1) c7) (.slice a9 (i + 1) c9)) := Lib.hid (ap_after HO8.out HAP7.out (by rw [World.size_alloc]; exact hnxt))
        have HB9 := Lib.hid (HQ8.out.grown HB8.out hgrow HB8.out.size)
        clear hown hgrow hnxt HQ8 HB8 HR8 HO8 HAP7
        go_wp2_with fail
        go_roundw
        case measure => simp [intOf]; omega
        case rel => exact ⟨i + 1, a7, c7, a9, c9, by simp, by simp, by simp, by omega, HO9, HQ9, HAP9, HB9⟩

    · have hlti : ¬ (i : Int) < (n0 : Int) := by omega
      obtain rfl : i = n0 := by omega
      obtain ⟨cs, hcs⟩ : ∃ cs, cs = zs.map pf := ⟨_, rfl⟩
      obtain ⟨ls, hls⟩ : ∃ ls, ls = (List.range i).map (kf yb n) := ⟨_, rfl⟩
      have HRC : Hid (RowIn wr ap i cp (lv cs)) := Lib.hid (by
        have := HO.out.rowIn (by rw [lv_len, List.length_map, List.length_take]; have := HZL.out; omega)
        rwa [List.take_of_length_le (by have := HZL.out; omega), ← hcs] at this)
      have HRL : Hid (RowIn wr al i cl (lv ls)) := Lib.hid (by
        have := HQ.out.rowIn (by rw [lv_len, List.length_map, List.length_range])
        rwa [← hls] at this)
      have HCL : Hid (cs.length = i) := Lib.hid (by rw [hcs, List.length_map, HZL.out])
      have HLL : Hid (ls.length = i) := Lib.hid (by rw [hls, List.length_map, List.length_range])
      have HCM : Hid (∀ j, cs.getD j 0 ≤ 1048576) := Lib.hid (fun j => by
        rw [hcs, List.getD_eq_getElem?_getD, List.getElem?_map]
        cases zs[j]? with
        | none => exact Nat.zero_le _
        | some y => have := msk_lt y; show pf y ≤ _; unfold pf; omega)
      have HCP : Hid (∀ j, j < cs.length → 0 < cs.getD j 0) := Lib.hid (fun j hj => by
        rw [hcs] at hj ⊢
        rw [msk_getD _ _ _ (by simpa using hj)]; unfold pf; omega)
      have HLR : Hid (∀ j, j < ls.length → 1 ≤ ls.getD j 0 ∧ ls.getD j 0 ≤ n) := Lib.hid (fun j hj => by
        rw [hls] at hj ⊢
        rw [map_getD _ _ _ (by simpa using hj)]; exact kf_range _ _ _ hn4)
      clear HO HQ HAP hcs hls hlt HA HBB HLB HZL hi
      generalize i = n0 at *
      generalize wr = w3 at *
      go_wp2_with fail
      refine (L3.lengths_nat cs ap n0 cp n w3 HRC.out (by rw [HCL.out]; omega) (by omega) (by omega) HCM.out (by rw [HCL.out]; exact HP4.out)).mono ?_
      rintro e w4 ⟨⟨l1, lc1, ord1, lens1, rfl, hL1, hR1⟩, hb⟩
      have HL1 := Lib.hid hL1
      have HR1 := Lib.hid hR1
      have HRC4 := Lib.hid (HRC.out.below (Nat.le_refl _) hb)
      have HRL4 := Lib.hid (HRL.out.below (Nat.le_refl _) hb)
      have HB4 := Lib.hid (HB.out.trans (hb.mono HB.out.size))
      clear hL1 hR1 hb HRC HRL HB
      go_wp2_with fail
      have HGO : Hid (CanC.Good (ls.map fun (x : Nat) => (x : Int))) := Lib.hid (by
        refine ⟨by rw [List.length_map, HLL.out]; omega, fun z hz => ?_⟩
        obtain ⟨x, hx, rfl⟩ := List.mem_map.1 hz
        obtain ⟨j, hj, rfl⟩ := List.getElem_of_mem hx
        have := (HLR.out j hj).2
        rw [List.getD_eq_getElem?_getD, List.getElem?_eq_getElem hj] at this
        have h2 : ls[j] ≤ n := this
        omega)
      have HNB : Hid (CanC.nat (ls.map fun (x : Nat) => (x : Int)) = ls) := Lib.hid (L3.nat_back ls)
      refine (CanC.kind_good (zs := ls.map fun (x : Nat) => (x : Int)) (by have := HRL4.out; rw [L3.lv_ints] at this; exact this) HGO.out).mono ?_
      rw [HNB.out]
      rintro e w5 ⟨rfl, hb⟩
      have HR15 := Lib.hid (HR1.out.below (Nat.le_refl _) hb)
      have HRC5 := Lib.hid (HRC4.out.below (Nat.le_refl _) hb)
      have HRL5 := Lib.hid (HRL4.out.below (Nat.le_refl _) hb)
      have HB5 := Lib.hid (HB4.out.trans (hb.mono HB4.out.size))
      clear hb HR1 HRC4 HRL4 HB4 HGO HNB
      have HKN : Hid (CanC.kindN ls = if 32768 < CanMath.kr ls then 4 else if CanMath.kr ls = 0 then 0 else if CanMath.kr ls = 32768 then 1 else if CanMath.kr ls = 16384 ∧ ls.count 1 = 1 then 2 else 3) := Lib.hid rfl
      obtain ⟨X, hX⟩ : ∃ X, X = CanC.kindN ls := ⟨_, rfl⟩
      rw [← hX] at HKN ⊢
      clear hX
      by_cases hk : 32768 < CanMath.kr ls
      · obtain rfl : X = 4 := by rw [HKN.out, if_pos hk]
        clear HKN hk
        go_wp2_with (go_at_call 8; refine (told_any w5).mono ?_; rintro e w6 ⟨rfl, hb⟩)
        go_ret
        exact ⟨rfl, HB5.out.trans (hb.mono HB5.out.size)⟩
      · have hX4 : ¬ X = 4 := by
          rw [HKN.out, if_neg hk]
          split
          · omega
          · split
            · omega
            · split <;> omega
        have hX4b : (X == 4) = false := by simp [hX4]
        have HK := Lib.hid hk
        clear HKN hk
        by_cases h2 : n0 < 2
        · have h2i : (n0 : Int) < 2 := by omega
          go_wp2_with (go_at_call 8; refine (told_any w5).mono ?_; rintro e w6 ⟨rfl, hb⟩)
          go_ret
          exact ⟨rfl, HB5.out.trans (hb.mono HB5.out.size)⟩
        · have h2i : ¬ (n0 : Int) < 2 := by omega
          have hm1 : Hid (Modest cs lens1) := Lib.hid (L3.modest_lens HL1.out (by omega) HCM.out (by rw [HCL.out]; omega))
          have hm2 : Hid (Modest cs ls) := Lib.hid ⟨by rw [HCL.out]; omega, by rw [HLL.out]; omega, fun j => Nat.le_trans (HCM.out j) (by omega), fun j => by
            by_cases hj : j < ls.length
            · have := (HLR.out j hj).2; omega
            · rw [List.getD_eq_getElem?_getD, List.getElem?_eq_none (by omega)]; exact Nat.zero_le _⟩
          obtain ⟨p1, hp1⟩ : ∃ p, p = prd cs lens1 n0 := ⟨_, rfl⟩
          obtain ⟨p2, hp2⟩ : ∃ p, p = prd cs ls n0 := ⟨_, rfl⟩
          have hle : p1 ≤ p2 := by
            have := cost_against (L := n - 1) (by omega) (by rw [HCL.out]; omega) (by rw [HCL.out, show n - 1 + 1 = n by omega]; exact HP4.out) HCP.out HL1.out ls
              (fun j hj => by have := (HLR.out j (by rw [HLL.out, ← HCL.out]; exact hj)).2; omega)
              (by
                have h := kr_sm ls (fun j hj => (HLR.out j hj).1)
                rw [HLL.out] at h
                rw [HCL.out, ← h]
                have := HK.out; omega)
            rw [HCL.out] at this
            rw [hp1, hp2]; exact this
          have hlei : (p1 : Int) ≤ (p2 : Int) := by omega
          have HP1 := Lib.hid hp1
          have HP2 := Lib.hid hp2
          clear hp1 hp2 HL1 HCM HCP HLR HK HP4 h2
          go_wp2_with fail
          refine (told_any w5).mono ?_
          rintro e w8 ⟨rfl, hb⟩
          have HC8 := HRC5.out.below (Nat.le_refl _) hb
          have H18 := HR15.out.below (Nat.le_refl _) hb
          have H28 := HRL5.out.below (Nat.le_refl _) hb
          have HW8 := Lib.hid (HB5.out.trans (hb.mono HB5.out.size))
          have HC1 := Lib.hid (cost_any HC8 H18 hm1.out)
          have HC2 := Lib.hid (fun q => cost_any (HC8.below (Nat.le_refl _) (L3.quiet_any w8 q)) (H28.below (Nat.le_refl _) (L3.quiet_any w8 q)) hm2.out)
          rw [Nat.min_self, ← HP1.out] at HC1
          rw [Nat.min_self, ← HP2.out] at HC2
          clear HC8 H18 H28 hb HRC5 HR15 HRL5 HB5 HP1 HP2 hm1 hm2
          go_wp2_with fail
          refine HC1.out.mono ?_
          rintro e w9 ⟨rfl, qa, rfl⟩
          go_wp2_with fail
          refine (HC2.out qa).mono ?_
          rintro e w9 ⟨rfl, qb, rfl⟩
          rw [World.drewN_drewN]
          go_wp2_with fail
          go_ret
          exact ⟨by simp, HW8.out.trans (L3.quiet_any w8 _)⟩
end Go.Proofs.Ytmfnncachaejgaa.PkC
