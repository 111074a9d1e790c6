import Derived.Test.YtbjjkhlebdaoaaaDoorMgDb
import Derived.Test.YtbjjkhlebdaoaaaDoorMgMb
import Derived.Deep.RegionWith

section
/-
  DeflateSame's law.
-/
namespace Go.Proofs.YtbjjkhlebdaoaaaDoor.DfC
open Go.RowKit Go.My BitMath BlkC MatMath
open EfC (lv Pls)

theorem own_ret2 {w w' : World} {l : List UInt8} {e : Ending} (h : My.OwnRet 5 w l e w') : ∃ a c, e = .returned (.slice a l.length c) ∧ Bytes w' a l.length c l ∧ Below w.heap.size w w' ∧ ∀ b off, a = some ⟨b, off, none⟩ → w.heap.size ≤ b := by
  obtain ⟨v, rfl, ho, hb⟩ := h
  obtain ⟨a, c, rfl, h2⟩ := ho.bytes
  exact ⟨a, c, rfl, h2, hb, fun b off e => by subst e; exact (World.ownsRow.lt ho b rfl).1⟩
theorem bytes_grown {w w' : World} {row : Option Nat} {a : Option Addr} {len cap : Nat} {l : List UInt8} (hg : w.grownBy w' row) (hb : Bytes w a len cap l) (h : ∀ b off, a = some ⟨b, off, none⟩ → row ≠ some b) : Bytes w' a len cap l :=
  BitC.bytes_only (S := fun k => row = some k) ((Only.refl _ w).grown hg fun _ _ e => e) hb fun _ b off e => h b off e
theorem un_rem (z : Int) : ∃ q : Nat, q ≤ 3000 ∧ (IntKind.u64.wrap z).tmod 3001 = (q : Int) := by
  have h0 : 0 ≤ IntKind.u64.wrap z := by rw [IntKind.wrap_u64]; omega
  rw [Int.tmod_eq_emod_of_nonneg h0]
  generalize IntKind.u64.wrap z = r at *
  exact ⟨(r % 3001).toNat, by omega, by omega⟩
theorem fill_next (m i : Nat) (c : UInt8) (h : i < m) : (List.replicate i c ++ List.replicate (m - i) 0).set i c = List.replicate (i + 1) c ++ List.replicate (m - (i + 1)) 0 := by
  rw [show m - i = (m - (i + 1)) + 1 by omega, List.replicate_succ, List.set_append_right _ _ (by simp), List.length_replicate, Nat.sub_self, List.set_cons_zero, List.replicate_succ', List.append_assoc]
  rfl
theorem lv_1 : lv 4607182418800017408 = 1 := by
  have hU := Flt.U_pos
  exact EfC.lv_at (n := 1) (by omega) (by rw [EfC.num_of EfC.n_1, EfC.K_1]; simp) (by rw [EfC.num_of EfC.n_1, EfC.K_1]; simp; omega)
/-- A thousand bytes alike, or more, take less than a tenth. -/
theorem shrinks {m : Nat} {c : UInt8} {P : List UInt8} (h1 : 1000 ≤ m) (h2 : m ≤ 4000) (h : Dfl 1 false (List.replicate m c) P) : P.length < m / 10 := by
  rcases h with ⟨h, -⟩ | ⟨-, X, K, rfl, hm, -, hx, -⟩
  · exact absurd h (by decide)
  · have hK := many_rep rfl rfl rfl rfl (by omega) hm
    have hr := rfx_le (wide := false) (f := tk (plw 1 false) (List.replicate m c)) (n := K) fun i hi => (tk_good hm i hi).1
    rw [pack_len]
    omega
set_option maxRecDepth 100000 in
set_option maxHeartbeats 8000000 in
theorem same_law {a : Option Addr} {len cap : Nat} {b : List UInt8} (n : Int) (x : Nat) (c : UInt8) (w : World) (hb : Bytes w a len cap b) (hT : Tbls w.heap.size w) (hP : Pls w) :
    Calls Tryd.prog 4 #[.slice a len cap, .int .i64 n, .float .f64 x, .int .u8 (c.toNat : Int)] w fun e w' => e = .returned (.bool true) ∧ Below w.heap.size w w' := by
  have HB := Lib.hid hb
  have HL := Lib.hid hb.len_eq
  have HT := Lib.hid hT
  have HP := Lib.hid hP
  have hlc := hb.le_cap
  have hcm := hb.cap_le
  clear hb hT hP
  by_cases hbig : 200 < len
  · have HTO := Lib.hid (told_at HT.out HP.out (Below.refl _ _))
    go_enter Tryd.func4, Tryd.ntmps4
    go_wp2_with fail
    refine HTO.out.mono ?_
    rintro e w2 ⟨rfl, hbe⟩
    go_wp2_with fail
    go_ret
    exact ⟨rfl, hbe⟩
  · have HLG := Lib.hid (long_any n w HB.out (by omega))
    have hrl : (rep b (times n)).length ≤ 3200 := rep_le b n 200 (by rw [HL.out]; omega)
    go_enter Tryd.func4, Tryd.ntmps4
    go_wp2_with fail
    refine HLG.out.mono ?_
    intro e w1 h1
    obtain ⟨a1, c1, rfl, hb1, hl1⟩ := own_ret h1
    have HC := Lib.hid (Ctx.mk hl1 hb1)
    clear h1 hb1 hl1 HLG
    generalize rep b (times n) = s at *
    obtain ⟨N, hN⟩ : ∃ N, N = s.length := ⟨_, rfl⟩
    have HN := Lib.hid hN
    rw [← hN] at hrl ⊢
    clear hN
    have HAL : Hid (∀ w' a' c', Ctx w w' a' c' s → Calls Tryd.prog 8 #[.slice a' N c', .float .f64 x, .bool false] w' fun e w2 => ∃ P, Dfl (lv x) false s P ∧ My.OwnRet 5 w' P e w2) := Lib.hid fun w' a' c' hc => by
      have := all_at x false (by have := HN.out; omega) HT.out HP.out hc
      rw [← HN.out] at this
      exact this
    go_upto_region 4 with (fail)
    go_cut [29] (fun v wc => v = .bool false ∧ Hid (Below w.heap.size w wc))
    case first =>
      rename_i J9 K9 hJ9 hK9
      have HCd := Lib.hid (HC.out.next (Below.refl _ _).drew)
      have HE : Hid (∀ W : World, My.Own 5 W.heap.size (W.alloc (.cells #[] 5)) (.slice (some ⟨W.heap.size, 0, none⟩) 0 0) []) := Lib.hid fun W => My.Own.empty 5 W (Nat.le_refl _)
      have HBL : Hid (∀ W : World, Below W.heap.size W (W.alloc (.cells #[] 5))) := Lib.hid fun W => (Below.refl _ _).alloc (Nat.le_refl _) _
      go_region_law
        ((first
          | (refine step_append_lie (by rfl) (.tmp 23) (.tmp 24) 22 (by rfl) w3.heap.size 5 Tryd.underlying22 BitC.info5 (.slice (some ⟨w3.heap.size, 0, none⟩) 0 0) [] (by rfl) (HE.out w3) a1 N c1 s (by rfl) (by rw [HN.out]; exact (HC3.out.next (HBL.out _)).by_) (by simp; omega) (HBL.out w3).size ?_; intro a7 c7 w7 hown hg _; have hw7 := grown_below (HE.out w3) (HBL.out w3) hg (HBL.out w3).size; have HC7 : Hid (Ctx w w7 a7 c7 s) := Lib.hid ⟨(HC3.out.next hw7).bel, by have h9 := own_by hown; rw [h9.1] at h9; exact h9.2⟩; have HP7 := Lib.hid (HB3.out.below (Nat.le_refl _) hw7); have v7 := conv_own HP7.out; clear hown hg hw7)
          | (refine step_append_lie (by rfl) (.tmp 23) (.tmp 24) 22 (by rfl) w1.drew.heap.size 5 Tryd.underlying22 BitC.info5 (.slice (some ⟨w1.heap.size, 0, none⟩) 0 0) [] (by rfl) HE3.out a1 N c1 s (by rfl) (by rw [HN.out]; exact HC3.out.by_) (by simp; omega) HW3.out.size ?_; intro a7 c7 w7 hown hg _; have hw7 := grown_below HE3.out HW3.out hg HW3.out.size; have HC7 : Hid (Ctx w w7 a7 c7 s) := Lib.hid ⟨(HCd.out.next hw7).bel, by have h9 := own_by hown; rw [h9.1] at h9; exact h9.2⟩; have HP7 := Lib.hid (bytes_grown hg HB3.out fun b off e h => by have := HF3.out b off e; simp [Value.ownBlock] at h; simp at this; omega); have v7 := conv_own HP7.out; clear hown hg hw7)
          | (go_simp; first
            | (go_at_call 8; refine (HAL.out _ a7 c7 HC7.out).mono ?_; rintro e w8 ⟨Q, hd8, h8⟩; obtain ⟨a8, c8, rfl, hb8, hl8⟩ := own_ret h8; have HC8 : Hid (Below w.heap.size w w8) := Lib.hid (HC7.out.next hl8).bel; obtain rfl := HD3.out.same hd8; have v8 := conv_own hb8; have v9 := conv_own (HP7.out.below (Nat.le_refl _) hl8); clear h8 hb8 hl8 hd8)
            | (go_at_call 8; refine (HAL.out _ a1 c1 HCd.out).mono ?_; rintro e w3 ⟨P, hd, h3⟩; obtain ⟨a3, c3, rfl, hb3, hl3⟩ := own_ret h3; have HC3 : Hid (Ctx w w3 a1 c1 s) := Lib.hid (HCd.out.next hl3); have v3 := conv_own hb3; have v3b := conv_own (hb3.below (Nat.le_refl _) (HBL.out w3)); have HB3 := Lib.hid hb3; have HD3 := Lib.hid hd; clear h3 hb3 hl3 hd)
            | (go_at_call 8; refine (HAL.out _ a1 c1 (HCd.out.next (HBL.out _))).mono ?_; rintro e w3 ⟨P, hd, h3⟩; obtain ⟨a3, c3, rfl, hb3, hl3, hf3⟩ := own_ret2 h3; have HC3 : Hid (Ctx w w3 a1 c1 s) := Lib.hid ((HCd.out.next (HBL.out _)).next hl3); have v3 := conv_own hb3; have HB3 := Lib.hid hb3; have HD3 := Lib.hid hd; have HF3 := Lib.hid hf3; have HE3 := Lib.hid ((HE.out w1.drew).below (Nat.le_refl _) hl3); have HW3 : Hid (Below w1.drew.heap.size w1.drew w3) := Lib.hid ((HBL.out w1.drew).trans (hl3.mono (by simp))); clear h3 hb3 hl3 hd hf3))
          | (fail)))
      all_goals
        simp only [List.getElem_toArray, List.getElem_cons_succ, List.getElem_cons_zero, put_lit, List.set_cons_succ, List.set_cons_zero]
        refine hK9 _ _ (Met.intro (hJ9 _ _ ?_))
        repeat apply Exists.intro
        refine ⟨?rel, rfl⟩
        case rel => exact ⟨rfl, HC8⟩
    case rest =>
      obtain ⟨rfl, HW⟩ := hcut
      clear HC HAL HN
      obtain ⟨p, hp2, hp⟩ := un_rem n
      obtain ⟨m, hm⟩ : ∃ m : Nat, m = 1000 + p := ⟨_, rfl⟩
      have hm1 : 1000 ≤ m ∧ m ≤ 4000 := by omega
      have e1 : IntKind.i64.wrap (p : Int) = (p : Int) := IntWalk.i64_in _ (by omega)
      have e2 : IntKind.i64.wrap (1000 + (p : Int)) = (m : Int) := by rw [IntWalk.i64_in _ (by omega)]; omega
      have e3 : (1000 + (p : Int)) = (m : Int) := by omega
      have HWW := Lib.hid HW.out.size
      clear hm
      go_wp2_with (at_make; refine wpList_make_bytes _ rfl (.tmp 34) (.tmp 34) 22 rfl wc.heap.size 5 Tryd.underlying22 BitC.info5 .i64 .i64 m rfl rfl (by omega) (Nat.le_refl _) ?_)
      intro w2 hown hg
      obtain ⟨g, hgs⟩ : ∃ g, g = wc.heap.size := ⟨_, rfl⟩
      have hw2 : Below w.heap.size w w2 := HW.out.trans ((grown_none_below (Below.refl _ _) hg (Nat.le_refl _)).mono HW.out.size)
      have HG : Hid (w.heap.size ≤ g) := Lib.hid (by rw [hgs]; exact HW.out.size)
      rw [← hgs] at hown ⊢
      have HO2 : Hid (My.Own 5 g w2 (.slice (some ⟨g, 0, none⟩) m m) (List.replicate 0 c ++ List.replicate (m - 0) 0)) := Lib.hid (by simpa using hown)
      have HB2 := Lib.hid hw2
      clear hown hg hw2 hgs HW HWW hp e1 e2 e3 hp2
      go_wp2_with fail
      go_loopw [11] (fun iv wr => ∃ i : Nat, iv = .int .i64 (i : Int) ∧ i ≤ m ∧ Hid (My.Own 5 g wr (.slice (some ⟨g, 0, none⟩) m m) (List.replicate i c ++ List.replicate (m - i) 0)) ∧ Hid (Below w.heap.size w wr)) (fun iv _ => m - (intOf iv).toNat)
      case atStart => exact ⟨0, rfl, Nat.zero_le _, HO2, HB2⟩
      case round =>
        clear HO2 HB2
        obtain ⟨i, rfl, hi, HO, HW⟩ := hrel
        have HLN : Hid ((List.replicate i c ++ List.replicate (m - i) (0 : UInt8)).length = m) := Lib.hid (by simp; omega)
        by_cases hlt : i < m
        · have hli : i < (List.replicate i c ++ List.replicate (m - i) (0 : UInt8)).length := by have := HLN.out; omega
          have hcell := BitC.own_cell HO.out HLN.out i hli
          have hfree := BitC.own_free HO.out HLN.out i
          generalize (List.replicate i c ++ List.replicate (m - i) (0 : UInt8))[i] = y at hcell
          unfold bv at hcell
          have ho' := BitC.own_store HO.out HLN.out i c
          rw [fill_next m i c hlt] at ho'
          unfold bv at ho'
          have HO' := Lib.hid ho'
          have HW' : Hid (Below w.heap.size w (wr.setCell ⟨g, i, none⟩ (.int .u8 (c.toNat : Int)))) := Lib.hid (HW.out.setCell (p := ⟨g, i, none⟩) HG.out _)
          have hii : (i : Int) < (m : Int) := by omega
          clear ho'
          go_wp2_with fail
          go_roundw
          case rel => exact ⟨i + 1, by go_num, by omega, HO', HW'⟩
          case measure => simp [intOf]; omega
        · obtain rfl : i = m := by omega
          have hby := (own_by HO.out).2
          rw [Nat.sub_self, List.replicate_zero, List.append_nil] at hby
          have hml := fun x wide (w' : World) (h : Ctx w w' (some ⟨g, 0, none⟩) i (List.replicate i c)) => all_at x wide (by simp; omega) HT.out HP.out h
          simp only [List.length_replicate] at hml
          have HAL := Lib.hid hml
          have HC : Hid (Ctx w wr (some ⟨g, 0, none⟩) i (List.replicate i c)) := Lib.hid ⟨HW.out, by rw [List.length_replicate]; exact hby⟩
          have HTO := Lib.hid (told_at HT.out HP.out HW.out)
          have HRM := Lib.hid (fun w => rmost_any (i : Int) w (by omega))
          clear hby hml HO HLN HW hlt hi
          go_wp2_with fail
          refine HTO.out.mono ?_
          rintro e w3 ⟨rfl, hb3⟩
          have HC3 := Lib.hid (HC.out.next hb3)
          clear hb3 HC HTO
          go_wp2_with fail
          refine (HAL.out 4607182418800017408 false w3 HC3.out).mono ?_
          rintro e w4 ⟨P, hd, h4⟩
          obtain ⟨a4, c4, rfl, -, hl4⟩ := own_ret h4
          rw [lv_1] at hd
          have hsh := shrinks hm1.1 hm1.2 hd
          have HC4 := Lib.hid (HC3.out.next hl4)
          obtain ⟨M, hM⟩ : ∃ M, M = P.length := ⟨_, rfl⟩
          obtain ⟨q, hq, hq2⟩ : ∃ q : Nat, (i : Int) / 10 = (q : Int) ∧ M < q := ⟨i / 10, by omega, by omega⟩
          have hlq : (M : Int) < (q : Int) := by omega
          rw [← hM]
          clear h4 hd hsh hl4 hM HC3
          go_wp2_with fail
          refine (HAL.out x true w4 HC4.out).mono ?_
          rintro e w5 ⟨Q, hd, h5⟩
          obtain ⟨a5, c5, rfl, -, hl5⟩ := own_ret h5
          have hmz := hd.most (by simp; omega)
          rw [List.length_replicate] at hmz
          have HC5 := Lib.hid (HC4.out.next hl5).bel
          generalize mostZ (i : Int) = mz at *
          have hle : decide (((Q.length : Nat) : Int) ≤ mz) = true := decide_eq_true hmz
          clear h5 hd hl5 hmz HC4 hq hq2
          go_wp2_with fail
          refine (HRM.out w5).mono ?_
          rintro e w6 ⟨rfl, rfl⟩
          go_wp2_with fail
          go_ret
          exact ⟨rfl, HC5.out⟩
end Go.Proofs.YtbjjkhlebdaoaaaDoor.DfC
end
