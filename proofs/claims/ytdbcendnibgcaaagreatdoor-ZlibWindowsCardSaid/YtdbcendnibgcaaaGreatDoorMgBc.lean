import Derived.Test.YtdbcendnibgcaaaGreatDoorMgBb

section
/-
  readLengths: the codes of a block.
-/
namespace Go.Proofs.YtdbcendnibgcaaaGreatDoor.InfC
open Go.RowKit Go.My BitMath CanMath TabMath WinMath FeedC TabC CanC
open WinC (Wn)
open InfMath (M Ok CodeOk mu lack fixL fixD)

theorem row_take {w : World} {a : Option Addr} {len cap : Nat} {vs : List Value} (h : RowIn w a len cap vs) (k : Nat) (hk : k ≤ len) : RowIn w a k cap (vs.take k) := by
  obtain ⟨rfl, h2, h3, h4, h5⟩ := h
  refine ⟨by simp; omega, by omega, h3, fun h => ⟨by have := (h4 h).1; omega, (h4 h).2⟩, ?_⟩
  rcases h5 with h5 | ⟨b, off, ha, hs, hc⟩
  · left; omega
  · right
    exact ⟨b, off, ha, hs, fun i hi => by rw [hc i (by simp at hi; omega), List.getElem_take]⟩
theorem row_drop {w : World} {b off len cap : Nat} {vs : List Value} (h : RowIn w (some ⟨b, off, none⟩) len cap vs) (k : Nat) (hk : k ≤ len) : RowIn w (some ⟨b, off + k, none⟩) (len - k) (cap - k) (vs.drop k) := by
  obtain ⟨rfl, h2, h3, h4, h5⟩ := h
  refine ⟨by simp, by omega, by omega, fun h => (by cases h), ?_⟩
  rcases h5 with h5 | ⟨b', off', ha, hs, hc⟩
  · left; omega
  · right
    cases ha
    exact ⟨b, off + k, rfl, hs, fun i hi => by
      rw [List.getElem_drop, ← hc (k + i) (by simp at hi; omega), Nat.add_assoc]⟩
theorem step8 {s t : M} (hn : s.next = 8) (hlt : s.lens.length < s.hl + s.hd) (h : InfMath.step s = .more t) : t.next = 8 ∧ s.lens.length < t.lens.length := by
  unfold InfMath.step at h
  rw [hn] at h
  simp only at h
  unfold InfMath.readLengths at h
  rw [if_pos hlt] at h
  unfold InfMath.readLength at h
  split at h
  · cases h
  · unfold InfMath.readLen at h
    repeat' split at h
    all_goals first | (cases h; done) | skip
    cases h
    refine ⟨hn, ?_⟩
    have := least_le (InfMath.sym (s.hcode.getD []) s.bits).1
    simp
    omega

/-- The machine stands where lengths are read. -/
def Reads8 (B x : Nat) (s : M) (d : Ad) (w : World) (t : M) (d' : Ad) (w' : World) : Prop :=
  InfMath.Steps s t ∧ Ok t ∧ t.next = 8 ∧ At B w' x t d' ∧ Mv d.c d'.c w w'
section
variable {B x : Nat} {w : World} {s : M} {d : Ad}
set_option maxRecDepth 100000 in
set_option maxHeartbeats 4000000 in
theorem lengths_any (h : Hid (At B w x s d)) (hok : Ok s) (hn : s.next = 8) :
    Calls Tryz.prog 83 #[.pointer (some ⟨x, 0, none⟩)] w (Goes B x s d w) := by
  go_enter Tryz.func83, Tryz.ntmps83
  go_wp2_with fail
  go_loopw [] (fun wr => ∃ t d', Hid (Reads8 B x s d w t d' wr)) (fun wr => 400 - lensAt wr x)
  case atStart => exact ⟨s, d, Lib.hid ⟨.refl _, hok, hn, h.out, Mv.refl _ _⟩⟩
  case round =>
    clear h hok hn
    obtain ⟨t, d1, HR⟩ := hrel
    have hA := HR.out.2.2.2.1
    have h9 : wr.cell? ⟨x, 9, none⟩ = some (.int .i64 (t.hl : Int)) := hA.blk.cell 9
    have h10 : wr.cell? ⟨x, 10, none⟩ = some (.int .i64 (t.hd : Int)) := hA.blk.cell 10
    have h12 : wr.cell? ⟨x, 12, none⟩ = some (.slice d1.la t.lens.length d1.lc) := hA.blk.cell 12
    have hhl := HR.out.2.1.hl (by have := HR.out.2.2.1; omega) (by have := HR.out.2.2.1; omega)
    have hhd := HR.out.2.1.hd (by have := HR.out.2.2.1; omega) (by have := HR.out.2.2.1; omega)
    have w3' : IntKind.i64.wrap ((t.hl : Int) + (t.hd : Int)) = (t.hl : Int) + (t.hd : Int) := IntWalk.i64_in _ (by omega)
    have HL := Lib.hid (lensAt_of hA)
    have HH := Lib.hid (And.intro hhl hhd)
    clear hA
    by_cases hlt : t.lens.length < t.hl + t.hd
    · have hdd : decide ((t.lens.length : Int) < (t.hl : Int) + (t.hd : Int)) = true := by simp; omega
      go_wp2_with fail
      go_quiet (fail)
      have HA1 : Hid (At B (wr.drewN nq) x t d1) := Lib.hid (HR.out.2.2.2.1.drewN _)
      have HM1 : Hid (Mv d.c d1.c w (wr.drewN nq)) := Lib.hid (HR.out.2.2.2.2.drewN _)
      have HQ := Lib.hid (length_any HA1 HR.out.2.1 HR.out.2.2.1 hlt)
      clear h9 h10 h12 w3' hdd
      generalize wr.drewN nq = w1 at *
      go_wp2_with fail
      refine HQ.out.mono ?_
      rintro e w2 ⟨d2, M2, hg⟩
      rcases hg with ⟨rfl, t2, hst, H2⟩ | ⟨c, t2, t3, rfl, hen, H2, ho, hto, h5⟩
      · obtain ⟨hn2, hl2⟩ := step8 HR.out.2.2.1 hlt hst
        have HRR : Hid (Reads8 B x s d w t2 d2 w2) := Lib.hid ⟨HR.out.1.snoc hst, HR.out.2.1.step hst, hn2, H2.out, HM1.out.trans M2.out⟩
        have HME := Lib.hid (And.intro (lensAt_of H2.out) hl2)
        clear hst hn2 hl2 HQ
        go_wp2_with fail
        go_roundw
        case rel => exact ⟨_, d2, HRR⟩
        case measure => have h1 := HME.out; have h2 := HH.out; have h3 := HL.out; rw [h1.1, h3]; omega
      · go_wp2_with fail
        exact ⟨rfl, d2, Lib.hid (HM1.out.trans M2.out), .inr ⟨c, t2, t3, rfl, hen.of HR.out.1, H2, ho, hto, h5⟩⟩
    · have hdd : decide ((t.lens.length : Int) < (t.hl : Int) + (t.hd : Int)) = false := by simp; omega
      obtain ⟨hlb, hall, -⟩ := HR.out.2.1.l8 HR.out.2.2.1
      have hlen : t.lens.length = t.hl + t.hd := by omega
      have HLen := Lib.hid (And.intro hlen hall)
      have HStep : Hid (InfMath.step t = if InfMath.goodCodes (t.lens.take t.hl) (t.lens.drop t.hl) = false then .halt 2
          else .more { t with lit := some (t.lens.take t.hl), dist := some (t.lens.drop t.hl), hl := 0, hd := 0, hc := 0, lens := [], hcode := none, next := 9 }) := Lib.hid (by
        unfold InfMath.step
        rw [HR.out.2.2.1]
        show InfMath.readLengths t = _
        unfold InfMath.readLengths
        rw [if_neg hlt])
      clear hlb hall hlen
      go_wp2_with fail
      go_quiet (fail)
      have HA1 : Hid (At B (wr.drewN nq) x t d1) := Lib.hid (HR.out.2.2.2.1.drewN _)
      have HM1 : Hid (Mv d.c d1.c w (wr.drewN nq)) := Lib.hid (HR.out.2.2.2.2.drewN _)
      clear h9 h10 h12 w3' hdd hlt
      generalize wr.drewN nq = wq at *
      have hrow := HA1.out.rs.lens.1.rowIn (by simp [ints])
      obtain ⟨b, off, hla⟩ := hrow.some_ (by have := HLen.out.1; omega)
      have hlc := hrow.le_cap
      have hcm := hrow.cap_le
      obtain ⟨Hl, hHl⟩ : ∃ Hl, Hl = t.hl := ⟨_, rfl⟩
      obtain ⟨N, hN⟩ : ∃ N, N = t.lens.length := ⟨_, rfl⟩
      obtain ⟨l, hl⟩ : ∃ l, l = t.lens.take t.hl := ⟨_, rfl⟩
      obtain ⟨dl, hdl⟩ : ∃ dl, dl = t.lens.drop t.hl := ⟨_, rfl⟩
      have hll : l.length = Hl := by rw [hl, List.length_take]; have := HLen.out.1; omega
      have hdll : dl.length = N - Hl := by rw [hdl, List.length_drop]; omega
      have hrl : RowIn wq (some ⟨b, off, none⟩) l.length d1.lc ((ints l).map iv) := by
        have h1 := hrow
        rw [hla] at h1
        have := row_take h1 Hl (by have := HLen.out.1; omega)
        rw [hll, hl, ← hHl]
        simpa [ints, List.map_take] using this
      have hrd : RowIn wq (some ⟨b, off + Hl, none⟩) dl.length (d1.lc - Hl) ((ints dl).map iv) := by
        have h1 := hrow
        rw [hla] at h1
        have := row_drop h1 Hl (by have := HLen.out.1; omega)
        rw [hdll, hdl, ← hHl, hN]
        simpa [ints, List.map_drop] using this
      have h12 : wq.cell? ⟨x, 12, none⟩ = some (.slice (some ⟨b, off, none⟩) N d1.lc) := by have := HA1.out.blk.cell 12; rw [this, ← hla, hN]; rfl
      have h9 : wq.cell? ⟨x, 9, none⟩ = some (.int .i64 (Hl : Int)) := by have := HA1.out.blk.cell 9; rw [this, hHl]; rfl
      have hnums : 257 ≤ Hl ∧ Hl ≤ 286 ∧ Hl < N ∧ N ≤ d1.lc ∧ N - Hl ≤ 32 := by have := HLen.out.1; have := HH.out; omega
      have hne : ¬ d1.lc = Hl := by omega
      have HRL := Lib.hid (And.intro hrl (And.intro hrd (And.intro hll hdll)))
      have HNum := Lib.hid hnums
      rw [← hl, ← hdl] at HStep
      have HAll : Hid ((∀ y ∈ l, y ≤ 15) ∧ ∀ y ∈ dl, y ≤ 15) := Lib.hid ⟨fun y hy => HLen.out.2 y (by rw [hl] at hy; exact List.mem_of_mem_take hy), fun y hy => HLen.out.2 y (by rw [hdl] at hy; exact List.mem_of_mem_drop hy)⟩
      clear hrow hla hHl hN hl hdl hll hdll hrl hrd HLen HH
      go_wp2_with fail
      go_quiet (fail)
      have HA2 : Hid (At B (wq.drewN nq) x t d1) := Lib.hid (HA1.out.drewN _)
      have HM2 : Hid (Mv d.c d1.c w (wq.drewN nq)) := Lib.hid (HM1.out.drewN _)
      have hq : Below wq.heap.size wq (wq.drewN nq) := quiet_below wq nq
      have HRL2 : Hid (RowIn (wq.drewN nq) (some ⟨b, off, none⟩) l.length d1.lc ((ints l).map iv) ∧ RowIn (wq.drewN nq) (some ⟨b, off + Hl, none⟩) dl.length (d1.lc - Hl) ((ints dl).map iv) ∧ l.length = Hl ∧ dl.length = N - Hl) := Lib.hid ⟨HRL.out.1.below (Nat.le_refl _) hq, HRL.out.2.1.below (Nat.le_refl _) hq, HRL.out.2.2⟩
      clear h12 h9 hne hlc hcm hnums hq HRL HA1 HM1 hhl hhd
      generalize wq.drewN nq = w0 at *
      have HU : Hid (∀ w', Below w0.heap.size w0 w' → Calls Tryz.prog 98 #[.slice (some ⟨b, off, none⟩) Hl d1.lc] w' fun e w'' => e = .returned (.bool (InfMath.usable l)) ∧ Below w'.heap.size w' w'') := Lib.hid (fun w' hb => by
        have h1 := usable_any l _ _ w' (HRL2.out.1.below (Nat.le_refl _) hb) (by have := HRL2.out; have := HNum.out; omega) HAll.out.1
        rw [HRL2.out.2.2.1] at h1; exact h1)
      have HUD : Hid (∀ w', Below w0.heap.size w0 w' → Calls Tryz.prog 98 #[.slice (some ⟨b, off + Hl, none⟩) (N - Hl) (d1.lc - Hl)] w' fun e w'' => e = .returned (.bool (InfMath.usable dl)) ∧ Below w'.heap.size w' w'') := Lib.hid (fun w' hb => by
        have h1 := usable_any dl _ _ w' (HRL2.out.2.1.below (Nat.le_refl _) hb) (by have := HRL2.out; have := HNum.out; omega) HAll.out.2
        rw [HRL2.out.2.2.2] at h1; exact h1)
      have HKD : Hid (∀ w', Below w0.heap.size w0 w' → Calls Tryz.prog 95 #[.slice (some ⟨b, off + Hl, none⟩) (N - Hl) (d1.lc - Hl)] w' fun e w'' => e = .returned (.int .i64 ((InfMath.kd dl : Nat) : Int)) ∧ Below w'.heap.size w' w'') := Lib.hid (fun w' hb => by
        have h1 := kind_good (HRL2.out.2.1.below (Nat.le_refl _) hb) (ints_good (by have := HRL2.out; have := HNum.out; omega) HAll.out.2)
        rw [nat_ints, kind_kd, HRL2.out.2.2.2] at h1; exact h1)
      have HGC : Hid (InfMath.goodCodes l dl = (l.getD 256 0 != 0 && InfMath.usable l && (InfMath.kd dl == 0 || InfMath.usable dl))) := Lib.hid rfl
      have hc256 : w0.cell? ⟨b, off + 256, none⟩ = some (.int .i64 ((l.getD 256 0 : Nat) : Int)) := by
        have hk : 256 < l.length := by rw [HRL2.out.2.2.1]; have := HNum.out; omega
        rw [HRL2.out.1.get 256 (by simp [ints]; exact hk)]
        simp [ints, iv, List.getD_eq_getElem?_getD, List.getElem?_eq_getElem hk]
      have hH256 : (256 : Nat) < Hl := by have := HNum.out; omega
      obtain ⟨G, hG⟩ : ∃ G, G = InfMath.goodCodes l dl := ⟨_, rfl⟩
      have HGq := Lib.hid hG
      rw [← hG] at HGC HStep
      generalize l.getD 256 0 = L at *
      obtain ⟨U, hU⟩ : ∃ U, U = InfMath.usable l := ⟨_, rfl⟩
      obtain ⟨UD, hUD⟩ : ∃ UD, UD = InfMath.usable dl := ⟨_, rfl⟩
      obtain ⟨K, hK⟩ : ∃ K, K = InfMath.kd dl := ⟨_, rfl⟩
      have HUq := Lib.hid (And.intro hU (And.intro hUD hK))
      rw [← hU] at HU HGC
      rw [← hUD] at HUD HGC
      rw [← hK] at HKD HGC
      clear hG hU hUD hK
      go_upto_region 3 with (fail)
      go_cut [64] (fun bv wx => bv = .bool (!G) ∧ Below w0.heap.size w0 wx)
      case first =>
        by_cases hL0 : L = 0
        · subst hL0
          go_wp2_with fail
          go_meet
          case rel => exact ⟨by rw [HGC.out]; rfl, Below.refl _ _⟩
        · have hLz : ((L : Int) == 0) = false := by simp; omega
          have HLz : Hid ((L != 0) = true) := Lib.hid (by simp; omega)
          cases U
          · go_wp2_with fail
            refine (HU.out _ (Below.refl _ _)).mono ?_
            rintro e w1 ⟨rfl, hb1⟩
            go_wp2_with fail
            go_meet
            case rel => exact ⟨by rw [HGC.out]; simp, hb1⟩
          · by_cases hK0 : K = 0
            · subst hK0
              go_wp2_with fail
              refine (HU.out _ (Below.refl _ _)).mono ?_
              rintro e w1 ⟨rfl, hb1⟩
              have HB1 := Lib.hid hb1
              clear hb1
              go_wp2_with fail
              refine (HKD.out _ HB1.out).mono ?_
              rintro e w2 ⟨rfl, hb2⟩
              have HB2 := Lib.hid (HB1.out.trans (hb2.mono HB1.out.size))
              clear hb2
              go_wp2_with fail
              go_meet
              case rel => exact ⟨by rw [HGC.out, HLz.out]; rfl, HB2.out⟩
            · have hKz : ((K : Int) != 0) = true := by simp; omega
              have HKz : Hid ((K == 0) = false) := Lib.hid (by simp; omega)
              cases UD
              all_goals
                go_wp2_with fail
                refine (HU.out _ (Below.refl _ _)).mono ?_
                rintro e w1 ⟨rfl, hb1⟩
                have HB1 := Lib.hid hb1
                clear hb1
                go_wp2_with fail
                refine (HKD.out _ HB1.out).mono ?_
                rintro e w2 ⟨rfl, hb2⟩
                have HB2 := Lib.hid (HB1.out.trans (hb2.mono HB1.out.size))
                clear hb2
                go_wp2_with fail
                refine (HUD.out _ HB2.out).mono ?_
                rintro e w3 ⟨rfl, hb3⟩
                have HB3 := Lib.hid (HB2.out.trans (hb3.mono HB2.out.size))
                clear hb3
                go_wp2_with fail
                go_meet
                case rel => exact ⟨by rw [HGC.out, HLz.out, HKz.out]; rfl, HB3.out⟩
      case rest =>
        obtain ⟨rfl, hbc⟩ := hcut
        obtain ⟨hAc, hMc⟩ := HA2.out.color hbc 0
        obtain ⟨d3, hd3⟩ : ∃ d3, d3 = { d1 with c := recol w0.heap.size d1.c 0 } := ⟨_, rfl⟩
        have HA3 : Hid (At B wc x t d3) := Lib.hid (by rw [hd3]; exact hAc)
        have HM3 : Hid (Mv d.c d3.c w wc) := Lib.hid (by rw [hd3]; exact HM2.out.trans hMc)
        have HRc : Hid (RowIn wc (some ⟨b, off, none⟩) l.length d1.lc ((ints l).map iv) ∧ RowIn wc (some ⟨b, off + Hl, none⟩) dl.length (d1.lc - Hl) ((ints dl).map iv)) := Lib.hid ⟨HRL2.out.1.below (Nat.le_refl _) hbc, HRL2.out.2.1.below (Nat.le_refl _) hbc⟩
        clear hbc hAc hMc hd3 HU HUD HKD hc256 HA2 HM2
        cases G
        · go_wp2_with fail
          refine (fail_any 2 wc).mono ?_
          rintro e w' ⟨rfl, rfl⟩
          go_wp2_with fail
          refine ⟨rfl, d3, HM3, .inr ⟨2, t, t, rfl, ⟨HR.out.1, ?_⟩, HA3, rfl, rfl, fun h => by simp at h⟩⟩
          rw [HStep.out]; exact if_pos trivial
        · have hgood : InfMath.usable l = true ∧ (InfMath.kd dl = 0 ∨ InfMath.usable dl = true) := by
            have h1 := HGq.out
            unfold InfMath.goodCodes at h1
            have h2 := h1.symm
            simp only [Bool.and_eq_true, Bool.or_eq_true, beq_iff_eq] at h2
            exact ⟨h2.1.2, h2.2⟩
          have hcl : CodeOk l := ⟨by rw [HRL2.out.2.2.1]; have := HNum.out; omega, HAll.out.1, InfMath.usable_kr hgood.1⟩
          have hcd : CodeOk dl := ⟨by rw [HRL2.out.2.2.2]; have := HNum.out; omega, HAll.out.2, by
            rcases hgood.2 with hg | hg
            · exact InfMath.kd_kr hg (by decide)
            · exact InfMath.usable_kr hg⟩
          have HCD := Lib.hid hcd
          have HQ := Lib.hid (made_any l 9 _ _ wc HRc.out.1 hcl (by omega) (by omega))
          rw [HRL2.out.2.2.1] at HQ
          clear hgood hcl hcd
          go_wp2_with fail
          refine HQ.out.mono ?_
          rintro e w4 ⟨g1, rfl, ht, hb4⟩
          obtain ⟨hA4, hM4⟩ := HA3.out.color hb4 6
          obtain ⟨d4, hd4⟩ : ∃ d4, d4 = { d3 with c := recol wc.heap.size d3.c 6 } := ⟨_, rfl⟩
          have HA4 : Hid (At B w4 x t d4) := Lib.hid (by rw [hd4]; exact hA4)
          have HM4 : Hid (Mv d.c d4.c w w4) := Lib.hid (by rw [hd4]; exact HM3.out.trans hM4)
          have HT4 : Hid (TabIn w4 d4.c g1 l 9) := Lib.hid (by rw [hd4]; exact isTab_in d3.c ht)
          have HQ2 := Lib.hid (made_any dl 6 _ _ w4 (HRc.out.2.below (Nat.le_refl _) hb4) HCD.out (by omega) (by omega))
          rw [HRL2.out.2.2.2] at HQ2
          clear ht hb4 hA4 hM4 hd4 HQ HA3 HM3 HRc
          go_wp2_with fail
          refine HQ2.out.mono ?_
          rintro e w5 ⟨g2, rfl, ht, hb5⟩
          obtain ⟨hA5, hM5⟩ := HA4.out.color hb5 6
          obtain ⟨d5, hd5⟩ : ∃ d5, d5 = { d4 with c := recol w4.heap.size d4.c 6 } := ⟨_, rfl⟩
          rw [← hd5] at hA5
          have hM5' : Mv d.c d5.c w w5 := by rw [hd5]; exact HM4.out.trans hM5
          have hT5 : TabIn w5 d5.c g1 l 9 := by rw [hd5]; exact HT4.out.turn (i := 0) ⟨Only.of_below hb5 _, fun k hk => recol_old d4.c hk⟩ (by decide)
          have hT5b : TabIn w5 d5.c g2 dl 6 := by rw [hd5]; exact isTab_in d4.c ht
          have h16 : w5.cell? ⟨x, 16, none⟩ = some (ptr d5.lt) := hA5.blk.cell 16
          have h17 : w5.cell? ⟨x, 17, none⟩ = some (ptr d5.dt) := hA5.blk.cell 17
          have h9 : w5.cell? ⟨x, 9, none⟩ = some (.int .i64 (t.hl : Int)) := hA5.blk.cell 9
          have h10 : w5.cell? ⟨x, 10, none⟩ = some (.int .i64 (t.hd : Int)) := hA5.blk.cell 10
          have h11 : w5.cell? ⟨x, 11, none⟩ = some (.int .i64 (t.hc : Int)) := hA5.blk.cell 11
          have h12 : w5.cell? ⟨x, 12, none⟩ = some (.slice d5.la t.lens.length d5.lc) := hA5.blk.cell 12
          have h13 : w5.cell? ⟨x, 13, none⟩ = some (ptr d5.ht) := hA5.blk.cell 13
          have h6 : w5.cell? ⟨x, 6, none⟩ = some (.int .i64 (t.next : Int)) := hA5.blk.cell 6
          have f16 := hA5.blk.frozen 16
          have f17 := hA5.blk.frozen 17
          have f9 := hA5.blk.frozen 9
          have f10 := hA5.blk.frozen 10
          have f11 := hA5.blk.frozen 11
          have f12 := hA5.blk.frozen 12
          have f13 := hA5.blk.frozen 13
          have f6 := hA5.blk.frozen 6
          obtain ⟨hA6, hM6⟩ := hA5.codes hT5 hT5b
          obtain ⟨hA7, hM7⟩ := hA6.head 0
          have H8 := Lib.hid (hA7.set 6 (.int .i64 9) { t with lit := some l, dist := some dl, hl := 0, hd := 0, hc := 0, lens := [], hcode := none, next := 9 } rfl ⟨rfl, rfl, rfl, rfl, rfl, rfl, rfl, rfl, rfl, rfl, rfl⟩)
          have M8 := Lib.hid (hM5'.trans (hM6.trans (hM7.trans (hA7.set_mv 6 (.int .i64 9)))))
          unfold heads at H8 M8
          clear ht hb5 hA5 hM5 hM5' hd5 hT5 hT5b hA6 hM6 hA7 hM7 HQ2 HA4 HM4 HT4
          go_wp2_with fail
          go_end0
          refine ⟨{ d5 with lt := some g1, dt := some g2, la := none, lc := 0, ht := none }, M8, .inl ⟨rfl, _, steps1_of HR.out.1 ?_, (fun h => by simp at h), H8⟩⟩
          rw [HStep.out, if_neg (by decide)]
end
end Go.Proofs.YtdbcendnibgcaaaGreatDoor.InfC
end

section
/-
  Tokens: readLiteral, readDistance.
-/
namespace Go.Proofs.YtdbcendnibgcaaaGreatDoor.InfC
open Go.RowKit Go.My BitMath CanMath TabMath WinMath FeedC TabC CanC
open WinC (Wn)
open InfMath (M Ok CodeOk mu lack fixL fixD)

section
variable {B x : Nat} {w : World} {s : M} {d : Ad}
set_option maxRecDepth 100000 in
set_option maxHeartbeats 4000000 in
theorem literal_any (h : Hid (At B w x s d)) (hok : Ok s) (hn : s.next = 9) :
    Calls Tryz.prog 84 #[.pointer (some ⟨x, 0, none⟩)] w (Goes B x s d w) := by
  obtain ⟨ls, ds, hls, hds, hck, hcd⟩ := hok.lit (.inl hn)
  have hb : s.bits.length ≤ 1000000000 := by have := hok.bnd; have := hok.psh; omega
  have HS : Hid (InfMath.step s = if (InfMath.sym ls s.bits).2.2 ≠ 0 then .halt (InfMath.bad s (InfMath.sym ls s.bits).2.2) else InfMath.readLit s (InfMath.sym ls s.bits).1 (InfMath.sym ls s.bits).2.1) := Lib.hid (by
    unfold InfMath.step; rw [hn]
    show InfMath.readLiteral s = _
    unfold InfMath.readLiteral
    rw [hls]; rfl)
  obtain ⟨g, hg, ht⟩ := h.out.rs.t4.get hls
  have h16 : w.cell? ⟨x, 16, none⟩ = some (.pointer (some ⟨g, 0, none⟩)) := by have := h.out.blk.cell 16; rw [this]; show some (ptr d.lt) = _; rw [hg]; rfl
  have HQ := Lib.hid (symbol_any g 9 ls h ht hck (by omega) (by omega) hb)
  have htot := hok.tot
  have hroom := hok.room
  have hmost := hok.most
  have houtl := hok.outl
  clear ht hg hls hds hcd
  go_enter Tryz.func84, Tryz.ntmps84
  go_wp2_with fail
  refine HQ.out.mono ?_
  rintro e w1 ⟨hsym, hb1⟩
  have H1 := Lib.hid (h.out.later hb1)
  have M1 := Lib.hid (Mv.of_below hb1 d.c)
  clear hb1 h16 HQ
  rcases hsym with ⟨hc0, rfl⟩ | ⟨hc0, rfl⟩
  · go_wp2_with fail
    refine ⟨rfl, Goes.halt ?_ H1 M1 rfl⟩
    rw [HS.out, if_pos hc0]
  · obtain ⟨-, -, s1, s2, s3, s4⟩ := InfMath.sym_ok hc0
    have HS2 : Hid (InfMath.step s = InfMath.readLit s (InfMath.sym ls s.bits).1 (InfMath.sym ls s.bits).2.1) := Lib.hid (by
      rw [HS.out, if_neg (by omega)])
    have hls2 := hck.len
    obtain ⟨v, hv⟩ : ∃ v, v = (InfMath.sym ls s.bits).1 := ⟨_, rfl⟩
    obtain ⟨n, hnq⟩ : ∃ n, n = (InfMath.sym ls s.bits).2.1 := ⟨_, rfl⟩
    rw [← hv] at HS2 s4 ⊢
    rw [← hnq] at HS2 s1 s2 s3 ⊢
    clear hc0 hv hnq HS hck
    have h2 : w1.cell? ⟨x, 2, none⟩ = some (.pointer (some ⟨d.f, 0, none⟩)) := H1.out.blk.cell 2
    by_cases hv1 : v < 256
    · have hd1 : decide ((v : Int) < 256) = true := by simp; omega
      have hwv : IntKind.u8.wrap (v : Int) = ((UInt8.ofNat v).toNat : Int) := by rw [IntKind.wrap_u8, UInt8.toNat_ofNat']; omega
      go_wp2_with fail
      refine (room_any 1 H1 hroom hmost).mono ?_
      rintro e w2 ⟨hr, j, hj⟩
      have H2 : Hid (At B w2 x s d) := Lib.hid (by rw [hj]; exact H1.out.drewN j)
      have M2 : Hid (Mv d.c d.c w w2) := Lib.hid (by rw [hj]; exact M1.out.drewN j)
      clear hj H1 M1 h2
      rcases hr with ⟨hr, rfl⟩ | ⟨hr, rfl⟩
      · go_wp2_with fail
        refine ⟨rfl, Goes.halt ?_ H2 M2 rfl⟩
        rw [HS2.out]; unfold InfMath.readLit; rw [if_pos hv1, if_pos (by omega)]
      · have h2 : w2.cell? ⟨x, 2, none⟩ = some (.pointer (some ⟨d.f, 0, none⟩)) := H2.out.blk.cell 2
        go_wp2_with fail
        refine (skip_at n H2 s2 hb).mono ?_
        rintro e w3 ⟨rfl, d3, H3, M3⟩
        clear h2
        go_wp2_with fail
        refine (put_any (UInt8.ofNat v) H3 (by simp only; omega) (by simp only; omega) (by simp only; omega)).mono ?_
        rintro e w4 ⟨rfl, d4, H4, M4⟩
        go_wp2_with fail
        go_end0
        refine Goes.more ?_ H4 (Lib.hid (M2.out.trans (M3.out.trans M4.out))) (fun h => by have h2 : s.next = 10 := h; omega)
        rw [HS2.out]; unfold InfMath.readLit; rw [if_pos hv1, if_neg (by omega)]; rfl
    · have hd1 : decide ((v : Int) < 256) = false := by simp; omega
      by_cases hv2 : v = 256
      · subst hv2
        go_wp2_with fail
        refine (skip_at n H1 s2 hb).mono ?_
        rintro e w3 ⟨rfl, d3, H3, M3⟩
        clear h2
        go_wp2_with fail
        refine (close_any H3).mono ?_
        rintro e w4 ⟨rfl, hA, hM⟩
        have H4 := Lib.hid hA
        have M4 := Lib.hid (M1.out.trans (M3.out.trans hM))
        clear hA hM
        go_wp2_with fail
        go_end0
        refine Goes.more ?_ H4 M4 (fun h => absurd h (close_ne _))
        rw [HS2.out]; unfold InfMath.readLit; rw [if_neg hv1, if_pos rfl]
      · have hvz : ((v : Int) == 256) = false := by simp; omega
        have HV := Lib.hid (value_base v n H1 s3 hb)
        obtain ⟨o, ho⟩ : ∃ o, o = InfMath.base v s.wide := ⟨_, rfl⟩
        have HOq := Lib.hid ho
        rw [← ho] at HV
        clear ho h2
        go_wp2_with fail
        refine HV.out.mono ?_
        rintro e w2 hval
        rcases hval with ⟨rfl, rfl, rfl⟩ | ⟨l, y, rfl, hval⟩
        · go_wp2_with fail
          refine ⟨rfl, Goes.halt ?_ H1 M1 rfl⟩
          rw [HS2.out]; unfold InfMath.readLit; rw [if_neg hv1, if_neg hv2, ← HOq.out]
        · rcases hval with ⟨hbl, rfl, hb2⟩ | ⟨hbl, rfl, d2, H2, M2⟩
          · have H2 := Lib.hid (H1.out.later hb2)
            have M2 := Lib.hid (M1.out.trans (Mv.of_below hb2 d.c))
            clear hb2
            go_wp2_with fail
            refine ⟨rfl, Goes.halt ?_ H2 M2 rfl⟩
            rw [HS2.out]; unfold InfMath.readLit; rw [if_neg hv1, if_neg hv2, ← HOq.out]; exact if_pos hbl
          · obtain ⟨L, hL⟩ : ∃ L, L = l + num ((s.bits.drop n).take y) := ⟨_, rfl⟩
            have HLq := Lib.hid hL
            rw [← hL]
            clear hL
            have HSt : Hid (InfMath.step s = .more { s with bits := s.bits.drop (n + y), matching := L, next := 10 }) := Lib.hid (by
              rw [HS2.out]; unfold InfMath.readLit; rw [if_neg hv1, if_neg hv2, ← HOq.out]
              show (if s.bits.length < n + y then _ else _) = _
              rw [if_neg (by omega), HLq.out])
            have h18 : w2.cell? ⟨x, 18, none⟩ = some (.int .i64 (s.matching : Int)) := H2.out.blk.cell 18
            have f18 := H2.out.blk.frozen 18
            have h3 := H2.out.set 18 (.int .i64 (L : Int)) { s with bits := s.bits.drop (n + y), matching := L } rfl ⟨rfl, rfl, rfl, rfl, rfl, rfl, rfl, rfl, rfl, rfl, rfl⟩
            have H3 := Lib.hid h3
            have M3 := Lib.hid (M1.out.trans (M2.out.trans (H2.out.set_mv 18 (.int .i64 (L : Int)))))
            have h18b : (w2.setCell ⟨x, 18, none⟩ (.int .i64 (L : Int))).cell? ⟨x, 18, none⟩ = some (.int .i64 (L : Int)) := h3.blk.cell 18
            clear h3 HV H1 M1 H2 M2 HOq HLq
            go_wp2_with fail
            refine (room_any L H3 (by simp only; omega) hmost).mono ?_
            rintro e w4 ⟨hr, j, hj⟩
            have H4 := Lib.hid (H3.out.drewN j)
            have M4 := Lib.hid (M3.out.drewN j)
            rw [← hj] at H4 M4
            clear hj H3 M3 h18 f18 h18b
            rcases hr with ⟨hr, rfl⟩ | ⟨hr, rfl⟩
            · go_wp2_with fail
              refine ⟨rfl, d2, M4, .inr ⟨3, _, _, rfl, ⟨.one HSt.out, ?_⟩, H4, rfl, rfl, fun h => by simp at h⟩⟩
              unfold InfMath.step
              simp only
              unfold InfMath.readDistance
              rw [if_pos hr]
            · have h6 : w4.cell? ⟨x, 6, none⟩ = some (.int .i64 (s.next : Int)) := H4.out.blk.cell 6
              have f6 := H4.out.blk.frozen 6
              have H5 := Lib.hid (H4.out.set 6 (.int .i64 10) { s with bits := s.bits.drop (n + y), matching := L, next := 10 } rfl ⟨rfl, rfl, rfl, rfl, rfl, rfl, rfl, rfl, rfl, rfl, rfl⟩)
              have M5 := Lib.hid (M4.out.trans (H4.out.set_mv 6 (.int .i64 10)))
              clear H4 M4
              go_wp2_with fail
              go_end0
              exact Goes.more HSt.out H5 M5 (fun _ => hr)
end
end Go.Proofs.YtdbcendnibgcaaaGreatDoor.InfC
end
