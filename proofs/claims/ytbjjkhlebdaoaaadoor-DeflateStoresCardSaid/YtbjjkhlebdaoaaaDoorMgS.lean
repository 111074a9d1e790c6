import Derived.Test.YtbjjkhlebdaoaaaDoorMgF
import Derived.Deep.DeepCutAuto
import Derived.Deep.CutBlock

section
/-
  slices.symMergeCmpFunc: two rows that rise become one.
-/
namespace Go.Proofs.YtbjjkhlebdaoaaaDoor.PkC
open Go.Shelf Go.RowKit Go.Lib Go.Sort Go.My

section
variable {n : Nat} [NeZero n] {raw key : Fin n → Int} {w0 : World} {blk off cap c cb co len cc : Nat} {d0 : Array (Fin n)}
/-- What a call of symMerge does. -/
def SymDone (key : Fin n → Int) (w0 : World) (blk off cap c N a m b : Nat) (d : Array (Fin n)) (w : World) : Prop :=
  Calls Tryd.prog 101 #[.slice (some ⟨blk, off, none⟩) N cap, .int .i64 a, .int .i64 m, .int .i64 b, .func (.func 93) #[] #[.pointer (some ⟨c, 0, none⟩)]] w fun e w' => e = .returned (.tuple #[]) ∧ ∃ d', d'.size = N ∧ PermIn a b d d' ∧ Rise key a b d' ∧ SW encF w0 blk off d' w'

set_option maxRecDepth 100000 in
set_option maxHeartbeats 8000000 in
theorem sym_both {N : Nat} {w : World} {a m b : Nat} {d : Array (Fin n)} (hB : Box w0 blk c cb co len cc n raw) (R : Row1 encF w0 blk off d0) (hs : d0.size = N) (hd : d.size = N) (S : SW encF w0 blk off d w) (h1 : a + 1 < m) (h2 : m + 1 < b) (h3 : b ≤ N) (hsz : N < 2305843009213693952) (hA : Rise key a m d) (hR : Rise key m b d) (hT : Tie raw key) (hP : Sep a m b d)
    (IH : ∀ (a' m' b' : Nat) (d' : Array (Fin n)) (w' : World), b' - a' < b - a → d'.size = N → SW encF w0 blk off d' w' → a' < m' → m' < b' → b' ≤ N → Rise key a' m' d' → Rise key m' b' d' → Sep a' m' b' d' → SymDone key w0 blk off cap c N a' m' b' d' w') :
    SymDone key w0 blk off cap c N a m b d w := by
  unfold SymDone
  have HB := Lib.hid hB
  have HR := Lib.hid R
  have HS := Lib.hid S
  have HS0 := Lib.hid hs
  have HD := Lib.hid hd
  have HI := Lib.hid hR
  have HJ := Lib.hid hA
  have HIH := Lib.hid IH
  have HT := Lib.hid hT
  have HSP := Lib.hid hP
  clear hB R S hs hd hR hA IH hT hP
  obtain ⟨g, hg⟩ : ∃ g, g = m - a := ⟨_, rfl⟩
  obtain ⟨g2, hg2⟩ : ∃ g, g = b - m := ⟨_, rfl⟩
  obtain ⟨mid, hmid⟩ : ∃ mid, mid = (a + b) / 2 := ⟨_, rfl⟩
  obtain ⟨nn, hnn⟩ : ∃ nn, nn = mid + m := ⟨_, rfl⟩
  have k1 : IntKind.i64.wrap ((m : Int) - (a : Int)) = (g : Int) := by rw [IntKind.wrap_i64]; omega
  have k2 : ((g : Int) == 1) = false := by simp; omega
  have k3 : IntKind.i64.wrap ((b : Int) - (m : Int)) = (g2 : Int) := by rw [IntKind.wrap_i64]; omega
  have k4 : ((g2 : Int) == 1) = false := by simp; omega
  have k5 : ((a : Int) + (b : Int)) / 2 = (mid : Int) := by omega
  have k6 : IntKind.i64.wrap ((mid : Int) + (m : Int)) = (nn : Int) := by rw [IntKind.wrap_i64]; omega
  have HM : Hid (mid ≤ (a + b) / 2 ∧ (a + b) / 2 ≤ mid) := Lib.hid (by omega)
  have HN : Hid (nn ≤ mid + m ∧ mid + m ≤ nn) := Lib.hid (by omega)
  clear hg hg2 hmid hnn
  go_enter Tryd.func101, Tryd.ntmps101
  go_upto_if 140 with (fail)
  clear k1 k2 k3 k4 k5 k6
  go_cut [20, 21] (fun s r wc => (∃ s0 r0 : Nat, s = .int .i64 (s0 : Int) ∧ r = .int .i64 (r0 : Int) ∧ a ≤ s0 ∧ s0 ≤ r0 ∧ r0 ≤ m ∧ r0 ≤ mid ∧ Hid ((s0 = a ∨ nn - s0 = b) ∧ (r0 = m ∨ nn - r0 = m) ∧ nn - s0 ≤ b ∧ m ≤ nn - r0)) ∧ wc = w)
  case first =>
    as_aux_lemma =>
      have hm := HM.out
      have hn := HN.out
      by_cases hc : mid < m
      · have hci : (mid : Int) < (m : Int) := by omega
        obtain ⟨s0, hs0⟩ : ∃ s0, s0 = nn - b := ⟨_, rfl⟩
        have e1 : IntKind.i64.wrap ((nn : Int) - (b : Int)) = (s0 : Int) := by rw [IntKind.wrap_i64]; omega
        have HF : Hid (a ≤ s0 ∧ s0 ≤ mid ∧ mid ≤ m ∧ (s0 = a ∨ nn - s0 = b) ∧ (mid = m ∨ nn - mid = m) ∧ nn - s0 ≤ b ∧ m ≤ nn - mid) := Lib.hid (by omega)
        clear hs0 hm hn
        go_wp2_with fail
        go_meet
        case rel => exact ⟨⟨s0, mid, rfl, rfl, HF.out.1, HF.out.2.1, HF.out.2.2.1, Nat.le_refl _, Lib.hid HF.out.2.2.2⟩, rfl⟩
      · have hci : ¬ (mid : Int) < (m : Int) := by omega
        have HF : Hid (nn - a ≤ b ∧ m ≤ nn - m) := Lib.hid (by omega)
        clear hm hn
        go_wp2_with fail
        go_meet
        case rel => exact ⟨⟨a, m, rfl, rfl, by omega, by omega, by omega, by omega, Lib.hid ⟨.inl rfl, .inl rfl, HF.out.1, HF.out.2⟩⟩, rfl⟩
  obtain ⟨⟨s0, r0, rfl, rfl, q1, q2, q3, q4, HQ⟩, rfl⟩ := hcut
  obtain ⟨pp, hpp⟩ : ∃ pp, pp = nn - 1 := ⟨_, rfl⟩
  have k7 : IntKind.i64.wrap ((nn : Int) - 1) = (pp : Int) := by have := HM.out; have := HN.out; rw [IntKind.wrap_i64]; omega
  have HP : Hid (pp + 1 = nn ∧ nn < 4611686018427387904) := Lib.hid (by have := HM.out; have := HN.out; omega)
  clear hpp
  go_wp2_with fail
  clear k7
  go_loopw [20, 21] (fun s t wr => ∃ (i j : Nat), s = .int .i64 (i : Int) ∧ t = .int .i64 (j : Int) ∧ s0 ≤ i ∧ i ≤ j ∧ j ≤ r0 ∧ Hid (i = s0 ∨ key d[i - 1]! ≤ key d[nn - i]!) ∧ Hid (j = r0 ∨ key d[nn - j - 1]! < key d[j]!) ∧ Hid (SW encF w0 blk off d wr)) (fun s t _ => (intOf t).toNat - (intOf s).toNat)
  case atStart => exact ⟨s0, r0, rfl, rfl, by omega, by omega, by omega, Lib.hid (.inl rfl), Lib.hid (.inl rfl), HS⟩
  case round =>
    clear HS
    obtain ⟨i, j, rfl, rfl, him, hij, hjb, HL, HG, HS⟩ := hrel
    by_cases hlt : i < j
    · have hlti : (i : Int) < (j : Int) := by omega
      obtain ⟨h, hh⟩ : ∃ h, h = (i + j) / 2 := ⟨_, rfl⟩
      obtain ⟨q, hq⟩ : ∃ q, q = pp - h := ⟨_, rfl⟩
      have z1 := HQ.out
      have z2 := HP.out
      have z3 := HD.out
      have z4 := HN.out
      obtain ⟨x, y, r, c1, c2, HC, HK⟩ := cmp_step HB.out HR.out (by rw [HS0.out, HD.out]) HS.out q h (by omega) (by omega) HT.out (HSP.out h q (by omega) (by omega) (by omega) (by omega))
      have e1 : ((i : Int) + (j : Int)) / 2 = (h : Int) := by omega
      have e2 : IntKind.i64.wrap ((pp : Int) - (h : Int)) = (q : Int) := by rw [IntKind.wrap_i64]; omega
      have b1 : (h : Int) < (N : Int) := by omega
      have b2 : (q : Int) < (N : Int) := by omega
      have g1 : i ≤ h ∧ h < j := by omega
      have HX : Hid (q = nn - h - 1 ∧ q = nn - (h + 1)) := Lib.hid (by omega)
      clear hh hlt hq z1 z2 z3 z4
      go_wp2_with fail
      by_cases hr : r < 0
      · as_aux_lemma =>
        have hd : decide (r < 0) = true := decide_eq_true hr
        have HK := Lib.hid (HK.out.1 hr)
        go_quiet ((go_at_call 93; exact Calls.quiet_of (HC.out _)))
        have HS2 : Hid (SW encF w0 blk off d (wr.drewN nq)) := Lib.hid (HS.out.drewN nq)
        clear HC HS c1 c2
        generalize wr.drewN nq = w2 at *
        go_wp2_with fail
        go_roundw
        case measure => simp [intOf]; omega
        case rel => exact ⟨i, h, rfl, rfl, him, by omega, by omega, HL, Lib.hid (.inr (by rw [← HX.out.1]; exact HK.out)), HS2⟩
      · as_aux_lemma =>
        have hd : decide (r < 0) = false := decide_eq_false hr
        have HK := Lib.hid (Int.not_lt.1 fun h => hr (HK.out.2 h))
        go_quiet ((go_at_call 93; exact Calls.quiet_of (HC.out _)))
        have HS2 : Hid (SW encF w0 blk off d (wr.drewN nq)) := Lib.hid (HS.out.drewN nq)
        clear HC HS c1 c2
        generalize wr.drewN nq = w2 at *
        go_wp2_with fail
        go_roundw
        case measure => simp [intOf]; omega
        case rel => exact ⟨h + 1, j, by simp, rfl, by omega, by omega, hjb, Lib.hid (.inr (by rw [← HX.out.2]; exact HK.out)), HG, HS2⟩
    · obtain rfl : i = j := by omega
      clear hlt
      have z1 := HQ.out
      have z2 := HP.out
      have z3 := HD.out
      have z4 := HN.out
      have z5 := HM.out
      obtain ⟨e, he⟩ : ∃ e, e = nn - i := ⟨_, rfl⟩
      have k8 : IntKind.i64.wrap ((nn : Int) - (i : Int)) = (e : Int) := by rw [IntKind.wrap_i64]; omega
      have y1 : a ≤ i ∧ i ≤ m ∧ m ≤ e ∧ e ≤ b ∧ i ≤ mid ∧ mid ≤ e := by omega
      have HE : Hid (i + e = mid + m) := Lib.hid (by omega)
      have HH : Hid (∀ d1, Rot d d1 i m e → PermIn a b d d1 ∧ Rise key a i d1 ∧ Rise key i mid d1 ∧ Rise key mid e d1 ∧ Rise key e b d1 ∧ ∀ x y, a ≤ x → x < mid → mid ≤ y → y < b → key d1[x]! ≤ key d1[y]!) := Lib.hid (by
        intro d1 hr
        refine halves d d1 a m b i e mid (by omega) HJ.out HI.out y1.1 y1.2.1 y1.2.2.1 y1.2.2.2.1 (by omega) ?_ ?_ hr
        · rcases HL.out with h | h
          · rcases z1.1 with h' | h'
            · exact .inl (by omega)
            · exact .inr (.inl (by omega))
          · rw [← he] at h; exact .inr (.inr h)
        · rcases HG.out with h | h
          · rcases z1.2.1 with h' | h'
            · exact .inl (by omega)
            · exact .inr (.inl (by omega))
          · rw [← he] at h; exact .inr (.inr h))
      obtain ⟨y1, y2, y3, y4, y5, y6⟩ := y1
      have HPP : Hid (∀ d1, Rot d d1 i m e → Sep a i mid d1 ∧ Sep mid e b d1) := Lib.hid fun d1 hr => halves_sep y1 y2 y3 y4 HE.out hr HSP.out
      have ymb : mid ≤ b ∧ a ≤ mid ∧ mid - a < b - a ∧ b - mid < b - a := by omega
      have HY := Lib.hid ymb
      clear z1 z2 z3 z4 z5 he HL HG HQ HP HN HM HI HJ ymb q1 q2 q3 q4 him hij hjb
      go_upto_region 39 with (fail)
      clear k8
      go_cut [185] (fun v wc => v = .bool (decide (i < m ∧ m < e)) ∧ wc = wr)
      case first =>
        as_aux_lemma =>
          by_cases t1 : i < m
          · have t1i : (i : Int) < (m : Int) := by omega
            by_cases t2 : m < e
            · have t2i : (m : Int) < (e : Int) := by omega
              go_wp2_with fail
              go_meet
              case rel => exact ⟨by rw [decide_eq_true (show i < m ∧ m < e from ⟨t1, t2⟩)], rfl⟩
            · have t2i : ¬ (m : Int) < (e : Int) := by omega
              go_wp2_with fail
              go_meet
              case rel => exact ⟨by rw [decide_eq_false (show ¬ (i < m ∧ m < e) from fun h => t2 h.2)], rfl⟩
          · have t1i : ¬ (i : Int) < (m : Int) := by omega
            go_wp2_with fail
            go_meet
            case rel => exact ⟨by rw [decide_eq_false (show ¬ (i < m ∧ m < e) from fun h => t1 h.1)], rfl⟩
      obtain ⟨rfl, rfl⟩ := hcut
      go_upto_if 185 with (fail)
      go_cut [] (fun wc => ∃ d1, d1.size = N ∧ Hid (Rot d d1 i m e) ∧ Hid (SW encF w0 blk off d1 wc))
      case first =>
        as_aux_lemma =>
          by_cases t : i < m ∧ m < e
          · rw [decide_eq_true t]
            have hc := rotate_any (cap := cap) (v := .func (.func 93) #[] #[.pointer (some ⟨c, 0, none⟩)]) HR.out (by rw [HS0.out, HD.out]) HS.out t.1 t.2 (by have := HD.out; omega) (by have := HD.out; omega)
            rw [HD.out] at hc
            have HC := Lib.hid hc
            clear hc HS t
            go_wp2_with fail
            refine HC.out.mono ?_
            rintro e3 w3 ⟨rfl, d1, hz, hr, hS⟩
            have HG : Hid (d1.size = N ∧ Rot d d1 i m e ∧ SW encF w0 blk off d1 w3) := Lib.hid ⟨hz, hr, hS⟩
            clear hz hr hS HC
            go_wp2_with fail
            go_meet
            case rel => exact ⟨d1, HG.out.1, Lib.hid HG.out.2.1, Lib.hid HG.out.2.2⟩
          · rw [decide_eq_false t]
            have HG : Hid (Rot d d i m e) := Lib.hid ⟨permIn_refl _ _ _, fun k hk => by
              have hie : i = m := by omega
              rw [hie], fun k hk => by
              have hie : e = m := by omega
              rw [hie, Nat.sub_self]; rfl⟩
            clear t
            go_wp2_with fail
            go_meet
            case rel => exact ⟨d, HD.out, HG, HS⟩
      clear HS
      obtain ⟨d1, hz1, HR1, HS1⟩ := hcut
      have HZ1 := Lib.hid hz1
      have HF1 := Lib.hid (HH.out d1 HR1.out)
      have HSP1 := Lib.hid (HPP.out d1 HR1.out)
      clear hz1 HH HR1 HPP HSP
      go_upto_region 41 with (fail)
      go_cut [199] (fun v wd => v = .bool (decide (a < i ∧ i < mid)) ∧ wd = wc)
      case first =>
        as_aux_lemma =>
          by_cases t1 : a < i
          · have t1i : (a : Int) < (i : Int) := by omega
            by_cases t2 : i < mid
            · have t2i : (i : Int) < (mid : Int) := by omega
              go_wp2_with fail
              go_meet
              case rel => exact ⟨by rw [decide_eq_true (show a < i ∧ i < mid from ⟨t1, t2⟩)], rfl⟩
            · have t2i : ¬ (i : Int) < (mid : Int) := by omega
              go_wp2_with fail
              go_meet
              case rel => exact ⟨by rw [decide_eq_false (show ¬ (a < i ∧ i < mid) from fun h => t2 h.2)], rfl⟩
          · have t1i : ¬ (a : Int) < (i : Int) := by omega
            go_wp2_with fail
            go_meet
            case rel => exact ⟨by rw [decide_eq_false (show ¬ (a < i ∧ i < mid) from fun h => t1 h.1)], rfl⟩
      obtain ⟨rfl, rfl⟩ := hcut
      go_upto_if 199 with (fail)
      go_cut [] (fun we => ∃ d2, d2.size = N ∧ Hid (PermIn a mid d1 d2 ∧ Rise key a mid d2) ∧ Hid (SW encF w0 blk off d2 we))
      case first =>
        as_aux_lemma =>
          by_cases t : a < i ∧ i < mid
          · rw [decide_eq_true t]
            have HC := Lib.hid (HIH.out a i mid d1 _ HY.out.2.2.1 HZ1.out HS1.out t.1 t.2 (by have := HY.out; omega) HF1.out.2.1 HF1.out.2.2.1 HSP1.out.1)
            clear t HS1
            go_wp2_with fail
            refine HC.out.mono ?_
            rintro e3 w3 ⟨rfl, d2, hz, hr, hr2, hS⟩
            have HG : Hid (d2.size = N ∧ (PermIn a mid d1 d2 ∧ Rise key a mid d2) ∧ SW encF w0 blk off d2 w3) := Lib.hid ⟨hz, ⟨hr, hr2⟩, hS⟩
            clear hz hr hr2 hS HC
            go_wp2_with fail
            go_meet
            case rel => exact ⟨d2, HG.out.1, Lib.hid HG.out.2.1, Lib.hid HG.out.2.2⟩
          · rw [decide_eq_false t]
            have HG : Hid (PermIn a mid d1 d1 ∧ Rise key a mid d1) := Lib.hid ⟨permIn_refl _ _ _, by
              by_cases hai : a < i
              · have : i = mid := by omega
                rw [← this]; exact HF1.out.2.1
              · have : a = i := by omega
                rw [this]; exact HF1.out.2.2.1⟩
            clear t
            go_wp2_with fail
            go_meet
            case rel => exact ⟨d1, HZ1.out, HG, HS1⟩
      clear HS1
      obtain ⟨d2, hz2, HP2, HS2⟩ := hcut
      have HZ2 := Lib.hid hz2
      have HA2 : Hid (Rise key mid e d2 ∧ Rise key e b d2) := Lib.hid ⟨fun x y h1 h2 h3 => by
        rw [HP2.out.1.2.1 x (.inr h1), HP2.out.1.2.1 y (.inr (by omega))]; exact HF1.out.2.2.2.1 x y h1 h2 h3, fun x y h1 h2 h3 => by
        rw [HP2.out.1.2.1 x (.inr (by omega)), HP2.out.1.2.1 y (.inr (by omega))]; exact HF1.out.2.2.2.2.1 x y h1 h2 h3⟩
      have HEND : Hid (∀ d3, PermIn mid b d2 d3 → Rise key mid b d3 → PermIn a b d d3 ∧ Rise key a b d3) := Lib.hid fun d3 p3 s3 => by
        have h := both_sides d1 d2 d3 a mid b (by have := HZ1.out; omega) HY.out.2.1 HY.out.1 HF1.out.2.2.2.2.2 HP2.out.1 HP2.out.2 p3 s3
        exact ⟨permIn_trans _ _ _ _ _ HF1.out.1 h.1, h.2⟩
      have HSP2 := Lib.hid (HSP1.out.2.behind HP2.out.1)
      clear hz2 HP2 HF1 HSP1
      by_cases t : mid < e ∧ e < b
      · as_aux_lemma =>
        have t1i : (mid : Int) < (e : Int) := by omega
        have t2i : (e : Int) < (b : Int) := by omega
        have HC := Lib.hid (HIH.out mid e b d2 _ HY.out.2.2.2 HZ2.out HS2.out t.1 t.2 h3 HA2.out.1 HA2.out.2 HSP2.out)
        clear t HS2
        go_wp2_with fail
        refine HC.out.mono ?_
        rintro e3 w3 ⟨rfl, d3, hz, hr, hr2, hS⟩
        have HG : Hid (d3.size = N ∧ (PermIn a b d d3 ∧ Rise key a b d3) ∧ SW encF w0 blk off d3 w3) := Lib.hid ⟨hz, HEND.out d3 hr hr2, hS⟩
        clear hz hr hr2 hS HC
        go_wp2_with fail
        go_end0
        exact ⟨rfl, d3, HG.out.1, HG.out.2.1.1, HG.out.2.1.2, HG.out.2.2⟩
      · have HG : Hid (PermIn a b d d2 ∧ Rise key a b d2) := Lib.hid (HEND.out d2 (permIn_refl _ _ _) (by
          by_cases hai : mid < e
          · have : e = b := by omega
            have h := HA2.out.1
            rw [this] at h; exact h
          · have : mid = e := by omega
            rw [this]; exact HA2.out.2))
        by_cases t1 : mid < e
        · as_aux_lemma =>
          have t1i : (mid : Int) < (e : Int) := by omega
          have t2i : ¬ (e : Int) < (b : Int) := by omega
          clear t
          go_wp2_with fail
          go_end0
          exact ⟨rfl, d2, HZ2.out, HG.out.1, HG.out.2, HS2.out⟩
        · as_aux_lemma =>
          have t1i : ¬ (mid : Int) < (e : Int) := by omega
          clear t
          go_wp2_with fail
          go_end0
          exact ⟨rfl, d2, HZ2.out, HG.out.1, HG.out.2, HS2.out⟩

theorem sym_any {N : Nat} (hB : Box w0 blk c cb co len cc n raw) (R : Row1 encF w0 blk off d0) (hs : d0.size = N) (hsz : N < 2305843009213693952) (hT : Tie raw key) : ∀ (s a m b : Nat) (d : Array (Fin n)) (w : World), b - a ≤ s → d.size = N → SW encF w0 blk off d w → a < m → m < b → b ≤ N → Rise key a m d → Rise key m b d → Sep a m b d → SymDone key w0 blk off cap c N a m b d w := by
  intro s
  induction s with
  | zero => intro a m b d w h; intros; omega
  | succ s ih =>
    intro a m b d w h hd S h1 h2 h3 hA hR hP
    by_cases c1 : m = a + 1
    · have := sym_first (cap := cap) hB R (by omega) S c1 h2 (by omega) (by omega) hR hT hP
      rw [hd] at this
      exact this
    · by_cases c2 : b = m + 1
      · have := sym_last (cap := cap) hB R (by omega) S (by omega) c2 (by omega) (by omega) hA hT hP
        rw [hd] at this
        exact this
      · exact sym_both hB R hs hd S (by omega) (by omega) h3 hsz hA hR hT hP fun a' m' b' d' w' q1 q2 q3 q4 q5 q6 q7 q8 q9 => ih a' m' b' d' w' (by omega) q2 q3 q4 q5 q6 q7 q8 q9
end
end Go.Proofs.YtbjjkhlebdaoaaaDoor.PkC
end
