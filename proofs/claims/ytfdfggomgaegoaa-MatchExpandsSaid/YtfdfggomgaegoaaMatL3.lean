/-
  MatchExpands' law.
-/
import Derived.Test.YtfdfggomgaegoaaMatL2
import Derived.Test.YtfdfggomgaegoaaTokX
namespace Go.Proofs.Ytfdfggomgaegoaa.MatC
open Go.RowKit Go.My MatMath LzC

set_option maxRecDepth 100000 in
set_option maxHeartbeats 8000000 in
theorem expands_law {a : Option Addr} {len cap : Nat} {b : List UInt8} (n : Int) (p : Pl) (w : World) (hb : Bytes w a len cap b) (hch : (Lit.int .i64 p.chain).wf = true) :
    Calls Try.prog 5 #[.slice a len cap, .int .i64 n, pv p.store p.chain p.lazy p.good, .bool p.wide] w fun e w' => e = .returned (.bool true) ∧ Below w.heap.size w w' := by
  have HB := Lib.hid hb
  have HL := Lib.hid hb.len_eq
  have hlc := hb.le_cap
  have hcm := hb.cap_le
  clear hb
  unfold pv
  by_cases hbig : 300 < len
  · go_enter Try.func5, Try.ntmps5
    go_wp2_with fail
    refine (told_any _).mono ?_
    rintro e w2 ⟨rfl, hbe⟩
    have HBE := Lib.hid (((Below.refl _ w).alloc (Nat.le_refl _) (.cells #[.bool p.store, .int .i64 p.chain, .bool p.lazy, .int .i64 p.good] 24)).trans (hbe.mono (by simp)))
    clear hbe
    go_wp2_with fail
    go_ret
    exact ⟨rfl, HBE.out⟩
  · obtain ⟨W, hW⟩ : ∃ W, W = w.alloc (.cells #[.bool p.store, .int .i64 p.chain, .bool p.lazy, .int .i64 p.good] 24) := ⟨_, rfl⟩
    have hbl : Below w.heap.size w W := by rw [hW]; exact (Below.refl _ w).alloc (Nat.le_refl _) _
    have HP : Hid (PlAt W w.heap.size p) := Lib.hid (by rw [hW]; exact PlAt.new w p)
    have HBW := Lib.hid (HB.out.below (Nat.le_refl _) hbl)
    have HBE := Lib.hid hbl
    have HW := Lib.hid hW
    clear hbl hW
    obtain ⟨G, hG⟩ : ∃ G, G = w.heap.size := ⟨_, rfl⟩
    rw [← hG] at HP
    have HG := Lib.hid hG
    clear hG
    go_enter Try.func5, Try.ntmps5
    go_wp2_with fail
    rw [← HW.out, ← HG.out]
    refine (long_any n W HBW.out (by omega)).mono ?_
    intro e w1 h1
    obtain ⟨a1, c1, rfl, hb1, hl1⟩ := own_ret h1
    have HB1 := Lib.hid hb1
    have HP1 := Lib.hid (HP.out.below hl1)
    have HE1 := Lib.hid (HBE.out.trans (hl1.mono HBE.out.size))
    have hrl : (rep b (times n)).length ≤ 2400 := rep_le b n 300 (by rw [HL.out]; omega)
    clear h1 hb1 hl1 HP HBE HBW HW
    generalize rep b (times n) = s at *
    have p0 := HP1.out.1
    have p1 := HP1.out.2.1
    have p2 := HP1.out.2.2.1
    have p3 := HP1.out.2.2.2.1
    have htk := tokens_any p s w1 HB1.out (by omega) hch
    unfold pv at htk
    have HTK := Lib.hid htk
    clear htk
    go_wp2_with fail
    refine HTK.out.mono ?_
    intro e w4 h4
    obtain ⟨a4, c4, K4, rfl, ht4, hm4, hb4⟩ := tok_ret (by omega) h4
    have hk4 := many_le hm4
    have HP4 := Lib.hid (HP1.out.below hb4)
    have HB4 := Lib.hid (HB1.out.below (Nat.le_refl _) hb4)
    have HE4 := Lib.hid (HE1.out.trans (hb4.mono HE1.out.size))
    have HM4 := Lib.hid hm4
    have HT4 := Lib.hid ht4
    clear hb4 ht4 hm4 h4 p0 p1 p2 p3 HTK HB1 HP1 HE1
    obtain ⟨htot, hex⟩ := tk_all HM4.out
    have hrx := rexpand_good p.wide 1048576 (by omega) a4 K4 c4 (tk p s) w4 HT4.out (tk_good HM4.out) (by rw [htot]; omega)
    have HRX := Lib.hid hrx
    have HTX := Lib.hid (And.intro htot hex)
    clear hrx htot hex
    go_wp2_with fail
    refine HRX.out.mono ?_
    intro e w5 h5
    obtain ⟨hb5, h5⟩ := h5
    rw [HTX.out.1, HTX.out.2] at h5
    obtain ⟨a5, c5, rfl, ho5⟩ : ∃ a c, e = .returned (.tuple #[.slice a s.length c, .int .i64 0, .int .i64 0]) ∧ Own 5 w4.heap.size w5 (.slice a s.length c) s := by
      rcases h5 with ⟨_, h5⟩ | ⟨h5, _⟩
      · exact h5
      · omega
    obtain ⟨a6, c6, he6, hb6⟩ := ho5.bytes
    simp only [Value.slice.injEq, true_and] at he6
    obtain ⟨rfl, rfl⟩ := he6
    have HP5 := Lib.hid (HP4.out.below hb5)
    have HB5 := Lib.hid (HB4.out.below (Nat.le_refl _) hb5)
    have HX5 := Lib.hid hb6
    have HE5 := Lib.hid (HE4.out.trans (hb5.mono HE4.out.size))
    clear h5 ho5 hb6 hb5 HRX HP4 HB4 HE4 HT4
    go_wp2_with fail
    refine (told_any _).mono ?_
    rintro e w7 ⟨rfl, hb7⟩
    have HP7 := Lib.hid (HP5.out.below hb7)
    have HE7 := Lib.hid (HE5.out.trans (hb7.mono HE5.out.size))
    have k1 := conv_own (HX5.out.below (Nat.le_refl _) hb7)
    have k2 := conv_own (HB5.out.below (Nat.le_refl _) hb7)
    have q0 := HP7.out.1
    clear hb7 HP5 HE5 HX5 HB5
    obtain ⟨st, hst⟩ : ∃ st, p.store = st := ⟨_, rfl⟩
    rw [hst] at q0
    have HST := Lib.hid hst
    clear hst
    cases st with
    | false =>
      go_wp2_with fail
      go_ret
      exact ⟨rfl, HE7.out⟩
    | true =>
      have hKs : K4 = s.length := many_one HM4.out (many_store HST.out)
      subst hKs
      go_wp2_with fail
      go_ret
      exact ⟨rfl, HE7.out⟩
end Go.Proofs.Ytfdfggomgaegoaa.MatC
