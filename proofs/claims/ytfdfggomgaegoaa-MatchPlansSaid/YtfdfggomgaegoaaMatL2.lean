/-
  MatchTokens' law.
-/
import Derived.Test.YtfdfggomgaegoaaMatL
import Derived.Test.YtfdfggomgaegoaaMatJ
import Derived.Deep.RegionWith
namespace Go.Proofs.Ytfdfggomgaegoaa.MatC
open Go.RowKit Go.My MatMath LzC

theorem conv_own {w : World} {a : Option Addr} {n c : Nat} {l : List UInt8} (h : Bytes w a n c l) : (convert 22 9 (.slice a n c)).run Try.prog w = .ok (.string ⟨l.toArray⟩) w :=
  run_string_bytes w 22 9 5 Try.underlying22 Try.underlying5 Try.underlying9 h
/-- A text of a law: its bytes, so many. -/
theorem rep_le (b : List UInt8) (n : Int) (m : Nat) (h : b.length ≤ m) : (rep b (times n)).length ≤ 8 * m := by
  rw [rep_len]
  have := (times_le n).2
  exact Nat.mul_le_mul this h
/-- Four cells of a Plan. -/
def PlAt (w : World) (G : Nat) (p : Pl) : Prop := w.cell? ⟨G, 0, none⟩ = some (.bool p.store) ∧ w.cell? ⟨G, 1, none⟩ = some (.int .i64 p.chain) ∧ w.cell? ⟨G, 2, none⟩ = some (.bool p.lazy) ∧ w.cell? ⟨G, 3, none⟩ = some (.int .i64 p.good) ∧ G < w.heap.size
theorem PlAt.below {w w' : World} {G : Nat} {p : Pl} (h : PlAt w G p) (hb : Below w.heap.size w w') : PlAt w' G p := by
  obtain ⟨h0, h1, h2, h3, h4⟩ := h
  exact ⟨(hb.cell (p := ⟨G, 0, none⟩) h4).trans h0, (hb.cell (p := ⟨G, 1, none⟩) h4).trans h1, (hb.cell (p := ⟨G, 2, none⟩) h4).trans h2, (hb.cell (p := ⟨G, 3, none⟩) h4).trans h3, Nat.lt_of_lt_of_le h4 hb.size⟩
theorem PlAt.new (w : World) (p : Pl) : PlAt (w.alloc (.cells #[.bool p.store, .int .i64 p.chain, .bool p.lazy, .int .i64 p.good] 24)) w.heap.size p := by
  have h := Blk.new w 24 #[.bool p.store, .int .i64 p.chain, .bool p.lazy, .int .i64 p.good]
  exact ⟨h.cell 0, h.cell 1, h.cell 2, h.cell 3, h.lt⟩

theorem tok_ret {p : Pl} {s : List UInt8} {w w' : World} {e : Ending} (hl : s.length ≤ 900000) (h : TokRet p s w e w') : ∃ a c K, e = .returned (.slice a K c) ∧ TokIn w' a K c (tk p s) ∧ Many p s K ∧ Below w.heap.size w w' := by
  obtain ⟨v, K, rfl, ho, hm, hb⟩ := h
  obtain ⟨a, c, rfl, ht⟩ := ho.toks (fun i _ => tk_wf (by omega) i)
  exact ⟨a, c, K, rfl, ht, hm, hb⟩
set_option maxRecDepth 100000 in
set_option maxHeartbeats 8000000 in
theorem tokens_law {a : Option Addr} {len cap : Nat} {b : List UInt8} (n : Int) (p : Pl) (w : World) (hb : Bytes w a len cap b) (hch : (Lit.int .i64 p.chain).wf = true) :
    Calls Try.prog 4 #[.slice a len cap, .int .i64 n, pv p.store p.chain p.lazy p.good, .bool p.wide] w fun e w' => e = .returned (.bool true) ∧ Below w.heap.size w w' := by
  have HB := Lib.hid hb
  have HL := Lib.hid hb.len_eq
  have hlc := hb.le_cap
  have hcm := hb.cap_le
  clear hb
  unfold pv
  by_cases hbig : 200 < len
  · go_enter Try.func4, Try.ntmps4
    go_wp2_with fail
    refine (told_any _).mono ?_
    rintro e w2 ⟨rfl, hbe⟩
    have HBE := Lib.hid (((Below.refl _ w).alloc (Nat.le_refl _) (.cells #[.bool p.store, .int .i64 p.chain, .bool p.lazy, .int .i64 p.good] 24)).trans (hbe.mono (by simp)))
    clear hbe
    go_wp2_with fail
    go_ret
    exact ⟨rfl, HBE.out⟩
  · obtain ⟨W, hW⟩ : ∃ W, W = w.alloc (.cells #[.bool p.store, .int .i64 p.chain, .bool p.lazy, .int .i64 p.good] 24) := ⟨_, rfl⟩
    have hbl : Below w.heap.size w W := by rw [hW]; exact (Below.refl _ w).alloc (Nat.le_refl _) _
    have HP : Hid (PlAt W w.heap.size p) := Lib.hid (by rw [hW]; exact PlAt.new w p)
    have HBW := Lib.hid (HB.out.below (Nat.le_refl _) hbl)
    have HBE := Lib.hid hbl
    have HW := Lib.hid hW
    clear hbl hW
    obtain ⟨G, hG⟩ : ∃ G, G = w.heap.size := ⟨_, rfl⟩
    rw [← hG] at HP
    have HG := Lib.hid hG
    clear hG
    go_enter Try.func4, Try.ntmps4
    go_wp2_with fail
    rw [← HW.out, ← HG.out]
    refine (long_any n W HBW.out (by omega)).mono ?_
    intro e w1 h1
    obtain ⟨a1, c1, rfl, hb1, hl1⟩ := own_ret h1
    have HB1 := Lib.hid hb1
    have HP1 := Lib.hid (HP.out.below hl1)
    have HE1 := Lib.hid (HBE.out.trans (hl1.mono HBE.out.size))
    have hrl : (rep b (times n)).length ≤ 1600 := rep_le b n 200 (by rw [HL.out]; omega)
    clear h1 hb1 hl1 HP HBE HBW HW
    generalize rep b (times n) = s at *
    go_wp2_with fail
    have p0 := HP1.out.1
    have p1 := HP1.out.2.1
    have p2 := HP1.out.2.2.1
    have p3 := HP1.out.2.2.2.1
    have HTK := Lib.hid (fun (w' : World) (h : Bytes w' a1 s.length c1 s) => tokens_any p s w' h (by omega) hch)
    have HRT := Lib.hid (fun (w' : World) (h : Bytes w' a1 s.length c1 s) => rtokens_any p s w' h (by omega) hch)
    unfold pv at HTK HRT
    go_region_with (first
      | (go_at_call 8; refine (told_any _).mono ?_; rintro e w3 ⟨rfl, hb3⟩; have HP3 := Lib.hid ((HP1.out.below (Below.refl _ _).drew).below hb3); have HB3 := Lib.hid ((HB1.out.below (Nat.le_refl _) (Below.refl _ _).drew).below (Nat.le_refl _) hb3); have HE3 := Lib.hid (((HE1.out.drew).trans (hb3.mono HE1.out.size))); have q0 := HP3.out.1; have q1 := HP3.out.2.1; have q2 := HP3.out.2.2.1; have q3 := HP3.out.2.2.2.1; clear hb3)
      | (go_at_call 14; refine (HTK.out _ HB3.out).mono ?_; intro e w4 h4; obtain ⟨a4, c4, K4, rfl, ht4, hm4, hb4⟩ := tok_ret (by omega) h4; have HP4 := Lib.hid (HP3.out.below hb4); have HB4 := Lib.hid (HB3.out.below (Nat.le_refl _) hb4); have HE4 := Lib.hid (HE3.out.trans (hb4.mono HE3.out.size)); have HT4 := Lib.hid ht4; have HM4 := Lib.hid hm4; have r0 := HP4.out.1; have r1 := HP4.out.2.1; have r2 := HP4.out.2.2.1; have r3 := HP4.out.2.2.2.1; clear hb4 ht4 hm4 h4)
      | (go_at_call 15; refine (HRT.out _ HB4.out).mono ?_; intro e w5 h5; obtain ⟨a5, c5, K5, rfl, ht5, hm5, hb5⟩ := tok_ret (by omega) h5; obtain rfl := many_one HM4.out hm5; have HE5 := Lib.hid (HE4.out.trans (hb5.mono HE4.out.size)); have HT5 := Lib.hid (HT4.out.below (Nat.le_refl _) hb5); have HU5 := Lib.hid ht5; have hk5 := many_le HM4.out; clear hb5 ht5 hm5 h5)
      | (go_at_call 13; refine (same_yes _ HT5.out HU5.out (by omega)).mono ?_; rintro e w6 ⟨rfl, hd6⟩; have HE6 := Lib.hid (HE5.out.trans (hd6.below.mono HE5.out.size)); clear hd6))
    all_goals
      clear p0 p1 p2 p3 q0 q1 q2 q3 r0 r1 r2 r3
      go_wp2_with fail
      go_ret
      exact ⟨rfl, HE6.out⟩
end Go.Proofs.Ytfdfggomgaegoaa.MatC
