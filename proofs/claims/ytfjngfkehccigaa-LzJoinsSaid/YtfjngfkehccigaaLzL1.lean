/-
  LzExpands' law.
-/
import Derived.Test.YtfjngfkehccigaaLzT
import Derived.Test.YtfjngfkehccigaaLzF
import Derived.Test.YtfjngfkehccigaaLater
namespace Go.Proofs.Ytfjngfkehccigaa.LzC
open Go.RowKit Go.My LzMath WinMath WinC

/-- What Expand answers where token K is the first that may not stand there: bytes, place, error. -/
def outL (f : Nat → Tok) (len K : Nat) : List UInt8 := if K = len then ex f len else []
def outAt (len K : Nat) : Nat := if K = len then 0 else K
def outE (len K : Nat) : Nat := if K = len then 0 else 2
theorem expand_r (wide : Bool) (a : Option Addr) (len c : Nat) (f : Nat → Tok) (K : Nat) (w : World) (h : TokIn w a len c f) (hE : EndsT wide f len K) (ht : tot f len ≤ 1000000) :
    Calls Try.prog 12 #[.slice a len c, .bool wide] w fun e w' => ∃ a' n c', e = .returned (.tuple #[.slice a' n c', .int .i64 (outAt len K : Int), .int .i64 (outE len K : Int)]) ∧ Hid (Own 5 w.heap.size w' (.slice a' n c') (outL f len K)) ∧ Hid (Below w.heap.size w w') :=
  (expand_all wide a len c f K w h hE ht).mono fun e w' ⟨hb, hx⟩ => by
    unfold outAt outE outL
    rcases hx with ⟨rfl, a', c', he, ho⟩ | ⟨h1, he⟩
    · exact ⟨a', _, c', by simpa using he, Lib.hid (by simpa using ho), Lib.hid hb⟩
    · rw [if_neg (by omega), if_neg (by omega), if_neg (by omega)]
      exact ⟨none, 0, 0, he, Lib.hid (Own.nil _ _ _), Lib.hid hb⟩
theorem rexpand_r (wide : Bool) (a : Option Addr) (len c : Nat) (f : Nat → Tok) (K : Nat) (w : World) (h : TokIn w a len c f) (hE : EndsT wide f len K) (ht : tot f len ≤ 1000000) :
    Calls Try.prog 13 #[.slice a len c, .bool wide, .int .i64 1073741824] w fun e w' => ∃ a' n c', e = .returned (.tuple #[.slice a' n c', .int .i64 (outAt len K : Int), .int .i64 (outE len K : Int)]) ∧ Hid (Own 5 w.heap.size w' (.slice a' n c') (outL f len K)) ∧ Hid (Below w.heap.size w w') :=
  (rexpand_all wide a len c f K w h hE ht).mono fun e w' ⟨hb, hx⟩ => by
    unfold outAt outE outL
    rcases hx with ⟨rfl, a', c', he, ho⟩ | ⟨h1, he⟩
    · exact ⟨a', _, c', by simpa using he, Lib.hid (by simpa using ho), Lib.hid hb⟩
    · rw [if_neg (by omega), if_neg (by omega), if_neg (by omega)]
      exact ⟨none, 0, 0, he, Lib.hid (Own.nil _ _ _), Lib.hid hb⟩

theorem later_cells {W : World} {b off i : Nat} {t : Tok} (h : TokAt W b off i t) (p : Later W) : TokAt p.at' b off i t := h.below (Nat.le_refl _) p.kept

set_option maxRecDepth 100000 in
set_option maxHeartbeats 8000000 in
theorem expands_all (a : Option Addr) (len c : Nat) (f : Nat → Tok) (wide : Bool) (w : World) (h : TokIn w a len c f) :
    Calls Try.prog 3 #[.slice a len c, .bool wide] w fun e w' => e = .returned (.bool true) ∧ Below w.heap.size w w' := by
  have H := Lib.hid h
  have hlc := h.le_cap
  have hcm := h.cap_le
  clear h
  by_cases h100 : 100 < len
  · go_enter Try.func3, Try.ntmps3
    go_wp2_with fail
    refine (told_any w).mono ?_
    rintro e w1 ⟨rfl, hb⟩
    go_wp2_with fail
    go_ret
    exact ⟨rfl, hb⟩
  · go_enter Try.func3, Try.ntmps3
    go_wp2_with fail
    go_loopw [5] (fun i wr => ∃ k : Nat, k ≤ len ∧ i = .int .i64 (k : Int) ∧ Hid (Below w.heap.size w wr)) (fun i _ => len - (intOf i).toNat)
    case atStart => exact ⟨0, Nat.zero_le _, rfl, Lib.hid (Below.refl _ _)⟩
    case round =>
      obtain ⟨k, hk, rfl, HB⟩ := hrel
      by_cases hlt : k < len
      · obtain ⟨b, off, rfl, ho⟩ := (H.out.below (Nat.le_refl _) HB.out).get hlt
        have c0 := fun p : Later wr => (later_cells ho p).len
        have c1 := fun p : Later wr => (later_cells ho p).dist
        have c2 := fun p : Later wr => (later_cells ho p).byte
        have HM := Lib.hid (fun W : World => may_any wide (f k) W)
        have HR := Lib.hid (fun W : World => rmay_any wide (f k) W)
        clear ho
        generalize f k = t at *
        obtain ⟨l, d, bt⟩ := t
        dsimp only at c0 c1 c2
        generalize decide (May wide ⟨l, d, bt⟩) = m at *
        go_wp2_with (refine wp_region_later (by kernel_rfl) (by kernel_rfl) ?_)
        repeat (go_big_quiet_step (first | (go_at_call 7; refine later_of (v := .bool m) (HM.out _)) | (go_at_call 8; refine later_of (v := .bool m) (HR.out _))))
        refine wpQuiet_nil ?_
        rintro _ ⟨p, rfl⟩
        have HP : Hid (Below w.heap.size w p.at') := Lib.hid (HB.out.trans (p.kept.mono HB.out.size))
        clear c0 c1 c2 HM HR
        generalize p.at' = W2 at *
        go_wp2_with fail
        go_roundw
        case rel => exact ⟨k + 1, by omega, by go_num, HP⟩
        case measure => simp [intOf]; omega
      · obtain rfl : k = len := by omega
        have H1 := Lib.hid (H.out.below (Nat.le_refl _) HB.out)
        go_wp2_with fail
        refine (size_all a k c f wr H1.out).mono ?_
        obtain ⟨N, hN⟩ : ∃ N, N = cap f k := ⟨_, rfl⟩
        have HN := Lib.hid hN
        rw [← hN]
        clear hN
        rintro e w1 ⟨rfl, hb⟩
        have H2 := Lib.hid (H1.out.below (Nat.le_refl _) hb)
        have HB2 := Lib.hid (HB.out.trans (hb.mono HB.out.size))
        clear hb H1 HB
        go_wp2_with fail
        refine (rsize_all a k c f w1 H2.out).mono ?_
        rw [← HN.out]
        rintro e w' ⟨rfl, rfl⟩
        go_wp2_with fail
        refine (few_any a k c f w1 H2.out).mono ?_
        obtain ⟨q, hq⟩ : ∃ q, q = few f k := ⟨_, rfl⟩
        rw [← hq]
        have HQ := Lib.hid hq
        clear hq
        rintro e w' ⟨rfl, rfl⟩
        cases q
        · go_wp2_with fail
          refine (told_any w1).mono ?_
          rintro e w2 ⟨rfl, hb⟩
          go_wp2_with fail
          go_ret
          exact ⟨rfl, HB2.out.trans (hb.mono HB2.out.size)⟩
        · have hF := few_tot HQ.out.symm
          obtain ⟨K, hE⟩ := ends_any wide f k
          have HE := Lib.hid hE
          clear hE HQ
          obtain ⟨A, hA⟩ : ∃ A, A = outAt k K := ⟨_, rfl⟩
          obtain ⟨E, hE⟩ : ∃ E, E = outE k K := ⟨_, rfl⟩
          have HAE := Lib.hid (And.intro hA hE)
          clear hA hE
          go_wp2_with fail
          refine (expand_r wide a k c f K w1 H2.out HE.out (by omega)).mono ?_
          rw [← HAE.out.1, ← HAE.out.2]
          rintro e w2 ⟨a1, n1, c1, rfl, HO1, hb⟩
          have H3 := Lib.hid (H2.out.below (Nat.le_refl _) hb.out)
          have HB3 := Lib.hid (HB2.out.trans (hb.out.mono HB2.out.size))
          clear hb H2 HB2
          go_wp2_with fail
          refine (rexpand_r wide a k c f K w2 H3.out HE.out (by omega)).mono ?_
          rw [← HAE.out.1, ← HAE.out.2]
          generalize outL f k K = L at *
          rintro e w3 ⟨a2, n2, c2, rfl, HO2, hb⟩
          have HO3 := Lib.hid (HO1.out.below (Nat.le_refl _) hb.out)
          have HB4 := Lib.hid (HB3.out.trans (hb.out.mono HB3.out.size))
          clear hb H3 HB3 HO1
          go_wp2_with fail
          refine (told_any w3).mono ?_
          rintro e w4 ⟨rfl, hb⟩
          have cv1 := conv_any (HO3.out.below (Nat.le_refl _) hb)
          have cv2 := conv_any (HO2.out.below (Nat.le_refl _) hb)
          have HB5 := Lib.hid (HB4.out.trans (hb.mono HB4.out.size))
          clear hb HB4 HO2 HO3
          go_wp2_with fail
          go_ret
          exact ⟨rfl, HB5.out⟩
end Go.Proofs.Ytfjngfkehccigaa.LzC
