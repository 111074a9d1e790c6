/-
  Law 19's helpers: told, texts.
-/
import Derived.Test.YtkimmabndmceoaaDoorPaG
import Derived.Test.YtkimmabndmceoaaDoorPaJ
namespace Go.Proofs.YtkimmabndmceoaaDoor.PaC
open Go.RowKit Go.My PaMath

set_option maxRecDepth 100000 in
theorem told_any (w : World) : Calls Tryd.prog 8 #[] w fun e w' => e = .returned (.bool true) ∧ Below w.heap.size w w' := by
  have c1 := pclean_ok ⟨#[46, 47, 97, 47, 47, 98, 47]⟩ ⟨#[97, 47, 98]⟩ (by decide) (by decide +kernel) w
  have c2 := fun W => pclean_no ⟨#[97, 47, 46, 46, 47, 98]⟩ (by decide) (by decide +kernel) W
  have c3 : ∀ W, Calls Tryd.prog 11 #[.string ⟨#[97, 47, 98]⟩] W fun e w' => e = .returned (.bool true) ∧ Below W.heap.size W w' := fun W => (right_any ⟨#[97, 47, 98]⟩ (by decide) W).mono fun _ _ h => ⟨by rw [h.1, show isR (lst ⟨#[97, 47, 98]⟩) = true by decide +kernel], h.2⟩
  have c4 : ∀ W, Calls Tryd.prog 16 #[.string ⟨#[97, 47, 98]⟩] W fun e w' => e = .returned (.string ⟨#[98]⟩) ∧ Below W.heap.size W w' := fun W => (last_any ⟨#[97, 47, 98]⟩ (by decide) W).mono fun _ _ h => ⟨by rw [h.1, show lastOf (lst ⟨#[97, 47, 98]⟩) = [98] by decide +kernel]; rfl, h.2⟩
  have c5 : ∀ W, Calls Tryd.prog 14 #[.string ⟨#[97, 47, 98]⟩] W fun e w' => (∃ a c, e = .returned (.slice a 2 c)) ∧ Below W.heap.size W w' := fun W => (psplit_any ⟨#[97, 47, 98]⟩ (by decide) W).mono fun _ _ ⟨a, c, he, _, hb⟩ => ⟨⟨a, c, by rw [he, show split (lst ⟨#[97, 47, 98]⟩) = [[97], [98]] by decide +kernel]; rfl⟩, hb⟩
  have c6 : ∀ W, Calls Tryd.prog 18 #[.string ⟨#[97]⟩, .string ⟨#[97, 47, 98]⟩] W fun e w' => e = .returned (.bool true) ∧ Below W.heap.size W w' := fun W => (less_any ⟨#[97]⟩ ⟨#[97, 47, 98]⟩ (by decide) (by decide) W).mono fun _ _ h => ⟨by rw [h.1, show lts (key (lst ⟨#[97]⟩)) (key (lst ⟨#[97, 47, 98]⟩)) = true by decide +kernel], h.2⟩
  have C1 := Lib.hid c1
  have C2 := Lib.hid c2
  have C3 := Lib.hid c3
  have C4 := Lib.hid c4
  have C5 := Lib.hid c5
  have C6 := Lib.hid c6
  clear c1 c2 c3 c4 c5 c6
  go_enter Tryd.func8, Tryd.ntmps8
  go_wp2_with fail
  refine C1.out.mono ?_
  rintro e w1 ⟨rfl, b1⟩
  have B1 := Lib.hid b1
  clear b1
  go_wp2_with fail
  refine (C2.out w1).mono ?_
  rintro e w2 ⟨rfl, b2⟩
  have B2 := Lib.hid (B1.out.trans (b2.mono B1.out.size))
  clear b2
  go_wp2_with fail
  refine (C3.out w2).mono ?_
  rintro e w3 ⟨rfl, b3⟩
  have B3 := Lib.hid (B2.out.trans (b3.mono B2.out.size))
  clear b3
  go_wp2_with fail
  refine (C4.out w3).mono ?_
  rintro e w4 ⟨rfl, b4⟩
  have B4 := Lib.hid (B3.out.trans (b4.mono B3.out.size))
  clear b4
  go_wp2_with fail
  refine (C5.out w4).mono ?_
  rintro e w5 ⟨⟨a, c, rfl⟩, b5⟩
  have B5 := Lib.hid (B4.out.trans (b5.mono B4.out.size))
  clear b5
  go_wp2_with fail
  refine (C6.out w5).mono ?_
  rintro e w6 ⟨rfl, b6⟩
  have B6 := Lib.hid (B5.out.trans (b6.mono B5.out.size))
  clear b6
  go_wp2_with fail
  go_ret
  exact ⟨rfl, B6.out⟩
/-- Two rows of the same texts. -/
theorem texts_any (L : List (List UInt8)) (ax ay : Option Addr) (cx cy : Nat) (w : World) (hx : RowIn w ax L.length cx (vals L)) (hy : RowIn w ay L.length cy (vals L)) :
    Calls Tryd.prog 13 #[.slice ax L.length cx, .slice ay L.length cy] w fun e w' => e = .returned (.bool true) ∧ Below w.heap.size w w' := by
  obtain ⟨l, hL⟩ : ∃ n, n = L.length := ⟨_, rfl⟩
  have hlx := hx.le_cap
  have hcx := hx.cap_le
  have hly := hy.le_cap
  have hcy := hy.cap_le
  have HX := Lib.hid hx
  have HY := Lib.hid hy
  have HL := Lib.hid hL
  rw [← hL] at hlx hly ⊢
  clear hx hy hL
  go_enter Tryd.func13, Tryd.ntmps13
  go_wp2_with fail
  go_loopw [5] (fun i wr => ∃ k : Nat, i = .int .i64 (k : Int) ∧ k ≤ l ∧ Hid (Below w.heap.size w wr)) (fun i _ => l - (intOf i).toNat)
  case atStart => exact ⟨0, rfl, Nat.zero_le _, Lib.hid (Below.refl _ _)⟩
  case round =>
    obtain ⟨k, rfl, hk, HB⟩ := hrel
    by_cases h1 : k < l
    · obtain ⟨bx, ox, rfl, cx0⟩ := vals_ex (HX.out.below (Nat.le_refl _) HB.out) k (by have := HL.out; omega)
      obtain ⟨by_, oy, rfl, cy0⟩ := vals_ex (HY.out.below (Nat.le_refl _) HB.out) k (by have := HL.out; omega)
      obtain ⟨p, hp⟩ : ∃ p : ByteArray, p = tx (L[k]'(by have := HL.out; omega)) := ⟨_, rfl⟩
      rw [← hp] at cx0 cy0
      clear hp
      go_wp2_with fail
      go_quiet (fail)
      go_wp2_with fail
      go_roundw
      case rel => exact ⟨k + 1, by simp, by omega, Lib.hid (HB.out.trans ((drewN_below wr _).mono HB.out.size))⟩
      case measure => simp [intOf] <;> omega
    · go_wp2_with fail
      go_ret
      exact ⟨rfl, HB.out⟩
end Go.Proofs.YtkimmabndmceoaaDoor.PaC
