/-
  PathJoins' law.
-/
import Derived.Test.YtkimmabndmceoaaDoorPaL1
import Derived.Test.YtkimmabndmceoaaDoorPaL2
import Derived.Test.YtkimmabndmceoaaDoorPaJn
import Derived.Deep.DeepCutAuto
import Derived.Deep.CutBlock
namespace Go.Proofs.YtkimmabndmceoaaDoor.PaC
open Go.RowKit Go.My PaMath

theorem rem_five (z : Int) : ∃ q : Nat, q < 5 ∧ (IntKind.u64.wrap z).tmod 5 = (q : Int) := by
  have h0 : 0 ≤ IntKind.u64.wrap z := by rw [IntKind.wrap_u64]; omega
  rw [Int.tmod_eq_emod_of_nonneg h0]
  generalize IntKind.u64.wrap z = r at *
  exact ⟨(r % 5).toNat, by omega, by omega⟩
/-- What may stand between. -/
def Mid (M : ByteArray) (ms : List (List UInt8)) : Prop := lst M = 47 :: ends ms ∧ M.size ≤ 5 ∧ ∀ p ∈ ms, p = [] ∨ p = [46]
theorem glue_eq (a b M : ByteArray) {ms : List (List UInt8)} (h : Mid M ms) : lst (⟨#[46, 47]⟩ ++ a ++ M ++ b ++ ⟨#[47]⟩) = glued (lst a) ms (lst b) := by
  rw [lst_append, lst_append, lst_append, lst_append, h.1]
  unfold glued
  have e1 : lst ⟨#[46, 47]⟩ = [46, 47] := rfl
  rw [e1, lst_47]
  simp
set_option maxRecDepth 100000 in
set_option maxHeartbeats 4000000 in
theorem joins_law (a b : ByteArray) (n : Int) (w : World) :
    Calls Tryd.prog 6 #[.string a, .string b, .int .i64 n] w fun e w' => e = .returned (.bool true) ∧ Below w.heap.size w w' := by
  by_cases ha : 100 < a.size
  · go_enter Tryd.func6, Tryd.ntmps6
    go_wp2_with fail
    refine (told_any w).mono ?_
    rintro e w1 ⟨rfl, hb⟩
    go_wp2_with fail
    go_ret
    exact ⟨rfl, hb⟩
  by_cases hb : 100 < b.size
  · go_enter Tryd.func6, Tryd.ntmps6
    go_wp2_with fail
    refine (told_any w).mono ?_
    rintro e w1 ⟨rfl, hb⟩
    go_wp2_with fail
    go_ret
    exact ⟨rfl, hb⟩
  cases hca : clean (lst a) with
  | none =>
    obtain ⟨q, v, hq⟩ := cleanV_cases (lst b)
    have V2 := Lib.hid hq
    have V1 := Lib.hid (cleanV_none hca)
    clear hca hq
    go_enter Tryd.func6, Tryd.ntmps6
    go_wp2_with fail
    refine (pclean_any a (by omega) w).mono ?_
    rintro e w1 ⟨rfl, b1⟩
    rw [V1.out]
    have B1 := Lib.hid b1
    clear b1
    go_wp2_with fail
    refine (pclean_any b (by omega) w1).mono ?_
    rintro e w2 ⟨rfl, b2⟩
    rw [V2.out]
    have B2 := Lib.hid (B1.out.trans (b2.mono B1.out.size))
    clear b2
    go_wp2_with fail
    refine (told_any w2).mono ?_
    rintro e w3 ⟨rfl, b3⟩
    have B3 := Lib.hid (B2.out.trans (b3.mono B2.out.size))
    clear b3
    go_wp2_with fail
    go_ret
    exact ⟨rfl, B3.out⟩
  | some x =>
    obtain ⟨X, hX⟩ : ∃ X, X = tx x := ⟨_, rfl⟩
    have V1 : Hid (cleanV (lst a) = .tuple #[.string X, .bool true]) := Lib.hid (by rw [cleanV_some hca, hX])
    cases hcb : clean (lst b) with
    | none =>
      have V2 := Lib.hid (cleanV_none hcb)
      clear hca hcb hX
      go_enter Tryd.func6, Tryd.ntmps6
      go_wp2_with fail
      refine (pclean_any a (by omega) w).mono ?_
      rintro e w1 ⟨rfl, b1⟩
      rw [V1.out]
      have B1 := Lib.hid b1
      clear b1
      go_wp2_with fail
      refine (pclean_any b (by omega) w1).mono ?_
      rintro e w2 ⟨rfl, b2⟩
      rw [V2.out]
      have B2 := Lib.hid (B1.out.trans (b2.mono B1.out.size))
      clear b2
      go_wp2_with fail
      refine (told_any w2).mono ?_
      rintro e w3 ⟨rfl, b3⟩
      have B3 := Lib.hid (B2.out.trans (b3.mono B2.out.size))
      clear b3
      go_wp2_with fail
      go_ret
      exact ⟨rfl, B3.out⟩
    | some y =>
      obtain ⟨Y, hY⟩ : ∃ Y, Y = tx y := ⟨_, rfl⟩
      have V2 : Hid (cleanV (lst b) = .tuple #[.string Y, .bool true]) := Lib.hid (by rw [cleanV_some hcb, hY])
      have ca := clean_some hca
      have cb := clean_some hcb
      rw [show x = lst X by rw [hX, lst_tx]] at ca
      rw [show y = lst Y by rw [hY, lst_tx]] at cb
      have sx : X.size ≤ 100 := by
        have h1 := ca.o_eq
        have h2 := sofar_len (lst a) (parts (lst a)).length
        rw [sofar_end, ← h1, ← lst_size, ← lst_size] at h2
        omega
      have sy : Y.size ≤ 100 := by
        have h1 := cb.o_eq
        have h2 := sofar_len (lst b) (parts (lst b)).length
        rw [sofar_end, ← h1, ← lst_size, ← lst_size] at h2
        omega
      obtain ⟨Z, hZ⟩ : ∃ Z, Z = X ++ ⟨#[47]⟩ ++ Y := ⟨_, rfl⟩
      have hZl : lst Z = lst X ++ 47 :: lst Y := by rw [hZ, lst_append, lst_append, lst_47, List.append_assoc]; rfl
      have HT : Hid (∀ (M T : ByteArray) ms, Mid M ms → T = ⟨#[46, 47]⟩ ++ a ++ M ++ b ++ ⟨#[47]⟩ → T.size ≤ 1000 ∧ cleanV (lst T) = .tuple #[.string Z, .bool true]) := Lib.hid fun M T ms hM hT => by
        have hsz : T.size ≤ 1000 := by
          have := hM.2.1
          rw [hT]
          simp only [ByteArray.size_append]
          have e2 : (⟨#[46, 47]⟩ : ByteArray).size = 2 := rfl
          have e3 : (⟨#[47]⟩ : ByteArray).size = 1 := rfl
          omega
        refine ⟨hsz, ?_⟩
        have hcl := glued_clean (ms := ms) ca cb (by rw [← lst_size, ← lst_size]; omega) hM.2.2
        rw [hT, glue_eq a b M hM, cleanV_some hcl, ← hZl, tx_lst]
      have hzz : clean (lst Z) = some (lst Z) := by
        rw [hZl]
        exact clean_again (glued_clean (ms := []) ca cb (by rw [← lst_size, ← lst_size]; omega) (by simp))
      have c : ∀ W, Calls Tryd.prog 11 #[.string Z] W fun e w' => e = .returned (.bool true) ∧ Below W.heap.size W w' := fun W =>
        (right_any Z (by rw [hZ]; simp only [ByteArray.size_append]; have e3 : (⟨#[47]⟩ : ByteArray).size = 1 := rfl; omega) W).mono fun _ _ h => ⟨by rw [h.1, show isR (lst Z) = true from decide_eq_true hzz], h.2⟩
      rw [hZ] at c
      have HR := Lib.hid c
      have HL : Hid (ahead X Z = true) := Lib.hid (by
        unfold ahead
        have h1 := clean_some hzz
        rw [hZl] at h1 ⊢
        exact joined_less ca h1)
      have hzs : Z.size ≤ 1000 := by
        rw [hZ]
        simp only [ByteArray.size_append]
        have e3 : (⟨#[47]⟩ : ByteArray).size = 1 := rfl
        omega
      have x1 : (Z.toList == (X ++ ⟨#[47]⟩ ++ Y).toList) = true := by rw [hZ]; simp
      have HZS := Lib.hid hzs
      obtain ⟨q, hq5, hq⟩ := rem_five n
      clear hca hcb hX hY ca cb hZ hZl hzz hzs c
      go_enter Tryd.func6, Tryd.ntmps6
      go_wp2_with fail
      refine (pclean_any a (by omega) w).mono ?_
      rintro e w1 ⟨rfl, b1⟩
      rw [V1.out]
      have B1 := Lib.hid b1
      clear b1
      go_wp2_with fail
      refine (pclean_any b (by omega) w1).mono ?_
      rintro e w2 ⟨rfl, b2⟩
      rw [V2.out]
      have B2 := Lib.hid (B1.out.trans (b2.mono B1.out.size))
      clear b2
      go_upto_region 7 with (fail)
      go_cut [11] (fun v wx => ∃ (M : ByteArray) (ms : List (List UInt8)), v = .string M ∧ M.size ≤ 5 ∧ Hid (Mid M ms) ∧ Hid (Below w.heap.size w wx))
      case first =>
        clear x1
        rcases (by omega : q = 0 ∨ q = 1 ∨ q = 2 ∨ q = 3 ∨ q = 4) with rfl | rfl | rfl | rfl | rfl
        · go_wp2_with fail
          go_meet
          case rel => exact ⟨⟨#[47]⟩, [], rfl, by decide, Lib.hid ⟨rfl, by decide, by simp⟩, Lib.hid (B2.out.alloc B2.out.size _)⟩
        · go_wp2_with fail
          go_meet
          case rel => exact ⟨⟨#[47, 47]⟩, [[]], rfl, by decide, Lib.hid ⟨rfl, by decide, by simp⟩, Lib.hid (B2.out.alloc B2.out.size _)⟩
        · go_wp2_with fail
          go_meet
          case rel => exact ⟨⟨#[47, 46, 47]⟩, [[46]], rfl, by decide, Lib.hid ⟨rfl, by decide, by simp⟩, Lib.hid (B2.out.alloc B2.out.size _)⟩
        · go_wp2_with fail
          go_meet
          case rel => exact ⟨⟨#[47, 46, 47, 46, 47]⟩, [[46], [46]], rfl, by decide, Lib.hid ⟨rfl, by decide, by simp⟩, Lib.hid (B2.out.alloc B2.out.size _)⟩
        · go_wp2_with fail
          go_meet
          case rel => exact ⟨⟨#[47, 47, 47]⟩, [[], []], rfl, by decide, Lib.hid ⟨rfl, by decide, by simp⟩, Lib.hid (B2.out.alloc B2.out.size _)⟩
      clear hq hq5
      obtain ⟨M, ms, rfl, hMs, HM, HB⟩ := hcut
      obtain ⟨T, hT⟩ : ∃ T, T = ⟨#[46, 47]⟩ ++ a ++ M ++ b ++ ⟨#[47]⟩ := ⟨_, rfl⟩
      have HTS := Lib.hid (HT.out M T ms HM.out hT)
      have HTE := Lib.hid hT
      clear hT
      go_wp2_with fail
      rw [← HTE.out]
      refine (pclean_any T (by have := HTS.out.1; omega) _).mono ?_
      rintro e w4 ⟨rfl, b4⟩
      rw [HTS.out.2]
      have B4 := Lib.hid (HB.out.trans (b4.mono HB.out.size))
      clear b4
      go_wp2_with fail
      refine (told_any w4).mono ?_
      rintro e w5 ⟨rfl, b5⟩
      have B5 := Lib.hid (B4.out.trans (b5.mono B4.out.size))
      clear b5
      go_wp2_with fail
      refine (HR.out w5).mono ?_
      rintro e w6 ⟨rfl, b6⟩
      have B6 := Lib.hid (B5.out.trans (b6.mono B5.out.size))
      clear b6
      go_wp2_with fail
      refine (less_ah X Z (by omega) (by have := HZS.out; omega) w6).mono ?_
      rintro e w7 ⟨rfl, b7⟩
      rw [HL.out]
      have B7 := Lib.hid (B6.out.trans (b7.mono B6.out.size))
      clear b7
      go_wp2_with fail
      go_ret
      exact ⟨rfl, B7.out⟩
end Go.Proofs.YtkimmabndmceoaaDoor.PaC
