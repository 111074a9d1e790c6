/-
  BlockNobody's law.
-/
import Derived.Test.YtaeoedapaiapdaaDoorBkT
import Derived.Test.YtaeoedapaiapdaaDoorTokS
namespace Go.Proofs.YtaeoedapaiapdaaDoor.BlkC
open Go.RowKit Go.My BitMath
open LzMath (Tok)
open LzC (TokIn few few_any)

theorem write_nil (a : Option Addr) (len c : Nat) (wide last : Bool) (w : World) :
    Calls Tryd.prog 6 #[.pointer none, .slice a len c, .bool wide, .bool last] w fun e w' => e = .returned (.int .i64 1) ∧ w' = w := by
  go_enter Tryd.func6, Tryd.ntmps6
  go_wp2_with fail
  go_ret
  exact ⟨rfl, rfl⟩
set_option maxRecDepth 100000 in
set_option maxHeartbeats 4000000 in
theorem nobody_law (a : Option Addr) (len c : Nat) (f : Nat → Tok) (wide : Bool) (w : World) (h : TokIn w a len c f) :
    Calls Tryd.prog 3 #[.slice a len c, .bool wide] w fun e w' => e = .returned (.bool true) ∧ Below w.heap.size w w' := by
  have HF := Lib.hid (few_any a len c f w h)
  have HT := Lib.hid (told_any w)
  obtain ⟨b, hb⟩ : ∃ b, b = few f len := ⟨_, rfl⟩
  rw [← hb] at HF
  clear h hb
  go_enter Tryd.func3, Tryd.ntmps3
  go_wp2_with fail
  refine HF.out.mono ?_
  rintro e w1 ⟨rfl, rfl⟩
  cases b
  · go_wp2_with fail
    refine HT.out.mono ?_
    rintro e w1 ⟨rfl, hb⟩
    go_wp2_with fail
    go_ret
    exact ⟨rfl, hb⟩
  · go_wp2_with fail
    refine HT.out.mono ?_
    rintro e w1 ⟨rfl, hb⟩
    go_wp2_with fail
    refine (write_nil a len c wide true w1).mono ?_
    rintro e w2 ⟨rfl, rfl⟩
    go_wp2_with fail
    go_ret
    exact ⟨rfl, hb⟩
end Go.Proofs.YtaeoedapaiapdaaDoor.BlkC
