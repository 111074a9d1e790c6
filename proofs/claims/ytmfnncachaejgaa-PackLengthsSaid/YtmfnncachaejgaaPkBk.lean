/-
  slices.Backward over a row of levels: round r is handed the level that is r from the end.
-/
import Derived.Test.YtmfnncachaejgaaRng
import Derived.Test.YtmfnncachaejgaaRows
import Derived.RangeFuncLeaves
import Derived.RangeFuncCalls
import Derived.WalkKit
import Derived.OwnWalkIn
import Derived.TacticsInMore
import Derived.LoopNIn
import Derived.LoopIn
namespace Go.Proofs.Ytmfnncachaejgaa.PkC
open Go.RowKit Go.My

attribute [local go_sem] Oper.semAt_some

theorem backward_any (a : Option Addr) (len cap : Nat) (w : World) : Calls Try.prog 23 #[.slice a len cap] w fun e w' => e = .returned (.func (.func 27) #[] #[.pointer (some ⟨w.heap.size, 0, none⟩)]) ∧ w' = w.alloc (.cells #[.slice a len cap] 46) := by
  go_enter Try.func23, Try.ntmps23
  go_wp2_with fail
  go_ret
  exact ⟨rfl, rfl⟩

/-- The row of levels stands, and its box. -/
def Levels (Bs b len cap : Nat) (f : Nat → Option Addr × Nat × Nat) (W : World) : Prop :=
  W.cell? ⟨Bs, 0, none⟩ = some (.slice (some ⟨b, 0, none⟩) len cap) ∧ ∀ j, j < len → W.cell? ⟨b, j, none⟩ = some (.slice (f j).1 (f j).2.1 (f j).2.2)
def handed (len : Nat) (f : Nat → Option Addr × Nat × Nat) (r : Nat) : Array Value := #[.int .i64 ((len - 1 - r : Nat) : Int), .slice (f (len - 1 - r)).1 (f (len - 1 - r)).2.1 (f (len - 1 - r)).2.2]

set_option maxRecDepth 100000 in
set_option maxHeartbeats 4000000 in
theorem back_in (F : Fence) (n : Nat) (hF : F.fn 27) (hro : F.round = none) (hn : 1 ≤ n) (Bs b len cap : Nat) (f : Nat → Option Addr × Nat × Nat) (hlen : len ≤ 1000000) :
    InOrder F n Try.prog 27 #[.pointer (some ⟨Bs, 0, none⟩)] (handed len f) len (Levels Bs b len cap f) := by
  intro l J W hst hY h0
  have HST := Lib.hid hst
  have HY := Lib.hid hY
  have H0 := Lib.hid h0
  have hc := (hst 0 W h0).1
  clear hst hY h0
  refine callsIn_of_wp Try.func27 rfl hF ?_ hro
  simp only [Try.ntmps27, List.size_toArray, List.length_cons, List.length_nil, Nat.reduceAdd, Nat.reduceSub, Array.replicate_succ, Array.replicate_zero, List.push_toArray, List.append_toArray, List.nil_append, List.cons_append]
  have e0 : IntKind.i64.wrap ((len : Int) - 1) = (len : Int) - 1 := by rw [IntKind.wrap_i64]; omega
  gi_wp2
  clear e0 hc
  gi_loopw [3] (fun s wr => ∃ r : Nat, r ≤ len ∧ s = .int .i64 ((len : Int) - 1 - (r : Int)) ∧ Hid (J r wr)) (fun s _ => (intOf s + 1).toNat)
  case atStart => exact ⟨0, Nat.zero_le _, by simp, H0⟩
  case round =>
    clear H0
    obtain ⟨r, hr, rfl, HJ⟩ := hrel
    by_cases hlt : r < len
    · obtain ⟨q, hq⟩ : ∃ q, q = len - 1 - r := ⟨_, rfl⟩
      have e1 : (len : Int) - 1 - (r : Int) = (q : Int) := by omega
      have e2 : IntKind.i64.wrap ((q : Int) - 1) = (q : Int) - 1 := by rw [IntKind.wrap_i64]; omega
      have e3 : (0 : Int) ≤ (q : Int) := by omega
      have e4 : (q : Int) < (len : Int) := by omega
      obtain ⟨hc1, hc2⟩ := HST.out r wr HJ.out
      have hc3 := hc2 q (by omega)
      obtain ⟨fn, tmps, assign, body, hy, hR⟩ := HY.out r wr hlt HJ.out
      unfold handed at hy
      rw [← hq] at hy
      have HRD := Lib.hid hR
      have HQ := Lib.hid hq
      clear hR hc2 hq
      obtain ⟨fa, fl, fc⟩ := f q
      rw [e1]
      gi_wp2
      refine HRD.out.mono ?_
      rintro e W3 ⟨rfl, hJ3⟩
      have HJ3 := Lib.hid hJ3
      clear hJ3 HJ HRD hy hc1 hc3
      gi_wp2
      go_roundw
      case rel =>
        have := HQ.out
        refine ⟨r + 1, by omega, ?_, HJ3⟩
        congr 1
        first | done | omega
      case measure => simp [intOf] <;> omega
    · obtain rfl : r = len := by omega
      have e1 : (r : Int) - 1 - (r : Int) = -1 := by omega
      rw [e1]
      gi_wp2
      go_end0
      exact ⟨⟨_, rfl⟩, HJ.out⟩
end Go.Proofs.Ytmfnncachaejgaa.PkC
