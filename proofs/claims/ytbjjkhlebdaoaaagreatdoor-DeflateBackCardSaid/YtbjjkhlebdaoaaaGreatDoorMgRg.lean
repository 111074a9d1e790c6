import Derived.Test.YtbjjkhlebdaoaaaGreatDoorMgA
import Derived.RangeFuncFrom
import Derived.RangeFuncIn
import Derived.RangeFuncRecord
import Derived.Test.YtbjjkhlebdaoaaaGreatDoorRows
import Derived.RangeFuncLeaves
import Derived.RangeFuncCalls
import Derived.WalkKit
import Derived.OwnWalkIn
import Derived.TacticsInMore
import Derived.LoopNIn
import Derived.LoopIn

section
/-
  'for .. := range f { .. }' where the rounds come in a known order and each goes on to its end: round r is handed 'encs r', N rounds in all. What the iterator reads is told off the invariant itself. No program, no dump.
-/
namespace Go.My
open Go.RowKit

/-- The iterator's word: round by round, J goes from r to r + 1; all N come. -/
def InOrder (F : Fence) (n : Nat) (P : Program) (g : Nat) (lb : Array Value) (encs : Nat → Array Value) (N : Nat) (Stays : World → Prop) : Prop :=
  ∀ (l : Nat) (J : Nat → World → Prop) (W : World), (∀ r W1, J r W1 → Stays W1) →
    (∀ r W1, r < N → J r W1 → YieldAt F (n - 1) P l (encs r) W1 fun e W' => e = .returned (.bool true) ∧ J (r + 1) W') → J 0 W →
    CallsIn F n P g (#[.func (.yield l) #[] #[]] ++ lb) W fun e W' => (∃ v, e = .returned v) ∧ J N W'

section
variable {F : Fence} {n : Nat} {P : Program}
theorem range_rounds {g : Operand} {ps : Array Tmp} {assign body : Code} {Q : Exit → Act → World → Prop} {a : Act} {w : World} (hro : F.round = none) (h1 : 1 ≤ n) {gf : Nat} {lb : Array Value}
    (hg : a.eval g = .func (.func gf) #[] lb) (hFg : F.fn gf) (eg : ∀ args w, (callFunc gf args).run P w = .ok (.enter gf args) w) (encs : Nat → Array Value) (N : Nat) (Stays : World → Prop) (hit : InOrder F (n - 1) P gf lb encs N Stays)
    (hps : ∀ r, (encs r).size = ps.size) (I : Nat → World → Prop) (hI : OwnFrom w.heap.size I) (hst : ∀ r W, I r W → Stays W) (h0 : I 0 w) (a1 : Nat → Act)
    (hassign : ∀ (l r : Nat) (W : World) (K : Act → World → Prop), K (a1 r) W →
      assign.wpIn (F.inRound l) (n - 1 - 1) P (Exit.then K (fun _ _ _ => False)) { tmps := (ps.zip (encs r)).foldl (fun t (p, v) => t.setIfInBounds p v) a.tmps, defers := [] } W)
    (hbody : ∀ (l r : Nat) (W : World), r < N → I r W → body.wpIn (F.inRound l) (n - 1 - 1) P (fun e _ W' => e = .normal ∧ KeepsOthers W W' ∧ I (r + 1) W') (a1 r) W)
    (hdone : ∀ (D : Nat) (W : World), w.heap.size ≤ D → I N W → W.heap[D]? = some (.deferred (some [])) → Q .normal { a with defers := { target := .collected D, args := #[] } :: a.defers } W) :
    (Code.rangeFunc g ps assign body).wpIn F n P Q a w := by
  refine wpIn_rangeFunc fun fn hfn => ?_
  rw [hro]
  -- the loop's record lies at L, the block for deferred calls at D
  obtain ⟨D, hD⟩ : ∃ D, D = w.heap.size := ⟨_, rfl⟩
  obtain ⟨R, hR⟩ : ∃ R : LoopState → Loop, R = fun st => { state := st, pending := none, fn, tmps := a.tmps, params := ps, assign, body, defers := D } := ⟨_, rfl⟩
  obtain ⟨V, hV⟩ : ∃ V, V = (w.alloc (.deferred (some []))).alloc (.loop (R .ready)) := ⟨_, rfl⟩
  have vL : V.heap[D + 1]? = some (.loop (R .ready)) := by
    subst hV hD
    have := World.alloc_heap_new (w.alloc (.deferred (some []))) (.loop (R .ready))
    rwa [World.size_alloc] at this
  have vD : V.heap[D]? = some (.deferred (some [])) := by
    subst hV hD
    exact (Below.heap_alloc _ _ _ (by simp)).trans (World.alloc_heap_new w _)
  have vI : I 0 V := by subst hV; exact hI.alloc _ (hI.alloc _ h0)
  refine ⟨D + 1, [{ target := .collected D, args := #[] }], V, { target := .fn (.func gf) lb, args := #[.func (.yield (D + 1)) #[] #[]] }, V, gf, #[.func (.yield (D + 1)) #[] #[]] ++ lb, V, ?_, ?_, ?_, ?_, fun _ => h1, ?_⟩
  · subst hV hR hD; exact run_enterLoop_outer _ _ _ _ _
  · simp only [resolve, hg]
    simp [go_sem]
  · intro f' hf'
    simp [Target.leads] at hf'
    subst hf'
    exact hFg
  · simp [invoke, go_sem, eg]
  -- what stands between two rounds
  have turn : ∀ {r : Nat} {W : World} (st : LoopState) {o : Loop}, I r W → W.heap[D + 1]? = some (.loop o) → I r (W.putObj (D + 1) (.loop (R st))) := fun st o hi hl => hI.putObj _ hi (by omega) hl rfl
  refine (hit (D + 1) (fun r W => I r W ∧ W.heap[D + 1]? = some (.loop (R .ready)) ∧ W.heap[D]? = some (.deferred (some []))) V (fun r W h => hst r W h.1) ?_ ⟨vI, vL, vD⟩).mono ?_
  · rintro r W hr ⟨hi, hl, hd⟩
    have hy := run_yield (P := P) (args := encs r) hl (by rw [hR]; exact hps r)
    rw [hR] at hy
    refine ⟨fn, _, assign, body, hy, roundIn_of_wpIn hfn (hassign _ r W _ ⟨_, run_beginRound hl (by rw [hR]), ?_⟩)⟩
    have e1 : ({ R .ready with state := .busy } : Loop) = R .busy := by rw [hR]
    rw [e1]
    have bl : (W.putObj (D + 1) (.loop (R .busy))).heap[D + 1]? = some (.loop (R .busy)) := World.putObj_heap_same (Array.getElem?_eq_some_iff.1 hl).1
    have bd : (W.putObj (D + 1) (.loop (R .busy))).heap[D]? = some (.deferred (some [])) := (World.putObj_heap_other (by omega)).trans hd
    refine wpIn_mono (hbody _ r _ hr (turn .busy hi hl)) ?_
    rintro e a3 W3 ⟨rfl, hk, hi3⟩
    have cl := hk.same _ _ bl rfl
    have cd := hk.same _ _ bd rfl
    have he := run_endRound (P := P) none cl
    have e2 : ({ R .busy with state := if (none : Option Code).isNone then .ready else .done, pending := none } : Loop) = R .ready := by rw [hR]; rfl
    rw [e2] at he
    exact ⟨_, _, he, rfl, turn .ready hi3 cl, World.putObj_heap_same (Array.getElem?_eq_some_iff.1 cl).1, (World.putObj_heap_other (by omega)).trans cd⟩
  · rintro e W2 ⟨⟨v, rfl⟩, hi, hl, hd⟩
    have he := run_endLoop (P := P) hl (by rw [hR]; simp)
    have e3 : ({ R .ready with state := .exhausted } : Loop) = R .exhausted := by rw [hR]
    rw [e3] at he
    have e4 : (R .ready).pending = none := by rw [hR]
    rw [e4] at he
    exact ⟨none, _, he, hdone D _ (by omega) (turn .exhausted hi hl) ((World.putObj_heap_other (by omega)).trans hd)⟩
/-- .. where a round begins by 'x := <what is handed>' (slot s). -/
theorem range_rounds1 {g : Operand} {ps : Array Tmp} {assign body : Code} {Q : Exit → Act → World → Prop} {a : Act} {w : World} (hro : F.round = none) (h1 : 1 ≤ n) {gf : Nat} {lb : Array Value}
    (hg : a.eval g = .func (.func gf) #[] lb) (hFg : F.fn gf) (eg : ∀ args w, (callFunc gf args).run P w = .ok (.enter gf args) w) (encs : Nat → Array Value) (N : Nat) (Stays : World → Prop) (hit : InOrder F (n - 1) P gf lb encs N Stays)
    (hps : ∀ r, (encs r).size = ps.size) (I : Nat → World → Prop) (hI : OwnFrom w.heap.size I) (hst : ∀ r W, I r W → Stays W) (h0 : I 0 w) (s : Nat) (v : Nat → Value)
    (hassign : ∀ (l r : Nat) (W : World) (K : Act → World → Prop), K { tmps := ((ps.zip (encs r)).foldl (fun t (p, v) => t.setIfInBounds p v) a.tmps).setIfInBounds s (v r), defers := [] } W →
      assign.wpIn (F.inRound l) (n - 1 - 1) P (Exit.then K (fun _ _ _ => False)) { tmps := (ps.zip (encs r)).foldl (fun t (p, v) => t.setIfInBounds p v) a.tmps, defers := [] } W)
    (hbody : ∀ (l r : Nat) (W : World), r < N → I r W → body.wpIn (F.inRound l) (n - 1 - 1) P (fun e _ W' => e = .normal ∧ KeepsOthers W W' ∧ I (r + 1) W') { tmps := ((ps.zip (encs r)).foldl (fun t (p, v) => t.setIfInBounds p v) a.tmps).setIfInBounds s (v r), defers := [] } W)
    (hdone : ∀ (D : Nat) (W : World), w.heap.size ≤ D → I N W → W.heap[D]? = some (.deferred (some [])) → Q .normal { a with defers := { target := .collected D, args := #[] } :: a.defers } W) :
    (Code.rangeFunc g ps assign body).wpIn F n P Q a w :=
  range_rounds hro h1 hg hFg eg encs N Stays hit hps I hI hst h0 _ hassign hbody hdone
end
end Go.My
end

section
/-
  slices.Backward over a row of levels: round r is handed the level that is r from the end.
-/
namespace Go.Proofs.YtbjjkhlebdaoaaaGreatDoor.PkC
open Go.RowKit Go.My

attribute [local go_sem] Oper.semAt_some

theorem backward_any (a : Option Addr) (len cap : Nat) (w : World) : Calls Tryz.prog 113 #[.slice a len cap] w fun e w' => e = .returned (.func (.func 116) #[] #[.pointer (some ⟨w.heap.size, 0, none⟩)]) ∧ w' = w.alloc (.cells #[.slice a len cap] 173) := by
  go_enter Tryz.func113, Tryz.ntmps113
  go_wp2_with fail
  go_ret
  exact ⟨rfl, rfl⟩

/-- The row of levels stands, and its box. -/
def Levels (Bs b len cap : Nat) (f : Nat → Option Addr × Nat × Nat) (W : World) : Prop :=
  W.cell? ⟨Bs, 0, none⟩ = some (.slice (some ⟨b, 0, none⟩) len cap) ∧ ∀ j, j < len → W.cell? ⟨b, j, none⟩ = some (.slice (f j).1 (f j).2.1 (f j).2.2)
def handed (len : Nat) (f : Nat → Option Addr × Nat × Nat) (r : Nat) : Array Value := #[.int .i64 ((len - 1 - r : Nat) : Int), .slice (f (len - 1 - r)).1 (f (len - 1 - r)).2.1 (f (len - 1 - r)).2.2]

set_option maxRecDepth 100000 in
set_option maxHeartbeats 4000000 in
theorem back_in (F : Fence) (n : Nat) (hF : F.fn 116) (hro : F.round = none) (hn : 1 ≤ n) (Bs b len cap : Nat) (f : Nat → Option Addr × Nat × Nat) (hlen : len ≤ 1000000) :
    InOrder F n Tryz.prog 116 #[.pointer (some ⟨Bs, 0, none⟩)] (handed len f) len (Levels Bs b len cap f) := by
  intro l J W hst hY h0
  have HST := Lib.hid hst
  have HY := Lib.hid hY
  have H0 := Lib.hid h0
  have hc := (hst 0 W h0).1
  clear hst hY h0
  refine callsIn_of_wp Tryz.func116 rfl hF ?_ hro
  simp only [Tryz.ntmps116, List.size_toArray, List.length_cons, List.length_nil, Nat.reduceAdd, Nat.reduceSub, Array.replicate_succ, Array.replicate_zero, List.push_toArray, List.append_toArray, List.nil_append, List.cons_append]
  have e0 : IntKind.i64.wrap ((len : Int) - 1) = (len : Int) - 1 := by rw [IntKind.wrap_i64]; omega
  gi_wp2
  clear e0 hc
  gi_loopw [3] (fun s wr => ∃ r : Nat, r ≤ len ∧ s = .int .i64 ((len : Int) - 1 - (r : Int)) ∧ Hid (J r wr)) (fun s _ => (intOf s + 1).toNat)
  case atStart => exact ⟨0, Nat.zero_le _, by simp, H0⟩
  case round =>
    clear H0
    obtain ⟨r, hr, rfl, HJ⟩ := hrel
    by_cases hlt : r < len
    · obtain ⟨q, hq⟩ : ∃ q, q = len - 1 - r := ⟨_, rfl⟩
      have e1 : (len : Int) - 1 - (r : Int) = (q : Int) := by omega
      have e2 : IntKind.i64.wrap ((q : Int) - 1) = (q : Int) - 1 := by rw [IntKind.wrap_i64]; omega
      have e3 : (0 : Int) ≤ (q : Int) := by omega
      have e4 : (q : Int) < (len : Int) := by omega
      obtain ⟨hc1, hc2⟩ := HST.out r wr HJ.out
      have hc3 := hc2 q (by omega)
      obtain ⟨fn, tmps, assign, body, hy, hR⟩ := HY.out r wr hlt HJ.out
      unfold handed at hy
      rw [← hq] at hy
      have HRD := Lib.hid hR
      have HQ := Lib.hid hq
      clear hR hc2 hq
      obtain ⟨fa, fl, fc⟩ := f q
      rw [e1]
      gi_wp2
      refine HRD.out.mono ?_
      rintro e W3 ⟨rfl, hJ3⟩
      have HJ3 := Lib.hid hJ3
      clear hJ3 HJ HRD hy hc1 hc3
      gi_wp2
      go_roundw
      case rel =>
        have := HQ.out
        refine ⟨r + 1, by omega, ?_, HJ3⟩
        congr 1
        first | done | omega
      case measure => simp [intOf] <;> omega
    · obtain rfl : r = len := by omega
      have e1 : (r : Int) - 1 - (r : Int) = -1 := by omega
      rw [e1]
      gi_wp2
      go_end0
      exact ⟨⟨_, rfl⟩, HJ.out⟩
end Go.Proofs.YtbjjkhlebdaoaaaGreatDoor.PkC
end
