/-
  'for .. := range f { .. }' where the rounds come in a known order and each goes on to its end: round r is handed 'encs r', N rounds in all. What the iterator reads is told off the invariant itself. No program, no dump.
-/
import Derived.Test.YtmfnncachaejgaaMem
import Derived.RangeFuncFrom
import Derived.RangeFuncIn
import Derived.RangeFuncRecord
namespace Go.My
open Go.RowKit

/-- The iterator's word: round by round, J goes from r to r + 1; all N come. -/
def InOrder (F : Fence) (n : Nat) (P : Program) (g : Nat) (lb : Array Value) (encs : Nat → Array Value) (N : Nat) (Stays : World → Prop) : Prop :=
  ∀ (l : Nat) (J : Nat → World → Prop) (W : World), (∀ r W1, J r W1 → Stays W1) →
    (∀ r W1, r < N → J r W1 → YieldAt F (n - 1) P l (encs r) W1 fun e W' => e = .returned (.bool true) ∧ J (r + 1) W') → J 0 W →
    CallsIn F n P g (#[.func (.yield l) #[] #[]] ++ lb) W fun e W' => (∃ v, e = .returned v) ∧ J N W'

section
variable {F : Fence} {n : Nat} {P : Program}
theorem range_rounds {g : Operand} {ps : Array Tmp} {assign body : Code} {Q : Exit → Act → World → Prop} {a : Act} {w : World} (hro : F.round = none) (h1 : 1 ≤ n) {gf : Nat} {lb : Array Value}
    (hg : a.eval g = .func (.func gf) #[] lb) (hFg : F.fn gf) (eg : ∀ args w, (callFunc gf args).run P w = .ok (.enter gf args) w) (encs : Nat → Array Value) (N : Nat) (Stays : World → Prop) (hit : InOrder F (n - 1) P gf lb encs N Stays)
    (hps : ∀ r, (encs r).size = ps.size) (I : Nat → World → Prop) (hI : OwnFrom w.heap.size I) (hst : ∀ r W, I r W → Stays W) (h0 : I 0 w) (a1 : Nat → Act)
    (hassign : ∀ (l r : Nat) (W : World) (K : Act → World → Prop), K (a1 r) W →
      assign.wpIn (F.inRound l) (n - 1 - 1) P (Exit.then K (fun _ _ _ => False)) { tmps := (ps.zip (encs r)).foldl (fun t (p, v) => t.setIfInBounds p v) a.tmps, defers := [] } W)
    (hbody : ∀ (l r : Nat) (W : World), r < N → I r W → body.wpIn (F.inRound l) (n - 1 - 1) P (fun e _ W' => e = .normal ∧ KeepsOthers W W' ∧ I (r + 1) W') (a1 r) W)
    (hdone : ∀ (D : Nat) (W : World), w.heap.size ≤ D → I N W → W.heap[D]? = some (.deferred (some [])) → Q .normal { a with defers := { target := .collected D, args := #[] } :: a.defers } W) :
    (Code.rangeFunc g ps assign body).wpIn F n P Q a w := by
  refine wpIn_rangeFunc fun fn hfn => ?_
  rw [hro]
  -- the loop's record lies at L, the block for deferred calls at D
  obtain ⟨D, hD⟩ : ∃ D, D = w.heap.size := ⟨_, rfl⟩
  obtain ⟨R, hR⟩ : ∃ R : LoopState → Loop, R = fun st => { state := st, pending := none, fn, tmps := a.tmps, params := ps, assign, body, defers := D } := ⟨_, rfl⟩
  obtain ⟨V, hV⟩ : ∃ V, V = (w.alloc (.deferred (some []))).alloc (.loop (R .ready)) := ⟨_, rfl⟩
  have vL : V.heap[D + 1]? = some (.loop (R .ready)) := by
    subst hV hD
    have := World.alloc_heap_new (w.alloc (.deferred (some []))) (.loop (R .ready))
    rwa [World.size_alloc] at this
  have vD : V.heap[D]? = some (.deferred (some [])) := by
    subst hV hD
    exact (Below.heap_alloc _ _ _ (by simp)).trans (World.alloc_heap_new w _)
  have vI : I 0 V := by subst hV; exact hI.alloc _ (hI.alloc _ h0)
  refine ⟨D + 1, [{ target := .collected D, args := #[] }], V, { target := .fn (.func gf) lb, args := #[.func (.yield (D + 1)) #[] #[]] }, V, gf, #[.func (.yield (D + 1)) #[] #[]] ++ lb, V, ?_, ?_, ?_, ?_, fun _ => h1, ?_⟩
  · subst hV hR hD; exact run_enterLoop_outer _ _ _ _ _
  · simp only [resolve, hg]
    simp [go_sem]
  · intro f' hf'
    simp [Target.leads] at hf'
    subst hf'
    exact hFg
  · simp [invoke, go_sem, eg]
  -- what stands between two rounds
  have turn : ∀ {r : Nat} {W : World} (st : LoopState) {o : Loop}, I r W → W.heap[D + 1]? = some (.loop o) → I r (W.putObj (D + 1) (.loop (R st))) := fun st o hi hl => hI.putObj _ hi (by omega) hl rfl
  refine (hit (D + 1) (fun r W => I r W ∧ W.heap[D + 1]? = some (.loop (R .ready)) ∧ W.heap[D]? = some (.deferred (some []))) V (fun r W h => hst r W h.1) ?_ ⟨vI, vL, vD⟩).mono ?_
  · rintro r W hr ⟨hi, hl, hd⟩
    have hy := run_yield (P := P) (args := encs r) hl (by rw [hR]; exact hps r)
    rw [hR] at hy
    refine ⟨fn, _, assign, body, hy, roundIn_of_wpIn hfn (hassign _ r W _ ⟨_, run_beginRound hl (by rw [hR]), ?_⟩)⟩
    have e1 : ({ R .ready with state := .busy } : Loop) = R .busy := by rw [hR]
    rw [e1]
    have bl : (W.putObj (D + 1) (.loop (R .busy))).heap[D + 1]? = some (.loop (R .busy)) := World.putObj_heap_same (Array.getElem?_eq_some_iff.1 hl).1
    have bd : (W.putObj (D + 1) (.loop (R .busy))).heap[D]? = some (.deferred (some [])) := (World.putObj_heap_other (by omega)).trans hd
    refine wpIn_mono (hbody _ r _ hr (turn .busy hi hl)) ?_
    rintro e a3 W3 ⟨rfl, hk, hi3⟩
    have cl := hk.same _ _ bl rfl
    have cd := hk.same _ _ bd rfl
    have he := run_endRound (P := P) none cl
    have e2 : ({ R .busy with state := if (none : Option Code).isNone then .ready else .done, pending := none } : Loop) = R .ready := by rw [hR]; rfl
    rw [e2] at he
    exact ⟨_, _, he, rfl, turn .ready hi3 cl, World.putObj_heap_same (Array.getElem?_eq_some_iff.1 cl).1, (World.putObj_heap_other (by omega)).trans cd⟩
  · rintro e W2 ⟨⟨v, rfl⟩, hi, hl, hd⟩
    have he := run_endLoop (P := P) hl (by rw [hR]; simp)
    have e3 : ({ R .ready with state := .exhausted } : Loop) = R .exhausted := by rw [hR]
    rw [e3] at he
    have e4 : (R .ready).pending = none := by rw [hR]
    rw [e4] at he
    exact ⟨none, _, he, hdone D _ (by omega) (turn .exhausted hi hl) ((World.putObj_heap_other (by omega)).trans hd)⟩
/-- .. where a round begins by 'x := <what is handed>' (slot s). -/
theorem range_rounds1 {g : Operand} {ps : Array Tmp} {assign body : Code} {Q : Exit → Act → World → Prop} {a : Act} {w : World} (hro : F.round = none) (h1 : 1 ≤ n) {gf : Nat} {lb : Array Value}
    (hg : a.eval g = .func (.func gf) #[] lb) (hFg : F.fn gf) (eg : ∀ args w, (callFunc gf args).run P w = .ok (.enter gf args) w) (encs : Nat → Array Value) (N : Nat) (Stays : World → Prop) (hit : InOrder F (n - 1) P gf lb encs N Stays)
    (hps : ∀ r, (encs r).size = ps.size) (I : Nat → World → Prop) (hI : OwnFrom w.heap.size I) (hst : ∀ r W, I r W → Stays W) (h0 : I 0 w) (s : Nat) (v : Nat → Value)
    (hassign : ∀ (l r : Nat) (W : World) (K : Act → World → Prop), K { tmps := ((ps.zip (encs r)).foldl (fun t (p, v) => t.setIfInBounds p v) a.tmps).setIfInBounds s (v r), defers := [] } W →
      assign.wpIn (F.inRound l) (n - 1 - 1) P (Exit.then K (fun _ _ _ => False)) { tmps := (ps.zip (encs r)).foldl (fun t (p, v) => t.setIfInBounds p v) a.tmps, defers := [] } W)
    (hbody : ∀ (l r : Nat) (W : World), r < N → I r W → body.wpIn (F.inRound l) (n - 1 - 1) P (fun e _ W' => e = .normal ∧ KeepsOthers W W' ∧ I (r + 1) W') { tmps := ((ps.zip (encs r)).foldl (fun t (p, v) => t.setIfInBounds p v) a.tmps).setIfInBounds s (v r), defers := [] } W)
    (hdone : ∀ (D : Nat) (W : World), w.heap.size ≤ D → I N W → W.heap[D]? = some (.deferred (some [])) → Q .normal { a with defers := { target := .collected D, args := #[] } :: a.defers } W) :
    (Code.rangeFunc g ps assign body).wpIn F n P Q a w :=
  range_rounds hro h1 hg hFg eg encs N Stays hit hps I hI hst h0 _ hassign hbody hdone
end
end Go.My
