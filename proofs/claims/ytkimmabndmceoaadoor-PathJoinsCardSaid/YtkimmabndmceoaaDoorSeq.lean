/-
  'for x := range f { .. }' where the rounds come in a known order (round r is handed 'encs r', N in all), the iterator turns one cell of its own between two rounds (block B), and a round may leave the loop. No program, no dump.
-/
import Derived.Test.YtkimmabndmceoaaDoorMem
import Derived.RangeFuncFrom
import Derived.RangeFuncIn
import Derived.RangeFuncRecord
namespace Go.My
open Go.RowKit

/-- What a round keeps of the iterator's cells (blocks of S). -/
def KpS (S : Nat → Prop) (W W' : World) : Prop := ∀ b t cs, S b → Blk W b t cs → Blk W' b t cs
/-- What the iterator turns between two rounds. -/
def MvB (B : Nat) (W W' : World) : Prop := ∃ v, W' = W.setCell ⟨B, 0, none⟩ v

/-- The iterator's word. -/
def InSeq (F : Fence) (n : Nat) (P : Program) (g : Nat) (lb : Array Value) (encs : Nat → Array Value) (N B : Nat) (S : Nat → Prop) (w0 : World) : Prop :=
  ∀ (l : Nat) (J Jx : Nat → World → Prop) (W : World), KpS S w0 W → (∀ r W1 W2, J r W1 → MvB B W1 W2 → J r W2) →
    (∀ r W1, r < N → J r W1 → YieldAt F (n - 1) P l (encs r) W1 fun e W' => (e = .returned (.bool true) ∧ J (r + 1) W' ∧ KpS S W1 W') ∨ (e = .returned (.bool false) ∧ Jx r W')) → J 0 W →
    CallsIn F n P g (#[.func (.yield l) #[] #[]] ++ lb) W fun e W' => (∃ v, e = .returned v) ∧ (J N W' ∨ ∃ r, r < N ∧ Jx r W')

/-- How a round's body may be left. -/
def SeqPost (S : Nat → Prop) (I : Nat → World → Prop) (Ix : Code → Nat → World → Prop) (r : Nat) (W : World) : Exit → Act → World → Prop
  | .normal, _, W' => KeepsOthers W W' ∧ KpS S W W' ∧ I (r + 1) W'
  | .ret, _, W' => KeepsOthers W W' ∧ Ix .ret r W'
  | .exit id, _, W' => KeepsOthers W W' ∧ Ix (.exit id) r W'
  | .goto t, _, W' => KeepsOthers W W' ∧ Ix (.goto t) r W'
  | .panic _, _, _ => False
  | .outgrown, _, _ => False

theorem KpS.trans {S : Nat → Prop} {A B C : World} (h : KpS S A B) (k : KpS S B C) : KpS S A C := fun b t cs hs hb => k b t cs hs (h b t cs hs hb)
theorem KpS.refl (S : Nat → Prop) (A : World) : KpS S A A := fun _ _ _ _ h => h
theorem KpS.alloc {S : Nat → Prop} {A B : World} (h : KpS S A B) (o : Obj) : KpS S A (B.alloc o) := fun b t cs hs hb => (h b t cs hs hb).alloc o
theorem KpS.drew {S : Nat → Prop} {A B : World} (h : KpS S A B) : KpS S A B.drew := fun b t cs hs hb => (h b t cs hs hb).drew
theorem KpS.putObj {S : Nat → Prop} {A B : World} (h : KpS S A B) {l : Nat} {o o' : Obj} (hl : B.heap[l]? = some o) (ho : o.isCells = false) : KpS S A (B.putObj l o') := fun b t cs hs hb => by
  have hk := h b t cs hs hb
  refine (World.putObj_heap_other ?_).trans hk
  intro e
  subst e
  unfold Blk at hk
  rw [hl] at hk
  injection hk with hk
  subst hk
  cases ho
theorem KpS.only {S T : Nat → Prop} {A B : World} (h : Only T A B) (hST : ∀ k, S k → ¬ T k) : KpS S A B := fun _ _ _ hs hb => h.blk hb (hST _ hs)
theorem KpS.below {S : Nat → Prop} {n : Nat} {A B : World} (h : Below n A B) (hS : ∀ k, S k → k < n) : KpS S A B := fun b _ _ hs hb => hb.same (h.block b (hS b hs))
theorem KeepsOthers.of_below_only {W W' : World} (h : Below W.heap.size W W') : KeepsOthers W W' := ⟨h.size, fun k _ hk _ => (h.block k (Array.getElem?_eq_some_iff.1 hk).1).trans hk⟩

section
variable {F : Fence} {n : Nat} {P : Program}
theorem range_seq {g : Operand} {ps : Array Tmp} {assign body : Code} {Q : Exit → Act → World → Prop} {a : Act} {w : World} (hro : F.round = none) (h1 : 1 ≤ n) {gf : Nat} {lb : Array Value}
    (hg : a.eval g = .func (.func gf) #[] lb) (hFg : F.fn gf) (eg : ∀ args w, (callFunc gf args).run P w = .ok (.enter gf args) w) (encs : Nat → Array Value) (N B : Nat) (S : Nat → Prop) (w0 : World) (hit : InSeq F (n - 1) P gf lb encs N B S w0) (hw0 : KpS S w0 w)
    (hps : ∀ r, (encs r).size = ps.size) (I : Nat → World → Prop) (Ix : Code → Nat → World → Prop) (hI : OwnFrom w.heap.size I) (hIx : ∀ c, OwnFrom w.heap.size (Ix c)) (hM : ∀ r W1 W2, I r W1 → MvB B W1 W2 → I r W2) (h0 : I 0 w) (a1 : Nat → Act)
    (hassign : ∀ (l r : Nat) (W : World) (K : Act → World → Prop), K (a1 r) W →
      assign.wpIn (F.inRound l) (n - 1 - 1) P (Exit.then K (fun _ _ _ => False)) { tmps := (ps.zip (encs r)).foldl (fun t (p, v) => t.setIfInBounds p v) a.tmps, defers := [] } W)
    (hbody : ∀ (l r : Nat) (W : World), r < N → I r W → body.wpIn (F.inRound l) (n - 1 - 1) P (SeqPost S I Ix r W) (a1 r) W)
    (hdone : ∀ (D : Nat) (W : World), w.heap.size ≤ D → I N W → W.heap[D]? = some (.deferred (some [])) → Q .normal { a with defers := { target := .collected D, args := #[] } :: a.defers } W)
    (hstop : ∀ (D : Nat) (c : Code) (r : Nat) (W : World), w.heap.size ≤ D → r < N → Ix c r W → W.heap[D]? = some (.deferred (some [])) → c.wpIn F n P Q { a with defers := { target := .collected D, args := #[] } :: a.defers } W) :
    (Code.rangeFunc g ps assign body).wpIn F n P Q a w := by
  refine wpIn_rangeFunc fun fn hfn => ?_
  rw [hro]
  -- the loop's record lies at D + 1, the block for deferred calls at D
  obtain ⟨D, hD⟩ : ∃ D, D = w.heap.size := ⟨_, rfl⟩
  obtain ⟨R, hR⟩ : ∃ R : LoopState → Option Code → Loop, R = fun st pe => { state := st, pending := pe, fn, tmps := a.tmps, params := ps, assign, body, defers := D } := ⟨_, rfl⟩
  obtain ⟨V, hV⟩ : ∃ V, V = (w.alloc (.deferred (some []))).alloc (.loop (R .ready none)) := ⟨_, rfl⟩
  have vL : V.heap[D + 1]? = some (.loop (R .ready none)) := by
    subst hV hD
    have := World.alloc_heap_new (w.alloc (.deferred (some []))) (.loop (R .ready none))
    rwa [World.size_alloc] at this
  have vD : V.heap[D]? = some (.deferred (some [])) := by
    subst hV hD
    exact (Below.heap_alloc _ _ _ (by simp)).trans (World.alloc_heap_new w _)
  have vI : I 0 V := by subst hV; exact hI.alloc _ (hI.alloc _ h0)
  have vK : KpS S w0 V := by subst hV; exact (hw0.alloc _).alloc _
  refine ⟨D + 1, [{ target := .collected D, args := #[] }], V, { target := .fn (.func gf) lb, args := #[.func (.yield (D + 1)) #[] #[]] }, V, gf, #[.func (.yield (D + 1)) #[] #[]] ++ lb, V, ?_, ?_, ?_, ?_, fun _ => h1, ?_⟩
  · subst hV hR hD; exact run_enterLoop_outer _ _ _ _ _
  · simp only [resolve, hg]
    simp [go_sem]
  · intro f' hf'
    simp [Target.leads] at hf'
    subst hf'
    exact hFg
  · simp [invoke, go_sem, eg]
  have others : ∀ {W1 W2 : World} {k : Nat} {o : Obj}, MvB B W1 W2 → W1.heap[k]? = some o → o.isCells = false → W2.heap[k]? = some o := fun hm hk ho => by
    obtain ⟨v, rfl⟩ := hm
    exact (KeepsOthers.setCell _ _ v).same _ _ hk ho
  refine (hit (D + 1) (fun r W => I r W ∧ W.heap[D + 1]? = some (.loop (R .ready none)) ∧ W.heap[D]? = some (.deferred (some [])))
    (fun r W => ∃ c, Ix c r W ∧ W.heap[D + 1]? = some (.loop (R .done (some c))) ∧ W.heap[D]? = some (.deferred (some []))) V vK
    (fun r W1 W2 h hm => ⟨hM r W1 W2 h.1 hm, others hm h.2.1 rfl, others hm h.2.2 rfl⟩) ?_ ⟨vI, vL, vD⟩).mono ?_
  · rintro r W hr ⟨hi, hl, hd⟩
    have hy := run_yield (P := P) (args := encs r) hl (by rw [hR]; exact hps r)
    rw [hR] at hy
    refine ⟨fn, _, assign, body, hy, roundIn_of_wpIn hfn (hassign _ r W _ ⟨_, run_beginRound hl (by rw [hR]), ?_⟩)⟩
    have e1 : ({ R .ready none with state := .busy } : Loop) = R .busy none := by rw [hR]
    rw [e1]
    have bl : (W.putObj (D + 1) (.loop (R .busy none))).heap[D + 1]? = some (.loop (R .busy none)) := World.putObj_heap_same (Array.getElem?_eq_some_iff.1 hl).1
    have bd : (W.putObj (D + 1) (.loop (R .busy none))).heap[D]? = some (.deferred (some [])) := (World.putObj_heap_other (by omega)).trans hd
    have bk : KpS S W (W.putObj (D + 1) (.loop (R .busy none))) := (KpS.refl S W).putObj hl rfl
    refine wpIn_mono (hbody _ r _ hr (hI.putObj _ hi (by omega) hl rfl)) ?_
    have fin : ∀ (jump : Option Code) (W3 : World), KeepsOthers (W.putObj (D + 1) (.loop (R .busy none))) W3 →
        (Instr.endRound (D + 1) jump).run P W3 = .ok (.bool jump.isNone) (W3.putObj (D + 1) (.loop (R (if jump.isNone then .ready else .done) jump))) ∧
        W3.heap[D + 1]? = some (.loop (R .busy none)) ∧
        (W3.putObj (D + 1) (.loop (R (if jump.isNone then .ready else .done) jump))).heap[D + 1]? = some (.loop (R (if jump.isNone then .ready else .done) jump)) ∧
        (W3.putObj (D + 1) (.loop (R (if jump.isNone then .ready else .done) jump))).heap[D]? = some (.deferred (some [])) := fun jump W3 hk3 => by
      have cl := hk3.same _ _ bl rfl
      have cd := hk3.same _ _ bd rfl
      have he := run_endRound (P := P) jump cl
      have e2 : ({ R .busy none with state := if jump.isNone then .ready else .done, pending := jump } : Loop) = R (if jump.isNone then .ready else .done) jump := by rw [hR]
      rw [e2] at he
      exact ⟨he, cl, World.putObj_heap_same (Array.getElem?_eq_some_iff.1 cl).1, (World.putObj_heap_other (by omega)).trans cd⟩
    rintro e a3 W3 hp
    cases e with
    | normal =>
      obtain ⟨hk3, hkp3, hi3⟩ := hp
      obtain ⟨he, cl, dl, dd⟩ := fin none W3 hk3
      exact ⟨_, _, he, .inl ⟨rfl, ⟨hI.putObj _ hi3 (by omega) cl rfl, dl, dd⟩, (bk.trans hkp3).putObj cl rfl⟩⟩
    | ret =>
      obtain ⟨hk3, hi3⟩ := hp
      obtain ⟨he, cl, dl, dd⟩ := fin (some .ret) W3 hk3
      exact ⟨_, _, he, .inr ⟨rfl, .ret, (hIx _).putObj _ hi3 (by omega) cl rfl, dl, dd⟩⟩
    | exit id =>
      obtain ⟨hk3, hi3⟩ := hp
      obtain ⟨he, cl, dl, dd⟩ := fin (some (.exit id)) W3 hk3
      exact ⟨_, _, he, .inr ⟨rfl, .exit id, (hIx _).putObj _ hi3 (by omega) cl rfl, dl, dd⟩⟩
    | goto t =>
      obtain ⟨hk3, hi3⟩ := hp
      obtain ⟨he, cl, dl, dd⟩ := fin (some (.goto t)) W3 hk3
      exact ⟨_, _, he, .inr ⟨rfl, .goto t, (hIx _).putObj _ hi3 (by omega) cl rfl, dl, dd⟩⟩
    | panic ch => exact hp.elim
    | outgrown => exact hp.elim
  · rintro e W2 ⟨⟨v, rfl⟩, h⟩
    rcases h with ⟨hi, hl, hd⟩ | ⟨r, hr, c, hi, hl, hd⟩
    · have he := run_endLoop (P := P) hl (by rw [hR]; simp)
      have e3 : ({ R .ready none with state := .exhausted } : Loop) = R .exhausted none := by rw [hR]
      have e4 : (R .ready none).pending = none := by rw [hR]
      rw [e3, e4] at he
      exact ⟨none, _, he, hdone D _ (by omega) (hI.putObj _ hi (by omega) hl rfl) ((World.putObj_heap_other (by omega)).trans hd)⟩
    · have he := run_endLoop (P := P) hl (by rw [hR]; simp)
      have e3 : ({ R .done (some c) with state := .exhausted } : Loop) = R .exhausted (some c) := by rw [hR]
      have e4 : (R .done (some c)).pending = some c := by rw [hR]
      rw [e3, e4] at he
      exact ⟨some c, _, he, hstop D c r _ (by omega) hr ((hIx c).putObj _ hi (by omega) hl rfl) ((World.putObj_heap_other (by omega)).trans hd)⟩
/-- .. where a round begins by 'x := <what is handed>' (slot s). -/
theorem range_seq1 {g : Operand} {ps : Array Tmp} {assign body : Code} {Q : Exit → Act → World → Prop} {a : Act} {w : World} (hro : F.round = none) (h1 : 1 ≤ n) {gf : Nat} {lb : Array Value}
    (hg : a.eval g = .func (.func gf) #[] lb) (hFg : F.fn gf) (eg : ∀ args w, (callFunc gf args).run P w = .ok (.enter gf args) w) (encs : Nat → Array Value) (N B : Nat) (S : Nat → Prop) (w0 : World) (hit : InSeq F (n - 1) P gf lb encs N B S w0) (hw0 : KpS S w0 w)
    (hps : ∀ r, (encs r).size = ps.size) (I : Nat → World → Prop) (Ix : Code → Nat → World → Prop) (hI : OwnFrom w.heap.size I) (hIx : ∀ c, OwnFrom w.heap.size (Ix c)) (hM : ∀ r W1 W2, I r W1 → MvB B W1 W2 → I r W2) (h0 : I 0 w) (s : Nat) (v : Nat → Value)
    (hassign : ∀ (l r : Nat) (W : World) (K : Act → World → Prop), K { tmps := ((ps.zip (encs r)).foldl (fun t (p, v) => t.setIfInBounds p v) a.tmps).setIfInBounds s (v r), defers := [] } W →
      assign.wpIn (F.inRound l) (n - 1 - 1) P (Exit.then K (fun _ _ _ => False)) { tmps := (ps.zip (encs r)).foldl (fun t (p, v) => t.setIfInBounds p v) a.tmps, defers := [] } W)
    (hbody : ∀ (l r : Nat) (W : World), r < N → I r W → body.wpIn (F.inRound l) (n - 1 - 1) P (SeqPost S I Ix r W) { tmps := ((ps.zip (encs r)).foldl (fun t (p, v) => t.setIfInBounds p v) a.tmps).setIfInBounds s (v r), defers := [] } W)
    (hdone : ∀ (D : Nat) (W : World), w.heap.size ≤ D → I N W → W.heap[D]? = some (.deferred (some [])) → Q .normal { a with defers := { target := .collected D, args := #[] } :: a.defers } W)
    (hstop : ∀ (D : Nat) (c : Code) (r : Nat) (W : World), w.heap.size ≤ D → r < N → Ix c r W → W.heap[D]? = some (.deferred (some [])) → c.wpIn F n P Q { a with defers := { target := .collected D, args := #[] } :: a.defers } W) :
    (Code.rangeFunc g ps assign body).wpIn F n P Q a w :=
  range_seq hro h1 hg hFg eg encs N B S w0 hit hw0 hps I Ix hI hIx hM h0 _ hassign hbody hdone hstop
theorem KeepsOthers.of_only {T : Nat → Prop} {W W' : World} (h : Only T W W') (hc : ∀ k, T k → ∃ t cs, Blk W k t cs) : KeepsOthers W W' := ⟨h.size, fun k o hk ho => by
  by_cases hT : T k
  · obtain ⟨t, cs, hb⟩ := hc k hT
    unfold Blk at hb
    rw [hk] at hb
    injection hb with hb
    subst hb
    cases ho
  · exact (h.block k (Array.getElem?_eq_some_iff.1 hk).1 hT).trans hk⟩
/-- A block of cells stays where only other things turn. -/
theorem Blk.own {W W' : World} {g : Nat} {t : TypeId} {cs : Array Value} {row : Option Nat} {B : Nat} (h : Blk W g t cs) (hg : W.grownBy W' row) (hr : ∀ r, row = some r → B ≤ r ∧ ∃ o : Obj, W.heap[r]? = some o ∧ o.isCells = false) : Blk W' g t cs := by
  refine h.grown hg fun e => ?_
  obtain ⟨_, o, ho, hc⟩ := hr g e.symm
  unfold Blk at h
  rw [ho] at h
  injection h with h
  subst h
  cases hc
theorem Blk.mv {W W' : World} {g B : Nat} {t : TypeId} {cs : Array Value} (h : Blk W g t cs) (hm : MvB B W W') (hg : g ≠ B) : Blk W' g t cs := by
  obtain ⟨v, rfl⟩ := hm
  exact h.same (Below.heap_setCell _ _ _ _ hg)
theorem below_mv {n : Nat} {A W W' : World} {B : Nat} (h : Below n A W) (hm : MvB B W W') (hB : n ≤ B) : Below n A W' := by
  obtain ⟨v, rfl⟩ := hm
  exact h.setCell (p := ⟨B, 0, none⟩) hB _
end
end Go.My
