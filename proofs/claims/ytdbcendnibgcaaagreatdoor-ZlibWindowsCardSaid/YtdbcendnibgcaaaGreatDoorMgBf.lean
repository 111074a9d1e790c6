import Derived.Test.YtdbcendnibgcaaaGreatDoorMgBe

section
/-
  The deferred closures of Push and End.
-/
namespace Go.Proofs.YtdbcendnibgcaaaGreatDoor.InfC
open Go.RowKit Go.My BitMath CanMath TabMath WinMath FeedC TabC CanC
open WinC (Wn)
open InfMath (M Ok CodeOk mu lack fixL fixD)

/-- What the closure leaves: both results are set. -/
def Left2 (oc cc c : Nat) (R : Value → World → Prop) (e : Ending) (w' : World) : Prop :=
  e = .returned (.tuple #[]) ∧ ∃ ov w2, R ov w2 ∧ w' = (w2.setCell ⟨oc, 0, none⟩ ov).setCell ⟨cc, 0, none⟩ (.int .i64 (c : Int))

theorem lit_both {P : Program} {ops : Array Oper} {Q : Exit → Act → List Frame → World → Prop} {md : Region.Mode} {n : Nat} {L L' : Array Bool} {b b' : Act} {cs : List Frame} {w : World}
    (hL : L = L') (hb : b = b') (h : wpAnyR P md ops Q n L' b' cs w) : wpAnyR P md ops Q n L b cs w := by subst hL; subst hb; exact h

set_option maxRecDepth 100000 in
set_option maxHeartbeats 4000000 in
theorem push1_any (x xc oc cc c : Nat) (u u' : FrameMode) (V : Value) (w : World) (R : Value → World → Prop)
    (hx : Blk w xc 67 #[.pointer (some ⟨x, 0, none⟩)]) (hoc : oc ≠ cc)
    (hrec : ∀ (c₀ : Frame) (cs : List Frame), c₀.mode = u → recov (c₀ :: cs) = (V, { c₀ with mode := u' } :: cs))
    (hcaught : ∀ w', Calls Tryz.prog 54 #[V] w' fun e w'' => e = .returned (.int .i64 (c : Int)) ∧ Below w'.heap.size w' w'')
    (hleave : ∀ w', Below w.heap.size w w' → Calls Tryz.prog 53 #[.pointer (some ⟨x, 0, none⟩), .int .i64 (c : Int)] w' fun e w'' => ∃ o1 o2 o3, e = .returned (.tuple #[.slice o1 o2 o3, .int .i64 (c : Int)]) ∧ R (.slice o1 o2 o3) w'' ∧ (∃ o0, Blk w'' oc 22 #[o0]) ∧ (∃ c0, Blk w'' cc 25 #[c0])) :
    CallsD Tryz.prog 52 #[.pointer (some ⟨xc, 0, none⟩), .pointer (some ⟨oc, 0, none⟩), .pointer (some ⟨cc, 0, none⟩)] u w fun e u2 w' => u2 = u' ∧ Left2 oc cc c R e w' := by
  refine callsD_of_wpS Tryz.func52 rfl fun c₀ cs hu => ?_
  refine wpS_region_any (by kernel_rfl) ?_
  have hre := hrec c₀ cs hu
  have hload : ∀ W, Below w.heap.size w W → W.cell? ⟨xc, 0, none⟩ = some (.pointer (some ⟨x, 0, none⟩)) := fun W hb => (hx.same (hb.block xc hx.lt)).cell 0
  have hbd : Below w.heap.size w w.drew := (Below.refl _ _).drew
  have htr : ∀ {W W'}, Below w.heap.size w W → Below W.heap.size W W' → Below w.heap.size w W' := fun h h' => h.trans (h'.mono h.size)
  change wpAnyR _ _ _ _ _ _ _ _ w.drew
  generalize w.drew = w1 at *
  refine wpAnyR_step (rs := [0, 1]) (by kernel_rfl) (by simp) fun i hi => ?_
  rcases List.mem_cons.1 hi with rfl | hi
  · refine opR_value (i := 0) (d := some 4) (v := .pointer (some ⟨x, 0, none⟩)) (w' := w1) rfl rfl rfl (by simp [go_sem, hload w1 hbd]) ?_
    refine lit_both (L' := #[true, false, false, false, false, false, false, false, false]) (b' := { tmps := #[.pointer (some ⟨xc, 0, none⟩), .pointer (some ⟨oc, 0, none⟩), .pointer (some ⟨cc, 0, none⟩), undef, (.pointer (some ⟨x, 0, none⟩)), undef, undef, undef, undef, undef], defers := [] }) (by kernel_rfl) (by kernel_rfl) ?_
    refine wpAnyR_step (rs := [1]) (by kernel_rfl) (by simp) fun i hi => ?_
    cases List.mem_singleton.1 hi
    refine opR_recover (i := 1) (d := some 5) rfl rfl rfl rfl hre ?_
    refine lit_both (L' := #[true, true, false, false, false, false, false, false, false]) (b' := { tmps := #[.pointer (some ⟨xc, 0, none⟩), .pointer (some ⟨oc, 0, none⟩), .pointer (some ⟨cc, 0, none⟩), undef, (.pointer (some ⟨x, 0, none⟩)), V, undef, undef, undef, undef], defers := [] }) (by kernel_rfl) (by kernel_rfl) ?_
    refine wpAnyR_step (rs := [2]) (by kernel_rfl) (by simp) fun i hi => ?_
    cases List.mem_singleton.1 hi
    refine opR_call (i := 2) (d := some 6) (f := 54) (args := #[V]) rfl rfl rfl (by kernel_rfl) (hcaught w1) ?_
    rintro e w2 ⟨rfl, hb2⟩
    refine ⟨_, rfl, ?_⟩
    refine lit_both (L' := #[true, true, true, false, false, false, false, false, false]) (b' := { tmps := #[.pointer (some ⟨xc, 0, none⟩), .pointer (some ⟨oc, 0, none⟩), .pointer (some ⟨cc, 0, none⟩), undef, (.pointer (some ⟨x, 0, none⟩)), V, (.int .i64 (c : Int)), undef, undef, undef], defers := [] }) (by kernel_rfl) (by kernel_rfl) ?_
    have hbd2 := htr hbd hb2
    refine wpAnyR_step (rs := [3]) (by kernel_rfl) (by simp) fun i hi => ?_
    cases List.mem_singleton.1 hi
    refine opR_call (i := 3) (d := some 7) (f := 53) (args := #[.pointer (some ⟨x, 0, none⟩), .int .i64 (c : Int)]) rfl rfl rfl (by kernel_rfl) (hleave w2 hbd2) ?_
    rintro e w3 ⟨o1, o2, o3, rfl, hR, ⟨o0, ho⟩, c0, hc⟩
    refine ⟨_, rfl, ?_⟩
    refine lit_both (L' := #[true, true, true, true, false, false, false, false, false]) (b' := { tmps := #[.pointer (some ⟨xc, 0, none⟩), .pointer (some ⟨oc, 0, none⟩), .pointer (some ⟨cc, 0, none⟩), undef, (.pointer (some ⟨x, 0, none⟩)), V, (.int .i64 (c : Int)), (.tuple #[.slice o1 o2 o3, .int .i64 (c : Int)]), undef, undef], defers := [] }) (by kernel_rfl) (by kernel_rfl) ?_
    have hca : w3.cell? ⟨oc, 0, none⟩ = some o0 := ho.cell 0
    have hc2 : Blk (w3.setCell ⟨oc, 0, none⟩ (.slice o1 o2 o3)) cc 25 #[c0] := ((Only.refl (fun k => oc = k) w3).setCell (p := ⟨oc, 0, none⟩) (fun _ => rfl) _).blk hc hoc
    have hcb : (w3.setCell ⟨oc, 0, none⟩ (.slice o1 o2 o3)).cell? ⟨cc, 0, none⟩ = some c0 := hc2.cell 0
    have hfa := ho.frozen 0
    have hfb := hc2.frozen 0
    refine wpAnyR_step (rs := [4]) (by kernel_rfl) (by simp) fun i hi => ?_
    cases List.mem_singleton.1 hi
    refine opR_value (i := 4) (d := some 3) (w' := w3) (v := .tuple #[.slice o1 o2 o3, .int .i64 (c : Int)]) rfl rfl rfl (by kernel_rfl) ?_
    refine lit_both (L' := #[true, true, true, true, true, false, false, false, false]) (b' := { tmps := #[.pointer (some ⟨xc, 0, none⟩), .pointer (some ⟨oc, 0, none⟩), .pointer (some ⟨cc, 0, none⟩), (.tuple #[.slice o1 o2 o3, .int .i64 (c : Int)]), (.pointer (some ⟨x, 0, none⟩)), V, (.int .i64 (c : Int)), (.tuple #[.slice o1 o2 o3, .int .i64 (c : Int)]), undef, undef], defers := [] }) (by kernel_rfl) (by kernel_rfl) ?_
    refine wpAnyR_step (rs := [5, 6]) (by kernel_rfl) (by simp) fun i hi => ?_
    rcases List.mem_cons.1 hi with rfl | hi
    · refine opR_value (i := 5) (d := some 8) (w' := w3) (v := .slice o1 o2 o3) rfl rfl rfl (by kernel_rfl) ?_
      refine lit_both (L' := #[true, true, true, true, true, true, false, false, false]) (b' := { tmps := #[.pointer (some ⟨xc, 0, none⟩), .pointer (some ⟨oc, 0, none⟩), .pointer (some ⟨cc, 0, none⟩), (.tuple #[.slice o1 o2 o3, .int .i64 (c : Int)]), (.pointer (some ⟨x, 0, none⟩)), V, (.int .i64 (c : Int)), (.tuple #[.slice o1 o2 o3, .int .i64 (c : Int)]), (.slice o1 o2 o3), undef], defers := [] }) (by kernel_rfl) (by kernel_rfl) ?_
      refine wpAnyR_step (rs := [6, 7]) (by kernel_rfl) (by simp) fun i hi => ?_
      rcases List.mem_cons.1 hi with rfl | hi
      · refine opR_value (i := 6) (d := some 9) (w' := w3) (v := .int .i64 (c : Int)) rfl rfl rfl (by kernel_rfl) ?_
        refine lit_both (L' := #[true, true, true, true, true, true, true, false, false]) (b' := { tmps := #[.pointer (some ⟨xc, 0, none⟩), .pointer (some ⟨oc, 0, none⟩), .pointer (some ⟨cc, 0, none⟩), (.tuple #[.slice o1 o2 o3, .int .i64 (c : Int)]), (.pointer (some ⟨x, 0, none⟩)), V, (.int .i64 (c : Int)), (.tuple #[.slice o1 o2 o3, .int .i64 (c : Int)]), (.slice o1 o2 o3), (.int .i64 (c : Int))], defers := [] }) (by kernel_rfl) (by kernel_rfl) ?_
        refine wpAnyR_step (rs := [7]) (by kernel_rfl) (by simp) fun i hi => ?_
        cases List.mem_singleton.1 hi
        refine opR_skip (i := 7) (w' := (w3.setCell ⟨oc, 0, none⟩ (.slice o1 o2 o3))) rfl rfl (by simp [go_sem, hca, hfa]) ?_
        refine lit_both (L' := #[true, true, true, true, true, true, true, true, false]) (b' := { tmps := #[.pointer (some ⟨xc, 0, none⟩), .pointer (some ⟨oc, 0, none⟩), .pointer (some ⟨cc, 0, none⟩), (.tuple #[.slice o1 o2 o3, .int .i64 (c : Int)]), (.pointer (some ⟨x, 0, none⟩)), V, (.int .i64 (c : Int)), (.tuple #[.slice o1 o2 o3, .int .i64 (c : Int)]), (.slice o1 o2 o3), (.int .i64 (c : Int))], defers := [] }) (by kernel_rfl) (by kernel_rfl) ?_
        refine wpAnyR_step (rs := [8]) (by kernel_rfl) (by simp) fun i hi => ?_
        cases List.mem_singleton.1 hi
        refine opR_skip (i := 8) (w' := (w3.setCell ⟨oc, 0, none⟩ (.slice o1 o2 o3)).setCell ⟨cc, 0, none⟩ (.int .i64 (c : Int))) rfl rfl (by simp [go_sem, hcb, hfb]) ?_
        refine lit_both (L' := #[true, true, true, true, true, true, true, true, true]) (b' := { tmps := #[.pointer (some ⟨xc, 0, none⟩), .pointer (some ⟨oc, 0, none⟩), .pointer (some ⟨cc, 0, none⟩), (.tuple #[.slice o1 o2 o3, .int .i64 (c : Int)]), (.pointer (some ⟨x, 0, none⟩)), V, (.int .i64 (c : Int)), (.tuple #[.slice o1 o2 o3, .int .i64 (c : Int)]), (.slice o1 o2 o3), (.int .i64 (c : Int))], defers := [] }) (by kernel_rfl) (by kernel_rfl) ?_
        refine wpAnyR_done (by kernel_rfl) ?_
        exact ⟨rfl, u', rfl, .tuple #[], by kernel_rfl, rfl, rfl, .slice o1 o2 o3, w3, hR, rfl⟩
      · cases List.mem_singleton.1 hi
        refine opR_skip (i := 7) (w' := (w3.setCell ⟨oc, 0, none⟩ (.slice o1 o2 o3))) rfl rfl (by simp [go_sem, hca, hfa]) ?_
        refine lit_both (L' := #[true, true, true, true, true, true, false, true, false]) (b' := { tmps := #[.pointer (some ⟨xc, 0, none⟩), .pointer (some ⟨oc, 0, none⟩), .pointer (some ⟨cc, 0, none⟩), (.tuple #[.slice o1 o2 o3, .int .i64 (c : Int)]), (.pointer (some ⟨x, 0, none⟩)), V, (.int .i64 (c : Int)), (.tuple #[.slice o1 o2 o3, .int .i64 (c : Int)]), (.slice o1 o2 o3), undef], defers := [] }) (by kernel_rfl) (by kernel_rfl) ?_
        refine wpAnyR_step (rs := [6]) (by kernel_rfl) (by simp) fun i hi => ?_
        cases List.mem_singleton.1 hi
        refine opR_value (i := 6) (d := some 9) (w' := (w3.setCell ⟨oc, 0, none⟩ (.slice o1 o2 o3))) (v := .int .i64 (c : Int)) rfl rfl rfl (by kernel_rfl) ?_
        refine lit_both (L' := #[true, true, true, true, true, true, true, true, false]) (b' := { tmps := #[.pointer (some ⟨xc, 0, none⟩), .pointer (some ⟨oc, 0, none⟩), .pointer (some ⟨cc, 0, none⟩), (.tuple #[.slice o1 o2 o3, .int .i64 (c : Int)]), (.pointer (some ⟨x, 0, none⟩)), V, (.int .i64 (c : Int)), (.tuple #[.slice o1 o2 o3, .int .i64 (c : Int)]), (.slice o1 o2 o3), (.int .i64 (c : Int))], defers := [] }) (by kernel_rfl) (by kernel_rfl) ?_
        refine wpAnyR_step (rs := [8]) (by kernel_rfl) (by simp) fun i hi => ?_
        cases List.mem_singleton.1 hi
        refine opR_skip (i := 8) (w' := (w3.setCell ⟨oc, 0, none⟩ (.slice o1 o2 o3)).setCell ⟨cc, 0, none⟩ (.int .i64 (c : Int))) rfl rfl (by simp [go_sem, hcb, hfb]) ?_
        refine lit_both (L' := #[true, true, true, true, true, true, true, true, true]) (b' := { tmps := #[.pointer (some ⟨xc, 0, none⟩), .pointer (some ⟨oc, 0, none⟩), .pointer (some ⟨cc, 0, none⟩), (.tuple #[.slice o1 o2 o3, .int .i64 (c : Int)]), (.pointer (some ⟨x, 0, none⟩)), V, (.int .i64 (c : Int)), (.tuple #[.slice o1 o2 o3, .int .i64 (c : Int)]), (.slice o1 o2 o3), (.int .i64 (c : Int))], defers := [] }) (by kernel_rfl) (by kernel_rfl) ?_
        refine wpAnyR_done (by kernel_rfl) ?_
        exact ⟨rfl, u', rfl, .tuple #[], by kernel_rfl, rfl, rfl, .slice o1 o2 o3, w3, hR, rfl⟩
    · cases List.mem_singleton.1 hi
      refine opR_value (i := 6) (d := some 9) (w' := w3) (v := .int .i64 (c : Int)) rfl rfl rfl (by kernel_rfl) ?_
      refine lit_both (L' := #[true, true, true, true, true, false, true, false, false]) (b' := { tmps := #[.pointer (some ⟨xc, 0, none⟩), .pointer (some ⟨oc, 0, none⟩), .pointer (some ⟨cc, 0, none⟩), (.tuple #[.slice o1 o2 o3, .int .i64 (c : Int)]), (.pointer (some ⟨x, 0, none⟩)), V, (.int .i64 (c : Int)), (.tuple #[.slice o1 o2 o3, .int .i64 (c : Int)]), undef, (.int .i64 (c : Int))], defers := [] }) (by kernel_rfl) (by kernel_rfl) ?_
      refine wpAnyR_step (rs := [5]) (by kernel_rfl) (by simp) fun i hi => ?_
      cases List.mem_singleton.1 hi
      refine opR_value (i := 5) (d := some 8) (w' := w3) (v := .slice o1 o2 o3) rfl rfl rfl (by kernel_rfl) ?_
      refine lit_both (L' := #[true, true, true, true, true, true, true, false, false]) (b' := { tmps := #[.pointer (some ⟨xc, 0, none⟩), .pointer (some ⟨oc, 0, none⟩), .pointer (some ⟨cc, 0, none⟩), (.tuple #[.slice o1 o2 o3, .int .i64 (c : Int)]), (.pointer (some ⟨x, 0, none⟩)), V, (.int .i64 (c : Int)), (.tuple #[.slice o1 o2 o3, .int .i64 (c : Int)]), (.slice o1 o2 o3), (.int .i64 (c : Int))], defers := [] }) (by kernel_rfl) (by kernel_rfl) ?_
      refine wpAnyR_step (rs := [7]) (by kernel_rfl) (by simp) fun i hi => ?_
      cases List.mem_singleton.1 hi
      refine opR_skip (i := 7) (w' := (w3.setCell ⟨oc, 0, none⟩ (.slice o1 o2 o3))) rfl rfl (by simp [go_sem, hca, hfa]) ?_
      refine lit_both (L' := #[true, true, true, true, true, true, true, true, false]) (b' := { tmps := #[.pointer (some ⟨xc, 0, none⟩), .pointer (some ⟨oc, 0, none⟩), .pointer (some ⟨cc, 0, none⟩), (.tuple #[.slice o1 o2 o3, .int .i64 (c : Int)]), (.pointer (some ⟨x, 0, none⟩)), V, (.int .i64 (c : Int)), (.tuple #[.slice o1 o2 o3, .int .i64 (c : Int)]), (.slice o1 o2 o3), (.int .i64 (c : Int))], defers := [] }) (by kernel_rfl) (by kernel_rfl) ?_
      refine wpAnyR_step (rs := [8]) (by kernel_rfl) (by simp) fun i hi => ?_
      cases List.mem_singleton.1 hi
      refine opR_skip (i := 8) (w' := (w3.setCell ⟨oc, 0, none⟩ (.slice o1 o2 o3)).setCell ⟨cc, 0, none⟩ (.int .i64 (c : Int))) rfl rfl (by simp [go_sem, hcb, hfb]) ?_
      refine lit_both (L' := #[true, true, true, true, true, true, true, true, true]) (b' := { tmps := #[.pointer (some ⟨xc, 0, none⟩), .pointer (some ⟨oc, 0, none⟩), .pointer (some ⟨cc, 0, none⟩), (.tuple #[.slice o1 o2 o3, .int .i64 (c : Int)]), (.pointer (some ⟨x, 0, none⟩)), V, (.int .i64 (c : Int)), (.tuple #[.slice o1 o2 o3, .int .i64 (c : Int)]), (.slice o1 o2 o3), (.int .i64 (c : Int))], defers := [] }) (by kernel_rfl) (by kernel_rfl) ?_
      refine wpAnyR_done (by kernel_rfl) ?_
      exact ⟨rfl, u', rfl, .tuple #[], by kernel_rfl, rfl, rfl, .slice o1 o2 o3, w3, hR, rfl⟩
  · cases List.mem_singleton.1 hi
    refine opR_recover (i := 1) (d := some 5) rfl rfl rfl rfl hre ?_
    refine lit_both (L' := #[false, true, false, false, false, false, false, false, false]) (b' := { tmps := #[.pointer (some ⟨xc, 0, none⟩), .pointer (some ⟨oc, 0, none⟩), .pointer (some ⟨cc, 0, none⟩), undef, undef, V, undef, undef, undef, undef], defers := [] }) (by kernel_rfl) (by kernel_rfl) ?_
    refine wpAnyR_step (rs := [0, 2]) (by kernel_rfl) (by simp) fun i hi => ?_
    rcases List.mem_cons.1 hi with rfl | hi
    · refine opR_value (i := 0) (d := some 4) (v := .pointer (some ⟨x, 0, none⟩)) (w' := w1) rfl rfl rfl (by simp [go_sem, hload w1 hbd]) ?_
      refine lit_both (L' := #[true, true, false, false, false, false, false, false, false]) (b' := { tmps := #[.pointer (some ⟨xc, 0, none⟩), .pointer (some ⟨oc, 0, none⟩), .pointer (some ⟨cc, 0, none⟩), undef, (.pointer (some ⟨x, 0, none⟩)), V, undef, undef, undef, undef], defers := [] }) (by kernel_rfl) (by kernel_rfl) ?_
      refine wpAnyR_step (rs := [2]) (by kernel_rfl) (by simp) fun i hi => ?_
      cases List.mem_singleton.1 hi
      refine opR_call (i := 2) (d := some 6) (f := 54) (args := #[V]) rfl rfl rfl (by kernel_rfl) (hcaught w1) ?_
      rintro e w2 ⟨rfl, hb2⟩
      refine ⟨_, rfl, ?_⟩
      refine lit_both (L' := #[true, true, true, false, false, false, false, false, false]) (b' := { tmps := #[.pointer (some ⟨xc, 0, none⟩), .pointer (some ⟨oc, 0, none⟩), .pointer (some ⟨cc, 0, none⟩), undef, (.pointer (some ⟨x, 0, none⟩)), V, (.int .i64 (c : Int)), undef, undef, undef], defers := [] }) (by kernel_rfl) (by kernel_rfl) ?_
      have hbd2 := htr hbd hb2
      refine wpAnyR_step (rs := [3]) (by kernel_rfl) (by simp) fun i hi => ?_
      cases List.mem_singleton.1 hi
      refine opR_call (i := 3) (d := some 7) (f := 53) (args := #[.pointer (some ⟨x, 0, none⟩), .int .i64 (c : Int)]) rfl rfl rfl (by kernel_rfl) (hleave w2 hbd2) ?_
      rintro e w3 ⟨o1, o2, o3, rfl, hR, ⟨o0, ho⟩, c0, hc⟩
      refine ⟨_, rfl, ?_⟩
      refine lit_both (L' := #[true, true, true, true, false, false, false, false, false]) (b' := { tmps := #[.pointer (some ⟨xc, 0, none⟩), .pointer (some ⟨oc, 0, none⟩), .pointer (some ⟨cc, 0, none⟩), undef, (.pointer (some ⟨x, 0, none⟩)), V, (.int .i64 (c : Int)), (.tuple #[.slice o1 o2 o3, .int .i64 (c : Int)]), undef, undef], defers := [] }) (by kernel_rfl) (by kernel_rfl) ?_
      have hca : w3.cell? ⟨oc, 0, none⟩ = some o0 := ho.cell 0
      have hc2 : Blk (w3.setCell ⟨oc, 0, none⟩ (.slice o1 o2 o3)) cc 25 #[c0] := ((Only.refl (fun k => oc = k) w3).setCell (p := ⟨oc, 0, none⟩) (fun _ => rfl) _).blk hc hoc
      have hcb : (w3.setCell ⟨oc, 0, none⟩ (.slice o1 o2 o3)).cell? ⟨cc, 0, none⟩ = some c0 := hc2.cell 0
      have hfa := ho.frozen 0
      have hfb := hc2.frozen 0
      refine wpAnyR_step (rs := [4]) (by kernel_rfl) (by simp) fun i hi => ?_
      cases List.mem_singleton.1 hi
      refine opR_value (i := 4) (d := some 3) (w' := w3) (v := .tuple #[.slice o1 o2 o3, .int .i64 (c : Int)]) rfl rfl rfl (by kernel_rfl) ?_
      refine lit_both (L' := #[true, true, true, true, true, false, false, false, false]) (b' := { tmps := #[.pointer (some ⟨xc, 0, none⟩), .pointer (some ⟨oc, 0, none⟩), .pointer (some ⟨cc, 0, none⟩), (.tuple #[.slice o1 o2 o3, .int .i64 (c : Int)]), (.pointer (some ⟨x, 0, none⟩)), V, (.int .i64 (c : Int)), (.tuple #[.slice o1 o2 o3, .int .i64 (c : Int)]), undef, undef], defers := [] }) (by kernel_rfl) (by kernel_rfl) ?_
      refine wpAnyR_step (rs := [5, 6]) (by kernel_rfl) (by simp) fun i hi => ?_
      rcases List.mem_cons.1 hi with rfl | hi
      · refine opR_value (i := 5) (d := some 8) (w' := w3) (v := .slice o1 o2 o3) rfl rfl rfl (by kernel_rfl) ?_
        refine lit_both (L' := #[true, true, true, true, true, true, false, false, false]) (b' := { tmps := #[.pointer (some ⟨xc, 0, none⟩), .pointer (some ⟨oc, 0, none⟩), .pointer (some ⟨cc, 0, none⟩), (.tuple #[.slice o1 o2 o3, .int .i64 (c : Int)]), (.pointer (some ⟨x, 0, none⟩)), V, (.int .i64 (c : Int)), (.tuple #[.slice o1 o2 o3, .int .i64 (c : Int)]), (.slice o1 o2 o3), undef], defers := [] }) (by kernel_rfl) (by kernel_rfl) ?_
        refine wpAnyR_step (rs := [6, 7]) (by kernel_rfl) (by simp) fun i hi => ?_
        rcases List.mem_cons.1 hi with rfl | hi
        · refine opR_value (i := 6) (d := some 9) (w' := w3) (v := .int .i64 (c : Int)) rfl rfl rfl (by kernel_rfl) ?_
          refine lit_both (L' := #[true, true, true, true, true, true, true, false, false]) (b' := { tmps := #[.pointer (some ⟨xc, 0, none⟩), .pointer (some ⟨oc, 0, none⟩), .pointer (some ⟨cc, 0, none⟩), (.tuple #[.slice o1 o2 o3, .int .i64 (c : Int)]), (.pointer (some ⟨x, 0, none⟩)), V, (.int .i64 (c : Int)), (.tuple #[.slice o1 o2 o3, .int .i64 (c : Int)]), (.slice o1 o2 o3), (.int .i64 (c : Int))], defers := [] }) (by kernel_rfl) (by kernel_rfl) ?_
          refine wpAnyR_step (rs := [7]) (by kernel_rfl) (by simp) fun i hi => ?_
          cases List.mem_singleton.1 hi
          refine opR_skip (i := 7) (w' := (w3.setCell ⟨oc, 0, none⟩ (.slice o1 o2 o3))) rfl rfl (by simp [go_sem, hca, hfa]) ?_
          refine lit_both (L' := #[true, true, true, true, true, true, true, true, false]) (b' := { tmps := #[.pointer (some ⟨xc, 0, none⟩), .pointer (some ⟨oc, 0, none⟩), .pointer (some ⟨cc, 0, none⟩), (.tuple #[.slice o1 o2 o3, .int .i64 (c : Int)]), (.pointer (some ⟨x, 0, none⟩)), V, (.int .i64 (c : Int)), (.tuple #[.slice o1 o2 o3, .int .i64 (c : Int)]), (.slice o1 o2 o3), (.int .i64 (c : Int))], defers := [] }) (by kernel_rfl) (by kernel_rfl) ?_
          refine wpAnyR_step (rs := [8]) (by kernel_rfl) (by simp) fun i hi => ?_
          cases List.mem_singleton.1 hi
          refine opR_skip (i := 8) (w' := (w3.setCell ⟨oc, 0, none⟩ (.slice o1 o2 o3)).setCell ⟨cc, 0, none⟩ (.int .i64 (c : Int))) rfl rfl (by simp [go_sem, hcb, hfb]) ?_
          refine lit_both (L' := #[true, true, true, true, true, true, true, true, true]) (b' := { tmps := #[.pointer (some ⟨xc, 0, none⟩), .pointer (some ⟨oc, 0, none⟩), .pointer (some ⟨cc, 0, none⟩), (.tuple #[.slice o1 o2 o3, .int .i64 (c : Int)]), (.pointer (some ⟨x, 0, none⟩)), V, (.int .i64 (c : Int)), (.tuple #[.slice o1 o2 o3, .int .i64 (c : Int)]), (.slice o1 o2 o3), (.int .i64 (c : Int))], defers := [] }) (by kernel_rfl) (by kernel_rfl) ?_
          refine wpAnyR_done (by kernel_rfl) ?_
          exact ⟨rfl, u', rfl, .tuple #[], by kernel_rfl, rfl, rfl, .slice o1 o2 o3, w3, hR, rfl⟩
        · cases List.mem_singleton.1 hi
          refine opR_skip (i := 7) (w' := (w3.setCell ⟨oc, 0, none⟩ (.slice o1 o2 o3))) rfl rfl (by simp [go_sem, hca, hfa]) ?_
          refine lit_both (L' := #[true, true, true, true, true, true, false, true, false]) (b' := { tmps := #[.pointer (some ⟨xc, 0, none⟩), .pointer (some ⟨oc, 0, none⟩), .pointer (some ⟨cc, 0, none⟩), (.tuple #[.slice o1 o2 o3, .int .i64 (c : Int)]), (.pointer (some ⟨x, 0, none⟩)), V, (.int .i64 (c : Int)), (.tuple #[.slice o1 o2 o3, .int .i64 (c : Int)]), (.slice o1 o2 o3), undef], defers := [] }) (by kernel_rfl) (by kernel_rfl) ?_
          refine wpAnyR_step (rs := [6]) (by kernel_rfl) (by simp) fun i hi => ?_
          cases List.mem_singleton.1 hi
          refine opR_value (i := 6) (d := some 9) (w' := (w3.setCell ⟨oc, 0, none⟩ (.slice o1 o2 o3))) (v := .int .i64 (c : Int)) rfl rfl rfl (by kernel_rfl) ?_
          refine lit_both (L' := #[true, true, true, true, true, true, true, true, false]) (b' := { tmps := #[.pointer (some ⟨xc, 0, none⟩), .pointer (some ⟨oc, 0, none⟩), .pointer (some ⟨cc, 0, none⟩), (.tuple #[.slice o1 o2 o3, .int .i64 (c : Int)]), (.pointer (some ⟨x, 0, none⟩)), V, (.int .i64 (c : Int)), (.tuple #[.slice o1 o2 o3, .int .i64 (c : Int)]), (.slice o1 o2 o3), (.int .i64 (c : Int))], defers := [] }) (by kernel_rfl) (by kernel_rfl) ?_
          refine wpAnyR_step (rs := [8]) (by kernel_rfl) (by simp) fun i hi => ?_
          cases List.mem_singleton.1 hi
          refine opR_skip (i := 8) (w' := (w3.setCell ⟨oc, 0, none⟩ (.slice o1 o2 o3)).setCell ⟨cc, 0, none⟩ (.int .i64 (c : Int))) rfl rfl (by simp [go_sem, hcb, hfb]) ?_
          refine lit_both (L' := #[true, true, true, true, true, true, true, true, true]) (b' := { tmps := #[.pointer (some ⟨xc, 0, none⟩), .pointer (some ⟨oc, 0, none⟩), .pointer (some ⟨cc, 0, none⟩), (.tuple #[.slice o1 o2 o3, .int .i64 (c : Int)]), (.pointer (some ⟨x, 0, none⟩)), V, (.int .i64 (c : Int)), (.tuple #[.slice o1 o2 o3, .int .i64 (c : Int)]), (.slice o1 o2 o3), (.int .i64 (c : Int))], defers := [] }) (by kernel_rfl) (by kernel_rfl) ?_
          refine wpAnyR_done (by kernel_rfl) ?_
          exact ⟨rfl, u', rfl, .tuple #[], by kernel_rfl, rfl, rfl, .slice o1 o2 o3, w3, hR, rfl⟩
      · cases List.mem_singleton.1 hi
        refine opR_value (i := 6) (d := some 9) (w' := w3) (v := .int .i64 (c : Int)) rfl rfl rfl (by kernel_rfl) ?_
        refine lit_both (L' := #[true, true, true, true, true, false, true, false, false]) (b' := { tmps := #[.pointer (some ⟨xc, 0, none⟩), .pointer (some ⟨oc, 0, none⟩), .pointer (some ⟨cc, 0, none⟩), (.tuple #[.slice o1 o2 o3, .int .i64 (c : Int)]), (.pointer (some ⟨x, 0, none⟩)), V, (.int .i64 (c : Int)), (.tuple #[.slice o1 o2 o3, .int .i64 (c : Int)]), undef, (.int .i64 (c : Int))], defers := [] }) (by kernel_rfl) (by kernel_rfl) ?_
        refine wpAnyR_step (rs := [5]) (by kernel_rfl) (by simp) fun i hi => ?_
        cases List.mem_singleton.1 hi
        refine opR_value (i := 5) (d := some 8) (w' := w3) (v := .slice o1 o2 o3) rfl rfl rfl (by kernel_rfl) ?_
        refine lit_both (L' := #[true, true, true, true, true, true, true, false, false]) (b' := { tmps := #[.pointer (some ⟨xc, 0, none⟩), .pointer (some ⟨oc, 0, none⟩), .pointer (some ⟨cc, 0, none⟩), (.tuple #[.slice o1 o2 o3, .int .i64 (c : Int)]), (.pointer (some ⟨x, 0, none⟩)), V, (.int .i64 (c : Int)), (.tuple #[.slice o1 o2 o3, .int .i64 (c : Int)]), (.slice o1 o2 o3), (.int .i64 (c : Int))], defers := [] }) (by kernel_rfl) (by kernel_rfl) ?_
        refine wpAnyR_step (rs := [7]) (by kernel_rfl) (by simp) fun i hi => ?_
        cases List.mem_singleton.1 hi
        refine opR_skip (i := 7) (w' := (w3.setCell ⟨oc, 0, none⟩ (.slice o1 o2 o3))) rfl rfl (by simp [go_sem, hca, hfa]) ?_
        refine lit_both (L' := #[true, true, true, true, true, true, true, true, false]) (b' := { tmps := #[.pointer (some ⟨xc, 0, none⟩), .pointer (some ⟨oc, 0, none⟩), .pointer (some ⟨cc, 0, none⟩), (.tuple #[.slice o1 o2 o3, .int .i64 (c : Int)]), (.pointer (some ⟨x, 0, none⟩)), V, (.int .i64 (c : Int)), (.tuple #[.slice o1 o2 o3, .int .i64 (c : Int)]), (.slice o1 o2 o3), (.int .i64 (c : Int))], defers := [] }) (by kernel_rfl) (by kernel_rfl) ?_
        refine wpAnyR_step (rs := [8]) (by kernel_rfl) (by simp) fun i hi => ?_
        cases List.mem_singleton.1 hi
        refine opR_skip (i := 8) (w' := (w3.setCell ⟨oc, 0, none⟩ (.slice o1 o2 o3)).setCell ⟨cc, 0, none⟩ (.int .i64 (c : Int))) rfl rfl (by simp [go_sem, hcb, hfb]) ?_
        refine lit_both (L' := #[true, true, true, true, true, true, true, true, true]) (b' := { tmps := #[.pointer (some ⟨xc, 0, none⟩), .pointer (some ⟨oc, 0, none⟩), .pointer (some ⟨cc, 0, none⟩), (.tuple #[.slice o1 o2 o3, .int .i64 (c : Int)]), (.pointer (some ⟨x, 0, none⟩)), V, (.int .i64 (c : Int)), (.tuple #[.slice o1 o2 o3, .int .i64 (c : Int)]), (.slice o1 o2 o3), (.int .i64 (c : Int))], defers := [] }) (by kernel_rfl) (by kernel_rfl) ?_
        refine wpAnyR_done (by kernel_rfl) ?_
        exact ⟨rfl, u', rfl, .tuple #[], by kernel_rfl, rfl, rfl, .slice o1 o2 o3, w3, hR, rfl⟩
    · cases List.mem_singleton.1 hi
      refine opR_call (i := 2) (d := some 6) (f := 54) (args := #[V]) rfl rfl rfl (by kernel_rfl) (hcaught w1) ?_
      rintro e w2 ⟨rfl, hb2⟩
      refine ⟨_, rfl, ?_⟩
      refine lit_both (L' := #[false, true, true, false, false, false, false, false, false]) (b' := { tmps := #[.pointer (some ⟨xc, 0, none⟩), .pointer (some ⟨oc, 0, none⟩), .pointer (some ⟨cc, 0, none⟩), undef, undef, V, (.int .i64 (c : Int)), undef, undef, undef], defers := [] }) (by kernel_rfl) (by kernel_rfl) ?_
      have hbd2 := htr hbd hb2
      refine wpAnyR_step (rs := [0]) (by kernel_rfl) (by simp) fun i hi => ?_
      cases List.mem_singleton.1 hi
      refine opR_value (i := 0) (d := some 4) (v := .pointer (some ⟨x, 0, none⟩)) (w' := w2) rfl rfl rfl (by simp [go_sem, hload w2 hbd2]) ?_
      refine lit_both (L' := #[true, true, true, false, false, false, false, false, false]) (b' := { tmps := #[.pointer (some ⟨xc, 0, none⟩), .pointer (some ⟨oc, 0, none⟩), .pointer (some ⟨cc, 0, none⟩), undef, (.pointer (some ⟨x, 0, none⟩)), V, (.int .i64 (c : Int)), undef, undef, undef], defers := [] }) (by kernel_rfl) (by kernel_rfl) ?_
      refine wpAnyR_step (rs := [3]) (by kernel_rfl) (by simp) fun i hi => ?_
      cases List.mem_singleton.1 hi
      refine opR_call (i := 3) (d := some 7) (f := 53) (args := #[.pointer (some ⟨x, 0, none⟩), .int .i64 (c : Int)]) rfl rfl rfl (by kernel_rfl) (hleave w2 hbd2) ?_
      rintro e w3 ⟨o1, o2, o3, rfl, hR, ⟨o0, ho⟩, c0, hc⟩
      refine ⟨_, rfl, ?_⟩
      refine lit_both (L' := #[true, true, true, true, false, false, false, false, false]) (b' := { tmps := #[.pointer (some ⟨xc, 0, none⟩), .pointer (some ⟨oc, 0, none⟩), .pointer (some ⟨cc, 0, none⟩), undef, (.pointer (some ⟨x, 0, none⟩)), V, (.int .i64 (c : Int)), (.tuple #[.slice o1 o2 o3, .int .i64 (c : Int)]), undef, undef], defers := [] }) (by kernel_rfl) (by kernel_rfl) ?_
      have hca : w3.cell? ⟨oc, 0, none⟩ = some o0 := ho.cell 0
      have hc2 : Blk (w3.setCell ⟨oc, 0, none⟩ (.slice o1 o2 o3)) cc 25 #[c0] := ((Only.refl (fun k => oc = k) w3).setCell (p := ⟨oc, 0, none⟩) (fun _ => rfl) _).blk hc hoc
      have hcb : (w3.setCell ⟨oc, 0, none⟩ (.slice o1 o2 o3)).cell? ⟨cc, 0, none⟩ = some c0 := hc2.cell 0
      have hfa := ho.frozen 0
      have hfb := hc2.frozen 0
      refine wpAnyR_step (rs := [4]) (by kernel_rfl) (by simp) fun i hi => ?_
      cases List.mem_singleton.1 hi
      refine opR_value (i := 4) (d := some 3) (w' := w3) (v := .tuple #[.slice o1 o2 o3, .int .i64 (c : Int)]) rfl rfl rfl (by kernel_rfl) ?_
      refine lit_both (L' := #[true, true, true, true, true, false, false, false, false]) (b' := { tmps := #[.pointer (some ⟨xc, 0, none⟩), .pointer (some ⟨oc, 0, none⟩), .pointer (some ⟨cc, 0, none⟩), (.tuple #[.slice o1 o2 o3, .int .i64 (c : Int)]), (.pointer (some ⟨x, 0, none⟩)), V, (.int .i64 (c : Int)), (.tuple #[.slice o1 o2 o3, .int .i64 (c : Int)]), undef, undef], defers := [] }) (by kernel_rfl) (by kernel_rfl) ?_
      refine wpAnyR_step (rs := [5, 6]) (by kernel_rfl) (by simp) fun i hi => ?_
      rcases List.mem_cons.1 hi with rfl | hi
      · refine opR_value (i := 5) (d := some 8) (w' := w3) (v := .slice o1 o2 o3) rfl rfl rfl (by kernel_rfl) ?_
        refine lit_both (L' := #[true, true, true, true, true, true, false, false, false]) (b' := { tmps := #[.pointer (some ⟨xc, 0, none⟩), .pointer (some ⟨oc, 0, none⟩), .pointer (some ⟨cc, 0, none⟩), (.tuple #[.slice o1 o2 o3, .int .i64 (c : Int)]), (.pointer (some ⟨x, 0, none⟩)), V, (.int .i64 (c : Int)), (.tuple #[.slice o1 o2 o3, .int .i64 (c : Int)]), (.slice o1 o2 o3), undef], defers := [] }) (by kernel_rfl) (by kernel_rfl) ?_
        refine wpAnyR_step (rs := [6, 7]) (by kernel_rfl) (by simp) fun i hi => ?_
        rcases List.mem_cons.1 hi with rfl | hi
        · refine opR_value (i := 6) (d := some 9) (w' := w3) (v := .int .i64 (c : Int)) rfl rfl rfl (by kernel_rfl) ?_
          refine lit_both (L' := #[true, true, true, true, true, true, true, false, false]) (b' := { tmps := #[.pointer (some ⟨xc, 0, none⟩), .pointer (some ⟨oc, 0, none⟩), .pointer (some ⟨cc, 0, none⟩), (.tuple #[.slice o1 o2 o3, .int .i64 (c : Int)]), (.pointer (some ⟨x, 0, none⟩)), V, (.int .i64 (c : Int)), (.tuple #[.slice o1 o2 o3, .int .i64 (c : Int)]), (.slice o1 o2 o3), (.int .i64 (c : Int))], defers := [] }) (by kernel_rfl) (by kernel_rfl) ?_
          refine wpAnyR_step (rs := [7]) (by kernel_rfl) (by simp) fun i hi => ?_
          cases List.mem_singleton.1 hi
          refine opR_skip (i := 7) (w' := (w3.setCell ⟨oc, 0, none⟩ (.slice o1 o2 o3))) rfl rfl (by simp [go_sem, hca, hfa]) ?_
          refine lit_both (L' := #[true, true, true, true, true, true, true, true, false]) (b' := { tmps := #[.pointer (some ⟨xc, 0, none⟩), .pointer (some ⟨oc, 0, none⟩), .pointer (some ⟨cc, 0, none⟩), (.tuple #[.slice o1 o2 o3, .int .i64 (c : Int)]), (.pointer (some ⟨x, 0, none⟩)), V, (.int .i64 (c : Int)), (.tuple #[.slice o1 o2 o3, .int .i64 (c : Int)]), (.slice o1 o2 o3), (.int .i64 (c : Int))], defers := [] }) (by kernel_rfl) (by kernel_rfl) ?_
          refine wpAnyR_step (rs := [8]) (by kernel_rfl) (by simp) fun i hi => ?_
          cases List.mem_singleton.1 hi
          refine opR_skip (i := 8) (w' := (w3.setCell ⟨oc, 0, none⟩ (.slice o1 o2 o3)).setCell ⟨cc, 0, none⟩ (.int .i64 (c : Int))) rfl rfl (by simp [go_sem, hcb, hfb]) ?_
          refine lit_both (L' := #[true, true, true, true, true, true, true, true, true]) (b' := { tmps := #[.pointer (some ⟨xc, 0, none⟩), .pointer (some ⟨oc, 0, none⟩), .pointer (some ⟨cc, 0, none⟩), (.tuple #[.slice o1 o2 o3, .int .i64 (c : Int)]), (.pointer (some ⟨x, 0, none⟩)), V, (.int .i64 (c : Int)), (.tuple #[.slice o1 o2 o3, .int .i64 (c : Int)]), (.slice o1 o2 o3), (.int .i64 (c : Int))], defers := [] }) (by kernel_rfl) (by kernel_rfl) ?_
          refine wpAnyR_done (by kernel_rfl) ?_
          exact ⟨rfl, u', rfl, .tuple #[], by kernel_rfl, rfl, rfl, .slice o1 o2 o3, w3, hR, rfl⟩
        · cases List.mem_singleton.1 hi
          refine opR_skip (i := 7) (w' := (w3.setCell ⟨oc, 0, none⟩ (.slice o1 o2 o3))) rfl rfl (by simp [go_sem, hca, hfa]) ?_
          refine lit_both (L' := #[true, true, true, true, true, true, false, true, false]) (b' := { tmps := #[.pointer (some ⟨xc, 0, none⟩), .pointer (some ⟨oc, 0, none⟩), .pointer (some ⟨cc, 0, none⟩), (.tuple #[.slice o1 o2 o3, .int .i64 (c : Int)]), (.pointer (some ⟨x, 0, none⟩)), V, (.int .i64 (c : Int)), (.tuple #[.slice o1 o2 o3, .int .i64 (c : Int)]), (.slice o1 o2 o3), undef], defers := [] }) (by kernel_rfl) (by kernel_rfl) ?_
          refine wpAnyR_step (rs := [6]) (by kernel_rfl) (by simp) fun i hi => ?_
          cases List.mem_singleton.1 hi
          refine opR_value (i := 6) (d := some 9) (w' := (w3.setCell ⟨oc, 0, none⟩ (.slice o1 o2 o3))) (v := .int .i64 (c : Int)) rfl rfl rfl (by kernel_rfl) ?_
          refine lit_both (L' := #[true, true, true, true, true, true, true, true, false]) (b' := { tmps := #[.pointer (some ⟨xc, 0, none⟩), .pointer (some ⟨oc, 0, none⟩), .pointer (some ⟨cc, 0, none⟩), (.tuple #[.slice o1 o2 o3, .int .i64 (c : Int)]), (.pointer (some ⟨x, 0, none⟩)), V, (.int .i64 (c : Int)), (.tuple #[.slice o1 o2 o3, .int .i64 (c : Int)]), (.slice o1 o2 o3), (.int .i64 (c : Int))], defers := [] }) (by kernel_rfl) (by kernel_rfl) ?_
          refine wpAnyR_step (rs := [8]) (by kernel_rfl) (by simp) fun i hi => ?_
          cases List.mem_singleton.1 hi
          refine opR_skip (i := 8) (w' := (w3.setCell ⟨oc, 0, none⟩ (.slice o1 o2 o3)).setCell ⟨cc, 0, none⟩ (.int .i64 (c : Int))) rfl rfl (by simp [go_sem, hcb, hfb]) ?_
          refine lit_both (L' := #[true, true, true, true, true, true, true, true, true]) (b' := { tmps := #[.pointer (some ⟨xc, 0, none⟩), .pointer (some ⟨oc, 0, none⟩), .pointer (some ⟨cc, 0, none⟩), (.tuple #[.slice o1 o2 o3, .int .i64 (c : Int)]), (.pointer (some ⟨x, 0, none⟩)), V, (.int .i64 (c : Int)), (.tuple #[.slice o1 o2 o3, .int .i64 (c : Int)]), (.slice o1 o2 o3), (.int .i64 (c : Int))], defers := [] }) (by kernel_rfl) (by kernel_rfl) ?_
          refine wpAnyR_done (by kernel_rfl) ?_
          exact ⟨rfl, u', rfl, .tuple #[], by kernel_rfl, rfl, rfl, .slice o1 o2 o3, w3, hR, rfl⟩
      · cases List.mem_singleton.1 hi
        refine opR_value (i := 6) (d := some 9) (w' := w3) (v := .int .i64 (c : Int)) rfl rfl rfl (by kernel_rfl) ?_
        refine lit_both (L' := #[true, true, true, true, true, false, true, false, false]) (b' := { tmps := #[.pointer (some ⟨xc, 0, none⟩), .pointer (some ⟨oc, 0, none⟩), .pointer (some ⟨cc, 0, none⟩), (.tuple #[.slice o1 o2 o3, .int .i64 (c : Int)]), (.pointer (some ⟨x, 0, none⟩)), V, (.int .i64 (c : Int)), (.tuple #[.slice o1 o2 o3, .int .i64 (c : Int)]), undef, (.int .i64 (c : Int))], defers := [] }) (by kernel_rfl) (by kernel_rfl) ?_
        refine wpAnyR_step (rs := [5]) (by kernel_rfl) (by simp) fun i hi => ?_
        cases List.mem_singleton.1 hi
        refine opR_value (i := 5) (d := some 8) (w' := w3) (v := .slice o1 o2 o3) rfl rfl rfl (by kernel_rfl) ?_
        refine lit_both (L' := #[true, true, true, true, true, true, true, false, false]) (b' := { tmps := #[.pointer (some ⟨xc, 0, none⟩), .pointer (some ⟨oc, 0, none⟩), .pointer (some ⟨cc, 0, none⟩), (.tuple #[.slice o1 o2 o3, .int .i64 (c : Int)]), (.pointer (some ⟨x, 0, none⟩)), V, (.int .i64 (c : Int)), (.tuple #[.slice o1 o2 o3, .int .i64 (c : Int)]), (.slice o1 o2 o3), (.int .i64 (c : Int))], defers := [] }) (by kernel_rfl) (by kernel_rfl) ?_
        refine wpAnyR_step (rs := [7]) (by kernel_rfl) (by simp) fun i hi => ?_
        cases List.mem_singleton.1 hi
        refine opR_skip (i := 7) (w' := (w3.setCell ⟨oc, 0, none⟩ (.slice o1 o2 o3))) rfl rfl (by simp [go_sem, hca, hfa]) ?_
        refine lit_both (L' := #[true, true, true, true, true, true, true, true, false]) (b' := { tmps := #[.pointer (some ⟨xc, 0, none⟩), .pointer (some ⟨oc, 0, none⟩), .pointer (some ⟨cc, 0, none⟩), (.tuple #[.slice o1 o2 o3, .int .i64 (c : Int)]), (.pointer (some ⟨x, 0, none⟩)), V, (.int .i64 (c : Int)), (.tuple #[.slice o1 o2 o3, .int .i64 (c : Int)]), (.slice o1 o2 o3), (.int .i64 (c : Int))], defers := [] }) (by kernel_rfl) (by kernel_rfl) ?_
        refine wpAnyR_step (rs := [8]) (by kernel_rfl) (by simp) fun i hi => ?_
        cases List.mem_singleton.1 hi
        refine opR_skip (i := 8) (w' := (w3.setCell ⟨oc, 0, none⟩ (.slice o1 o2 o3)).setCell ⟨cc, 0, none⟩ (.int .i64 (c : Int))) rfl rfl (by simp [go_sem, hcb, hfb]) ?_
        refine lit_both (L' := #[true, true, true, true, true, true, true, true, true]) (b' := { tmps := #[.pointer (some ⟨xc, 0, none⟩), .pointer (some ⟨oc, 0, none⟩), .pointer (some ⟨cc, 0, none⟩), (.tuple #[.slice o1 o2 o3, .int .i64 (c : Int)]), (.pointer (some ⟨x, 0, none⟩)), V, (.int .i64 (c : Int)), (.tuple #[.slice o1 o2 o3, .int .i64 (c : Int)]), (.slice o1 o2 o3), (.int .i64 (c : Int))], defers := [] }) (by kernel_rfl) (by kernel_rfl) ?_
        refine wpAnyR_done (by kernel_rfl) ?_
        exact ⟨rfl, u', rfl, .tuple #[], by kernel_rfl, rfl, rfl, .slice o1 o2 o3, w3, hR, rfl⟩

set_option maxRecDepth 100000 in
set_option maxHeartbeats 4000000 in
theorem end1_any (x xc oc cc c : Nat) (u u' : FrameMode) (V : Value) (w : World) (R : Value → World → Prop)
    (hx : Blk w xc 67 #[.pointer (some ⟨x, 0, none⟩)]) (hoc : oc ≠ cc)
    (hrec : ∀ (c₀ : Frame) (cs : List Frame), c₀.mode = u → recov (c₀ :: cs) = (V, { c₀ with mode := u' } :: cs))
    (hcaught : ∀ w', Calls Tryz.prog 54 #[V] w' fun e w'' => e = .returned (.int .i64 (c : Int)) ∧ Below w'.heap.size w' w'')
    (hleave : ∀ w', Below w.heap.size w w' → Calls Tryz.prog 53 #[.pointer (some ⟨x, 0, none⟩), .int .i64 (c : Int)] w' fun e w'' => ∃ o1 o2 o3, e = .returned (.tuple #[.slice o1 o2 o3, .int .i64 (c : Int)]) ∧ R (.slice o1 o2 o3) w'' ∧ (∃ o0, Blk w'' oc 22 #[o0]) ∧ (∃ c0, Blk w'' cc 25 #[c0])) :
    CallsD Tryz.prog 57 #[.pointer (some ⟨xc, 0, none⟩), .pointer (some ⟨oc, 0, none⟩), .pointer (some ⟨cc, 0, none⟩)] u w fun e u2 w' => u2 = u' ∧ Left2 oc cc c R e w' := by
  refine callsD_of_wpS Tryz.func57 rfl fun c₀ cs hu => ?_
  refine wpS_region_any (by kernel_rfl) ?_
  have hre := hrec c₀ cs hu
  have hload : ∀ W, Below w.heap.size w W → W.cell? ⟨xc, 0, none⟩ = some (.pointer (some ⟨x, 0, none⟩)) := fun W hb => (hx.same (hb.block xc hx.lt)).cell 0
  have hbd : Below w.heap.size w w.drew := (Below.refl _ _).drew
  have htr : ∀ {W W'}, Below w.heap.size w W → Below W.heap.size W W' → Below w.heap.size w W' := fun h h' => h.trans (h'.mono h.size)
  change wpAnyR _ _ _ _ _ _ _ _ w.drew
  generalize w.drew = w1 at *
  refine wpAnyR_step (rs := [0, 1]) (by kernel_rfl) (by simp) fun i hi => ?_
  rcases List.mem_cons.1 hi with rfl | hi
  · refine opR_value (i := 0) (d := some 4) (v := .pointer (some ⟨x, 0, none⟩)) (w' := w1) rfl rfl rfl (by simp [go_sem, hload w1 hbd]) ?_
    refine lit_both (L' := #[true, false, false, false, false, false, false, false, false]) (b' := { tmps := #[.pointer (some ⟨xc, 0, none⟩), .pointer (some ⟨oc, 0, none⟩), .pointer (some ⟨cc, 0, none⟩), undef, (.pointer (some ⟨x, 0, none⟩)), undef, undef, undef, undef, undef], defers := [] }) (by kernel_rfl) (by kernel_rfl) ?_
    refine wpAnyR_step (rs := [1]) (by kernel_rfl) (by simp) fun i hi => ?_
    cases List.mem_singleton.1 hi
    refine opR_recover (i := 1) (d := some 5) rfl rfl rfl rfl hre ?_
    refine lit_both (L' := #[true, true, false, false, false, false, false, false, false]) (b' := { tmps := #[.pointer (some ⟨xc, 0, none⟩), .pointer (some ⟨oc, 0, none⟩), .pointer (some ⟨cc, 0, none⟩), undef, (.pointer (some ⟨x, 0, none⟩)), V, undef, undef, undef, undef], defers := [] }) (by kernel_rfl) (by kernel_rfl) ?_
    refine wpAnyR_step (rs := [2]) (by kernel_rfl) (by simp) fun i hi => ?_
    cases List.mem_singleton.1 hi
    refine opR_call (i := 2) (d := some 6) (f := 54) (args := #[V]) rfl rfl rfl (by kernel_rfl) (hcaught w1) ?_
    rintro e w2 ⟨rfl, hb2⟩
    refine ⟨_, rfl, ?_⟩
    refine lit_both (L' := #[true, true, true, false, false, false, false, false, false]) (b' := { tmps := #[.pointer (some ⟨xc, 0, none⟩), .pointer (some ⟨oc, 0, none⟩), .pointer (some ⟨cc, 0, none⟩), undef, (.pointer (some ⟨x, 0, none⟩)), V, (.int .i64 (c : Int)), undef, undef, undef], defers := [] }) (by kernel_rfl) (by kernel_rfl) ?_
    have hbd2 := htr hbd hb2
    refine wpAnyR_step (rs := [3]) (by kernel_rfl) (by simp) fun i hi => ?_
    cases List.mem_singleton.1 hi
    refine opR_call (i := 3) (d := some 7) (f := 53) (args := #[.pointer (some ⟨x, 0, none⟩), .int .i64 (c : Int)]) rfl rfl rfl (by kernel_rfl) (hleave w2 hbd2) ?_
    rintro e w3 ⟨o1, o2, o3, rfl, hR, ⟨o0, ho⟩, c0, hc⟩
    refine ⟨_, rfl, ?_⟩
    refine lit_both (L' := #[true, true, true, true, false, false, false, false, false]) (b' := { tmps := #[.pointer (some ⟨xc, 0, none⟩), .pointer (some ⟨oc, 0, none⟩), .pointer (some ⟨cc, 0, none⟩), undef, (.pointer (some ⟨x, 0, none⟩)), V, (.int .i64 (c : Int)), (.tuple #[.slice o1 o2 o3, .int .i64 (c : Int)]), undef, undef], defers := [] }) (by kernel_rfl) (by kernel_rfl) ?_
    have hca : w3.cell? ⟨oc, 0, none⟩ = some o0 := ho.cell 0
    have hc2 : Blk (w3.setCell ⟨oc, 0, none⟩ (.slice o1 o2 o3)) cc 25 #[c0] := ((Only.refl (fun k => oc = k) w3).setCell (p := ⟨oc, 0, none⟩) (fun _ => rfl) _).blk hc hoc
    have hcb : (w3.setCell ⟨oc, 0, none⟩ (.slice o1 o2 o3)).cell? ⟨cc, 0, none⟩ = some c0 := hc2.cell 0
    have hfa := ho.frozen 0
    have hfb := hc2.frozen 0
    refine wpAnyR_step (rs := [4]) (by kernel_rfl) (by simp) fun i hi => ?_
    cases List.mem_singleton.1 hi
    refine opR_value (i := 4) (d := some 3) (w' := w3) (v := .tuple #[.slice o1 o2 o3, .int .i64 (c : Int)]) rfl rfl rfl (by kernel_rfl) ?_
    refine lit_both (L' := #[true, true, true, true, true, false, false, false, false]) (b' := { tmps := #[.pointer (some ⟨xc, 0, none⟩), .pointer (some ⟨oc, 0, none⟩), .pointer (some ⟨cc, 0, none⟩), (.tuple #[.slice o1 o2 o3, .int .i64 (c : Int)]), (.pointer (some ⟨x, 0, none⟩)), V, (.int .i64 (c : Int)), (.tuple #[.slice o1 o2 o3, .int .i64 (c : Int)]), undef, undef], defers := [] }) (by kernel_rfl) (by kernel_rfl) ?_
    refine wpAnyR_step (rs := [5, 6]) (by kernel_rfl) (by simp) fun i hi => ?_
    rcases List.mem_cons.1 hi with rfl | hi
    · refine opR_value (i := 5) (d := some 8) (w' := w3) (v := .slice o1 o2 o3) rfl rfl rfl (by kernel_rfl) ?_
      refine lit_both (L' := #[true, true, true, true, true, true, false, false, false]) (b' := { tmps := #[.pointer (some ⟨xc, 0, none⟩), .pointer (some ⟨oc, 0, none⟩), .pointer (some ⟨cc, 0, none⟩), (.tuple #[.slice o1 o2 o3, .int .i64 (c : Int)]), (.pointer (some ⟨x, 0, none⟩)), V, (.int .i64 (c : Int)), (.tuple #[.slice o1 o2 o3, .int .i64 (c : Int)]), (.slice o1 o2 o3), undef], defers := [] }) (by kernel_rfl) (by kernel_rfl) ?_
      refine wpAnyR_step (rs := [6, 7]) (by kernel_rfl) (by simp) fun i hi => ?_
      rcases List.mem_cons.1 hi with rfl | hi
      · refine opR_value (i := 6) (d := some 9) (w' := w3) (v := .int .i64 (c : Int)) rfl rfl rfl (by kernel_rfl) ?_
        refine lit_both (L' := #[true, true, true, true, true, true, true, false, false]) (b' := { tmps := #[.pointer (some ⟨xc, 0, none⟩), .pointer (some ⟨oc, 0, none⟩), .pointer (some ⟨cc, 0, none⟩), (.tuple #[.slice o1 o2 o3, .int .i64 (c : Int)]), (.pointer (some ⟨x, 0, none⟩)), V, (.int .i64 (c : Int)), (.tuple #[.slice o1 o2 o3, .int .i64 (c : Int)]), (.slice o1 o2 o3), (.int .i64 (c : Int))], defers := [] }) (by kernel_rfl) (by kernel_rfl) ?_
        refine wpAnyR_step (rs := [7]) (by kernel_rfl) (by simp) fun i hi => ?_
        cases List.mem_singleton.1 hi
        refine opR_skip (i := 7) (w' := (w3.setCell ⟨oc, 0, none⟩ (.slice o1 o2 o3))) rfl rfl (by simp [go_sem, hca, hfa]) ?_
        refine lit_both (L' := #[true, true, true, true, true, true, true, true, false]) (b' := { tmps := #[.pointer (some ⟨xc, 0, none⟩), .pointer (some ⟨oc, 0, none⟩), .pointer (some ⟨cc, 0, none⟩), (.tuple #[.slice o1 o2 o3, .int .i64 (c : Int)]), (.pointer (some ⟨x, 0, none⟩)), V, (.int .i64 (c : Int)), (.tuple #[.slice o1 o2 o3, .int .i64 (c : Int)]), (.slice o1 o2 o3), (.int .i64 (c : Int))], defers := [] }) (by kernel_rfl) (by kernel_rfl) ?_
        refine wpAnyR_step (rs := [8]) (by kernel_rfl) (by simp) fun i hi => ?_
        cases List.mem_singleton.1 hi
        refine opR_skip (i := 8) (w' := (w3.setCell ⟨oc, 0, none⟩ (.slice o1 o2 o3)).setCell ⟨cc, 0, none⟩ (.int .i64 (c : Int))) rfl rfl (by simp [go_sem, hcb, hfb]) ?_
        refine lit_both (L' := #[true, true, true, true, true, true, true, true, true]) (b' := { tmps := #[.pointer (some ⟨xc, 0, none⟩), .pointer (some ⟨oc, 0, none⟩), .pointer (some ⟨cc, 0, none⟩), (.tuple #[.slice o1 o2 o3, .int .i64 (c : Int)]), (.pointer (some ⟨x, 0, none⟩)), V, (.int .i64 (c : Int)), (.tuple #[.slice o1 o2 o3, .int .i64 (c : Int)]), (.slice o1 o2 o3), (.int .i64 (c : Int))], defers := [] }) (by kernel_rfl) (by kernel_rfl) ?_
        refine wpAnyR_done (by kernel_rfl) ?_
        exact ⟨rfl, u', rfl, .tuple #[], by kernel_rfl, rfl, rfl, .slice o1 o2 o3, w3, hR, rfl⟩
      · cases List.mem_singleton.1 hi
        refine opR_skip (i := 7) (w' := (w3.setCell ⟨oc, 0, none⟩ (.slice o1 o2 o3))) rfl rfl (by simp [go_sem, hca, hfa]) ?_
        refine lit_both (L' := #[true, true, true, true, true, true, false, true, false]) (b' := { tmps := #[.pointer (some ⟨xc, 0, none⟩), .pointer (some ⟨oc, 0, none⟩), .pointer (some ⟨cc, 0, none⟩), (.tuple #[.slice o1 o2 o3, .int .i64 (c : Int)]), (.pointer (some ⟨x, 0, none⟩)), V, (.int .i64 (c : Int)), (.tuple #[.slice o1 o2 o3, .int .i64 (c : Int)]), (.slice o1 o2 o3), undef], defers := [] }) (by kernel_rfl) (by kernel_rfl) ?_
        refine wpAnyR_step (rs := [6]) (by kernel_rfl) (by simp) fun i hi => ?_
        cases List.mem_singleton.1 hi
        refine opR_value (i := 6) (d := some 9) (w' := (w3.setCell ⟨oc, 0, none⟩ (.slice o1 o2 o3))) (v := .int .i64 (c : Int)) rfl rfl rfl (by kernel_rfl) ?_
        refine lit_both (L' := #[true, true, true, true, true, true, true, true, false]) (b' := { tmps := #[.pointer (some ⟨xc, 0, none⟩), .pointer (some ⟨oc, 0, none⟩), .pointer (some ⟨cc, 0, none⟩), (.tuple #[.slice o1 o2 o3, .int .i64 (c : Int)]), (.pointer (some ⟨x, 0, none⟩)), V, (.int .i64 (c : Int)), (.tuple #[.slice o1 o2 o3, .int .i64 (c : Int)]), (.slice o1 o2 o3), (.int .i64 (c : Int))], defers := [] }) (by kernel_rfl) (by kernel_rfl) ?_
        refine wpAnyR_step (rs := [8]) (by kernel_rfl) (by simp) fun i hi => ?_
        cases List.mem_singleton.1 hi
        refine opR_skip (i := 8) (w' := (w3.setCell ⟨oc, 0, none⟩ (.slice o1 o2 o3)).setCell ⟨cc, 0, none⟩ (.int .i64 (c : Int))) rfl rfl (by simp [go_sem, hcb, hfb]) ?_
        refine lit_both (L' := #[true, true, true, true, true, true, true, true, true]) (b' := { tmps := #[.pointer (some ⟨xc, 0, none⟩), .pointer (some ⟨oc, 0, none⟩), .pointer (some ⟨cc, 0, none⟩), (.tuple #[.slice o1 o2 o3, .int .i64 (c : Int)]), (.pointer (some ⟨x, 0, none⟩)), V, (.int .i64 (c : Int)), (.tuple #[.slice o1 o2 o3, .int .i64 (c : Int)]), (.slice o1 o2 o3), (.int .i64 (c : Int))], defers := [] }) (by kernel_rfl) (by kernel_rfl) ?_
        refine wpAnyR_done (by kernel_rfl) ?_
        exact ⟨rfl, u', rfl, .tuple #[], by kernel_rfl, rfl, rfl, .slice o1 o2 o3, w3, hR, rfl⟩
    · cases List.mem_singleton.1 hi
      refine opR_value (i := 6) (d := some 9) (w' := w3) (v := .int .i64 (c : Int)) rfl rfl rfl (by kernel_rfl) ?_
      refine lit_both (L' := #[true, true, true, true, true, false, true, false, false]) (b' := { tmps := #[.pointer (some ⟨xc, 0, none⟩), .pointer (some ⟨oc, 0, none⟩), .pointer (some ⟨cc, 0, none⟩), (.tuple #[.slice o1 o2 o3, .int .i64 (c : Int)]), (.pointer (some ⟨x, 0, none⟩)), V, (.int .i64 (c : Int)), (.tuple #[.slice o1 o2 o3, .int .i64 (c : Int)]), undef, (.int .i64 (c : Int))], defers := [] }) (by kernel_rfl) (by kernel_rfl) ?_
      refine wpAnyR_step (rs := [5]) (by kernel_rfl) (by simp) fun i hi => ?_
      cases List.mem_singleton.1 hi
      refine opR_value (i := 5) (d := some 8) (w' := w3) (v := .slice o1 o2 o3) rfl rfl rfl (by kernel_rfl) ?_
      refine lit_both (L' := #[true, true, true, true, true, true, true, false, false]) (b' := { tmps := #[.pointer (some ⟨xc, 0, none⟩), .pointer (some ⟨oc, 0, none⟩), .pointer (some ⟨cc, 0, none⟩), (.tuple #[.slice o1 o2 o3, .int .i64 (c : Int)]), (.pointer (some ⟨x, 0, none⟩)), V, (.int .i64 (c : Int)), (.tuple #[.slice o1 o2 o3, .int .i64 (c : Int)]), (.slice o1 o2 o3), (.int .i64 (c : Int))], defers := [] }) (by kernel_rfl) (by kernel_rfl) ?_
      refine wpAnyR_step (rs := [7]) (by kernel_rfl) (by simp) fun i hi => ?_
      cases List.mem_singleton.1 hi
      refine opR_skip (i := 7) (w' := (w3.setCell ⟨oc, 0, none⟩ (.slice o1 o2 o3))) rfl rfl (by simp [go_sem, hca, hfa]) ?_
      refine lit_both (L' := #[true, true, true, true, true, true, true, true, false]) (b' := { tmps := #[.pointer (some ⟨xc, 0, none⟩), .pointer (some ⟨oc, 0, none⟩), .pointer (some ⟨cc, 0, none⟩), (.tuple #[.slice o1 o2 o3, .int .i64 (c : Int)]), (.pointer (some ⟨x, 0, none⟩)), V, (.int .i64 (c : Int)), (.tuple #[.slice o1 o2 o3, .int .i64 (c : Int)]), (.slice o1 o2 o3), (.int .i64 (c : Int))], defers := [] }) (by kernel_rfl) (by kernel_rfl) ?_
      refine wpAnyR_step (rs := [8]) (by kernel_rfl) (by simp) fun i hi => ?_
      cases List.mem_singleton.1 hi
      refine opR_skip (i := 8) (w' := (w3.setCell ⟨oc, 0, none⟩ (.slice o1 o2 o3)).setCell ⟨cc, 0, none⟩ (.int .i64 (c : Int))) rfl rfl (by simp [go_sem, hcb, hfb]) ?_
      refine lit_both (L' := #[true, true, true, true, true, true, true, true, true]) (b' := { tmps := #[.pointer (some ⟨xc, 0, none⟩), .pointer (some ⟨oc, 0, none⟩), .pointer (some ⟨cc, 0, none⟩), (.tuple #[.slice o1 o2 o3, .int .i64 (c : Int)]), (.pointer (some ⟨x, 0, none⟩)), V, (.int .i64 (c : Int)), (.tuple #[.slice o1 o2 o3, .int .i64 (c : Int)]), (.slice o1 o2 o3), (.int .i64 (c : Int))], defers := [] }) (by kernel_rfl) (by kernel_rfl) ?_
      refine wpAnyR_done (by kernel_rfl) ?_
      exact ⟨rfl, u', rfl, .tuple #[], by kernel_rfl, rfl, rfl, .slice o1 o2 o3, w3, hR, rfl⟩
  · cases List.mem_singleton.1 hi
    refine opR_recover (i := 1) (d := some 5) rfl rfl rfl rfl hre ?_
    refine lit_both (L' := #[false, true, false, false, false, false, false, false, false]) (b' := { tmps := #[.pointer (some ⟨xc, 0, none⟩), .pointer (some ⟨oc, 0, none⟩), .pointer (some ⟨cc, 0, none⟩), undef, undef, V, undef, undef, undef, undef], defers := [] }) (by kernel_rfl) (by kernel_rfl) ?_
    refine wpAnyR_step (rs := [0, 2]) (by kernel_rfl) (by simp) fun i hi => ?_
    rcases List.mem_cons.1 hi with rfl | hi
    · refine opR_value (i := 0) (d := some 4) (v := .pointer (some ⟨x, 0, none⟩)) (w' := w1) rfl rfl rfl (by simp [go_sem, hload w1 hbd]) ?_
      refine lit_both (L' := #[true, true, false, false, false, false, false, false, false]) (b' := { tmps := #[.pointer (some ⟨xc, 0, none⟩), .pointer (some ⟨oc, 0, none⟩), .pointer (some ⟨cc, 0, none⟩), undef, (.pointer (some ⟨x, 0, none⟩)), V, undef, undef, undef, undef], defers := [] }) (by kernel_rfl) (by kernel_rfl) ?_
      refine wpAnyR_step (rs := [2]) (by kernel_rfl) (by simp) fun i hi => ?_
      cases List.mem_singleton.1 hi
      refine opR_call (i := 2) (d := some 6) (f := 54) (args := #[V]) rfl rfl rfl (by kernel_rfl) (hcaught w1) ?_
      rintro e w2 ⟨rfl, hb2⟩
      refine ⟨_, rfl, ?_⟩
      refine lit_both (L' := #[true, true, true, false, false, false, false, false, false]) (b' := { tmps := #[.pointer (some ⟨xc, 0, none⟩), .pointer (some ⟨oc, 0, none⟩), .pointer (some ⟨cc, 0, none⟩), undef, (.pointer (some ⟨x, 0, none⟩)), V, (.int .i64 (c : Int)), undef, undef, undef], defers := [] }) (by kernel_rfl) (by kernel_rfl) ?_
      have hbd2 := htr hbd hb2
      refine wpAnyR_step (rs := [3]) (by kernel_rfl) (by simp) fun i hi => ?_
      cases List.mem_singleton.1 hi
      refine opR_call (i := 3) (d := some 7) (f := 53) (args := #[.pointer (some ⟨x, 0, none⟩), .int .i64 (c : Int)]) rfl rfl rfl (by kernel_rfl) (hleave w2 hbd2) ?_
      rintro e w3 ⟨o1, o2, o3, rfl, hR, ⟨o0, ho⟩, c0, hc⟩
      refine ⟨_, rfl, ?_⟩
      refine lit_both (L' := #[true, true, true, true, false, false, false, false, false]) (b' := { tmps := #[.pointer (some ⟨xc, 0, none⟩), .pointer (some ⟨oc, 0, none⟩), .pointer (some ⟨cc, 0, none⟩), undef, (.pointer (some ⟨x, 0, none⟩)), V, (.int .i64 (c : Int)), (.tuple #[.slice o1 o2 o3, .int .i64 (c : Int)]), undef, undef], defers := [] }) (by kernel_rfl) (by kernel_rfl) ?_
      have hca : w3.cell? ⟨oc, 0, none⟩ = some o0 := ho.cell 0
      have hc2 : Blk (w3.setCell ⟨oc, 0, none⟩ (.slice o1 o2 o3)) cc 25 #[c0] := ((Only.refl (fun k => oc = k) w3).setCell (p := ⟨oc, 0, none⟩) (fun _ => rfl) _).blk hc hoc
      have hcb : (w3.setCell ⟨oc, 0, none⟩ (.slice o1 o2 o3)).cell? ⟨cc, 0, none⟩ = some c0 := hc2.cell 0
      have hfa := ho.frozen 0
      have hfb := hc2.frozen 0
      refine wpAnyR_step (rs := [4]) (by kernel_rfl) (by simp) fun i hi => ?_
      cases List.mem_singleton.1 hi
      refine opR_value (i := 4) (d := some 3) (w' := w3) (v := .tuple #[.slice o1 o2 o3, .int .i64 (c : Int)]) rfl rfl rfl (by kernel_rfl) ?_
      refine lit_both (L' := #[true, true, true, true, true, false, false, false, false]) (b' := { tmps := #[.pointer (some ⟨xc, 0, none⟩), .pointer (some ⟨oc, 0, none⟩), .pointer (some ⟨cc, 0, none⟩), (.tuple #[.slice o1 o2 o3, .int .i64 (c : Int)]), (.pointer (some ⟨x, 0, none⟩)), V, (.int .i64 (c : Int)), (.tuple #[.slice o1 o2 o3, .int .i64 (c : Int)]), undef, undef], defers := [] }) (by kernel_rfl) (by kernel_rfl) ?_
      refine wpAnyR_step (rs := [5, 6]) (by kernel_rfl) (by simp) fun i hi => ?_
      rcases List.mem_cons.1 hi with rfl | hi
      · refine opR_value (i := 5) (d := some 8) (w' := w3) (v := .slice o1 o2 o3) rfl rfl rfl (by kernel_rfl) ?_
        refine lit_both (L' := #[true, true, true, true, true, true, false, false, false]) (b' := { tmps := #[.pointer (some ⟨xc, 0, none⟩), .pointer (some ⟨oc, 0, none⟩), .pointer (some ⟨cc, 0, none⟩), (.tuple #[.slice o1 o2 o3, .int .i64 (c : Int)]), (.pointer (some ⟨x, 0, none⟩)), V, (.int .i64 (c : Int)), (.tuple #[.slice o1 o2 o3, .int .i64 (c : Int)]), (.slice o1 o2 o3), undef], defers := [] }) (by kernel_rfl) (by kernel_rfl) ?_
        refine wpAnyR_step (rs := [6, 7]) (by kernel_rfl) (by simp) fun i hi => ?_
        rcases List.mem_cons.1 hi with rfl | hi
        · refine opR_value (i := 6) (d := some 9) (w' := w3) (v := .int .i64 (c : Int)) rfl rfl rfl (by kernel_rfl) ?_
          refine lit_both (L' := #[true, true, true, true, true, true, true, false, false]) (b' := { tmps := #[.pointer (some ⟨xc, 0, none⟩), .pointer (some ⟨oc, 0, none⟩), .pointer (some ⟨cc, 0, none⟩), (.tuple #[.slice o1 o2 o3, .int .i64 (c : Int)]), (.pointer (some ⟨x, 0, none⟩)), V, (.int .i64 (c : Int)), (.tuple #[.slice o1 o2 o3, .int .i64 (c : Int)]), (.slice o1 o2 o3), (.int .i64 (c : Int))], defers := [] }) (by kernel_rfl) (by kernel_rfl) ?_
          refine wpAnyR_step (rs := [7]) (by kernel_rfl) (by simp) fun i hi => ?_
          cases List.mem_singleton.1 hi
          refine opR_skip (i := 7) (w' := (w3.setCell ⟨oc, 0, none⟩ (.slice o1 o2 o3))) rfl rfl (by simp [go_sem, hca, hfa]) ?_
          refine lit_both (L' := #[true, true, true, true, true, true, true, true, false]) (b' := { tmps := #[.pointer (some ⟨xc, 0, none⟩), .pointer (some ⟨oc, 0, none⟩), .pointer (some ⟨cc, 0, none⟩), (.tuple #[.slice o1 o2 o3, .int .i64 (c : Int)]), (.pointer (some ⟨x, 0, none⟩)), V, (.int .i64 (c : Int)), (.tuple #[.slice o1 o2 o3, .int .i64 (c : Int)]), (.slice o1 o2 o3), (.int .i64 (c : Int))], defers := [] }) (by kernel_rfl) (by kernel_rfl) ?_
          refine wpAnyR_step (rs := [8]) (by kernel_rfl) (by simp) fun i hi => ?_
          cases List.mem_singleton.1 hi
          refine opR_skip (i := 8) (w' := (w3.setCell ⟨oc, 0, none⟩ (.slice o1 o2 o3)).setCell ⟨cc, 0, none⟩ (.int .i64 (c : Int))) rfl rfl (by simp [go_sem, hcb, hfb]) ?_
          refine lit_both (L' := #[true, true, true, true, true, true, true, true, true]) (b' := { tmps := #[.pointer (some ⟨xc, 0, none⟩), .pointer (some ⟨oc, 0, none⟩), .pointer (some ⟨cc, 0, none⟩), (.tuple #[.slice o1 o2 o3, .int .i64 (c : Int)]), (.pointer (some ⟨x, 0, none⟩)), V, (.int .i64 (c : Int)), (.tuple #[.slice o1 o2 o3, .int .i64 (c : Int)]), (.slice o1 o2 o3), (.int .i64 (c : Int))], defers := [] }) (by kernel_rfl) (by kernel_rfl) ?_
          refine wpAnyR_done (by kernel_rfl) ?_
          exact ⟨rfl, u', rfl, .tuple #[], by kernel_rfl, rfl, rfl, .slice o1 o2 o3, w3, hR, rfl⟩
        · cases List.mem_singleton.1 hi
          refine opR_skip (i := 7) (w' := (w3.setCell ⟨oc, 0, none⟩ (.slice o1 o2 o3))) rfl rfl (by simp [go_sem, hca, hfa]) ?_
          refine lit_both (L' := #[true, true, true, true, true, true, false, true, false]) (b' := { tmps := #[.pointer (some ⟨xc, 0, none⟩), .pointer (some ⟨oc, 0, none⟩), .pointer (some ⟨cc, 0, none⟩), (.tuple #[.slice o1 o2 o3, .int .i64 (c : Int)]), (.pointer (some ⟨x, 0, none⟩)), V, (.int .i64 (c : Int)), (.tuple #[.slice o1 o2 o3, .int .i64 (c : Int)]), (.slice o1 o2 o3), undef], defers := [] }) (by kernel_rfl) (by kernel_rfl) ?_
          refine wpAnyR_step (rs := [6]) (by kernel_rfl) (by simp) fun i hi => ?_
          cases List.mem_singleton.1 hi
          refine opR_value (i := 6) (d := some 9) (w' := (w3.setCell ⟨oc, 0, none⟩ (.slice o1 o2 o3))) (v := .int .i64 (c : Int)) rfl rfl rfl (by kernel_rfl) ?_
          refine lit_both (L' := #[true, true, true, true, true, true, true, true, false]) (b' := { tmps := #[.pointer (some ⟨xc, 0, none⟩), .pointer (some ⟨oc, 0, none⟩), .pointer (some ⟨cc, 0, none⟩), (.tuple #[.slice o1 o2 o3, .int .i64 (c : Int)]), (.pointer (some ⟨x, 0, none⟩)), V, (.int .i64 (c : Int)), (.tuple #[.slice o1 o2 o3, .int .i64 (c : Int)]), (.slice o1 o2 o3), (.int .i64 (c : Int))], defers := [] }) (by kernel_rfl) (by kernel_rfl) ?_
          refine wpAnyR_step (rs := [8]) (by kernel_rfl) (by simp) fun i hi => ?_
          cases List.mem_singleton.1 hi
          refine opR_skip (i := 8) (w' := (w3.setCell ⟨oc, 0, none⟩ (.slice o1 o2 o3)).setCell ⟨cc, 0, none⟩ (.int .i64 (c : Int))) rfl rfl (by simp [go_sem, hcb, hfb]) ?_
          refine lit_both (L' := #[true, true, true, true, true, true, true, true, true]) (b' := { tmps := #[.pointer (some ⟨xc, 0, none⟩), .pointer (some ⟨oc, 0, none⟩), .pointer (some ⟨cc, 0, none⟩), (.tuple #[.slice o1 o2 o3, .int .i64 (c : Int)]), (.pointer (some ⟨x, 0, none⟩)), V, (.int .i64 (c : Int)), (.tuple #[.slice o1 o2 o3, .int .i64 (c : Int)]), (.slice o1 o2 o3), (.int .i64 (c : Int))], defers := [] }) (by kernel_rfl) (by kernel_rfl) ?_
          refine wpAnyR_done (by kernel_rfl) ?_
          exact ⟨rfl, u', rfl, .tuple #[], by kernel_rfl, rfl, rfl, .slice o1 o2 o3, w3, hR, rfl⟩
      · cases List.mem_singleton.1 hi
        refine opR_value (i := 6) (d := some 9) (w' := w3) (v := .int .i64 (c : Int)) rfl rfl rfl (by kernel_rfl) ?_
        refine lit_both (L' := #[true, true, true, true, true, false, true, false, false]) (b' := { tmps := #[.pointer (some ⟨xc, 0, none⟩), .pointer (some ⟨oc, 0, none⟩), .pointer (some ⟨cc, 0, none⟩), (.tuple #[.slice o1 o2 o3, .int .i64 (c : Int)]), (.pointer (some ⟨x, 0, none⟩)), V, (.int .i64 (c : Int)), (.tuple #[.slice o1 o2 o3, .int .i64 (c : Int)]), undef, (.int .i64 (c : Int))], defers := [] }) (by kernel_rfl) (by kernel_rfl) ?_
        refine wpAnyR_step (rs := [5]) (by kernel_rfl) (by simp) fun i hi => ?_
        cases List.mem_singleton.1 hi
        refine opR_value (i := 5) (d := some 8) (w' := w3) (v := .slice o1 o2 o3) rfl rfl rfl (by kernel_rfl) ?_
        refine lit_both (L' := #[true, true, true, true, true, true, true, false, false]) (b' := { tmps := #[.pointer (some ⟨xc, 0, none⟩), .pointer (some ⟨oc, 0, none⟩), .pointer (some ⟨cc, 0, none⟩), (.tuple #[.slice o1 o2 o3, .int .i64 (c : Int)]), (.pointer (some ⟨x, 0, none⟩)), V, (.int .i64 (c : Int)), (.tuple #[.slice o1 o2 o3, .int .i64 (c : Int)]), (.slice o1 o2 o3), (.int .i64 (c : Int))], defers := [] }) (by kernel_rfl) (by kernel_rfl) ?_
        refine wpAnyR_step (rs := [7]) (by kernel_rfl) (by simp) fun i hi => ?_
        cases List.mem_singleton.1 hi
        refine opR_skip (i := 7) (w' := (w3.setCell ⟨oc, 0, none⟩ (.slice o1 o2 o3))) rfl rfl (by simp [go_sem, hca, hfa]) ?_
        refine lit_both (L' := #[true, true, true, true, true, true, true, true, false]) (b' := { tmps := #[.pointer (some ⟨xc, 0, none⟩), .pointer (some ⟨oc, 0, none⟩), .pointer (some ⟨cc, 0, none⟩), (.tuple #[.slice o1 o2 o3, .int .i64 (c : Int)]), (.pointer (some ⟨x, 0, none⟩)), V, (.int .i64 (c : Int)), (.tuple #[.slice o1 o2 o3, .int .i64 (c : Int)]), (.slice o1 o2 o3), (.int .i64 (c : Int))], defers := [] }) (by kernel_rfl) (by kernel_rfl) ?_
        refine wpAnyR_step (rs := [8]) (by kernel_rfl) (by simp) fun i hi => ?_
        cases List.mem_singleton.1 hi
        refine opR_skip (i := 8) (w' := (w3.setCell ⟨oc, 0, none⟩ (.slice o1 o2 o3)).setCell ⟨cc, 0, none⟩ (.int .i64 (c : Int))) rfl rfl (by simp [go_sem, hcb, hfb]) ?_
        refine lit_both (L' := #[true, true, true, true, true, true, true, true, true]) (b' := { tmps := #[.pointer (some ⟨xc, 0, none⟩), .pointer (some ⟨oc, 0, none⟩), .pointer (some ⟨cc, 0, none⟩), (.tuple #[.slice o1 o2 o3, .int .i64 (c : Int)]), (.pointer (some ⟨x, 0, none⟩)), V, (.int .i64 (c : Int)), (.tuple #[.slice o1 o2 o3, .int .i64 (c : Int)]), (.slice o1 o2 o3), (.int .i64 (c : Int))], defers := [] }) (by kernel_rfl) (by kernel_rfl) ?_
        refine wpAnyR_done (by kernel_rfl) ?_
        exact ⟨rfl, u', rfl, .tuple #[], by kernel_rfl, rfl, rfl, .slice o1 o2 o3, w3, hR, rfl⟩
    · cases List.mem_singleton.1 hi
      refine opR_call (i := 2) (d := some 6) (f := 54) (args := #[V]) rfl rfl rfl (by kernel_rfl) (hcaught w1) ?_
      rintro e w2 ⟨rfl, hb2⟩
      refine ⟨_, rfl, ?_⟩
      refine lit_both (L' := #[false, true, true, false, false, false, false, false, false]) (b' := { tmps := #[.pointer (some ⟨xc, 0, none⟩), .pointer (some ⟨oc, 0, none⟩), .pointer (some ⟨cc, 0, none⟩), undef, undef, V, (.int .i64 (c : Int)), undef, undef, undef], defers := [] }) (by kernel_rfl) (by kernel_rfl) ?_
      have hbd2 := htr hbd hb2
      refine wpAnyR_step (rs := [0]) (by kernel_rfl) (by simp) fun i hi => ?_
      cases List.mem_singleton.1 hi
      refine opR_value (i := 0) (d := some 4) (v := .pointer (some ⟨x, 0, none⟩)) (w' := w2) rfl rfl rfl (by simp [go_sem, hload w2 hbd2]) ?_
      refine lit_both (L' := #[true, true, true, false, false, false, false, false, false]) (b' := { tmps := #[.pointer (some ⟨xc, 0, none⟩), .pointer (some ⟨oc, 0, none⟩), .pointer (some ⟨cc, 0, none⟩), undef, (.pointer (some ⟨x, 0, none⟩)), V, (.int .i64 (c : Int)), undef, undef, undef], defers := [] }) (by kernel_rfl) (by kernel_rfl) ?_
      refine wpAnyR_step (rs := [3]) (by kernel_rfl) (by simp) fun i hi => ?_
      cases List.mem_singleton.1 hi
      refine opR_call (i := 3) (d := some 7) (f := 53) (args := #[.pointer (some ⟨x, 0, none⟩), .int .i64 (c : Int)]) rfl rfl rfl (by kernel_rfl) (hleave w2 hbd2) ?_
      rintro e w3 ⟨o1, o2, o3, rfl, hR, ⟨o0, ho⟩, c0, hc⟩
      refine ⟨_, rfl, ?_⟩
      refine lit_both (L' := #[true, true, true, true, false, false, false, false, false]) (b' := { tmps := #[.pointer (some ⟨xc, 0, none⟩), .pointer (some ⟨oc, 0, none⟩), .pointer (some ⟨cc, 0, none⟩), undef, (.pointer (some ⟨x, 0, none⟩)), V, (.int .i64 (c : Int)), (.tuple #[.slice o1 o2 o3, .int .i64 (c : Int)]), undef, undef], defers := [] }) (by kernel_rfl) (by kernel_rfl) ?_
      have hca : w3.cell? ⟨oc, 0, none⟩ = some o0 := ho.cell 0
      have hc2 : Blk (w3.setCell ⟨oc, 0, none⟩ (.slice o1 o2 o3)) cc 25 #[c0] := ((Only.refl (fun k => oc = k) w3).setCell (p := ⟨oc, 0, none⟩) (fun _ => rfl) _).blk hc hoc
      have hcb : (w3.setCell ⟨oc, 0, none⟩ (.slice o1 o2 o3)).cell? ⟨cc, 0, none⟩ = some c0 := hc2.cell 0
      have hfa := ho.frozen 0
      have hfb := hc2.frozen 0
      refine wpAnyR_step (rs := [4]) (by kernel_rfl) (by simp) fun i hi => ?_
      cases List.mem_singleton.1 hi
      refine opR_value (i := 4) (d := some 3) (w' := w3) (v := .tuple #[.slice o1 o2 o3, .int .i64 (c : Int)]) rfl rfl rfl (by kernel_rfl) ?_
      refine lit_both (L' := #[true, true, true, true, true, false, false, false, false]) (b' := { tmps := #[.pointer (some ⟨xc, 0, none⟩), .pointer (some ⟨oc, 0, none⟩), .pointer (some ⟨cc, 0, none⟩), (.tuple #[.slice o1 o2 o3, .int .i64 (c : Int)]), (.pointer (some ⟨x, 0, none⟩)), V, (.int .i64 (c : Int)), (.tuple #[.slice o1 o2 o3, .int .i64 (c : Int)]), undef, undef], defers := [] }) (by kernel_rfl) (by kernel_rfl) ?_
      refine wpAnyR_step (rs := [5, 6]) (by kernel_rfl) (by simp) fun i hi => ?_
      rcases List.mem_cons.1 hi with rfl | hi
      · refine opR_value (i := 5) (d := some 8) (w' := w3) (v := .slice o1 o2 o3) rfl rfl rfl (by kernel_rfl) ?_
        refine lit_both (L' := #[true, true, true, true, true, true, false, false, false]) (b' := { tmps := #[.pointer (some ⟨xc, 0, none⟩), .pointer (some ⟨oc, 0, none⟩), .pointer (some ⟨cc, 0, none⟩), (.tuple #[.slice o1 o2 o3, .int .i64 (c : Int)]), (.pointer (some ⟨x, 0, none⟩)), V, (.int .i64 (c : Int)), (.tuple #[.slice o1 o2 o3, .int .i64 (c : Int)]), (.slice o1 o2 o3), undef], defers := [] }) (by kernel_rfl) (by kernel_rfl) ?_
        refine wpAnyR_step (rs := [6, 7]) (by kernel_rfl) (by simp) fun i hi => ?_
        rcases List.mem_cons.1 hi with rfl | hi
        · refine opR_value (i := 6) (d := some 9) (w' := w3) (v := .int .i64 (c : Int)) rfl rfl rfl (by kernel_rfl) ?_
          refine lit_both (L' := #[true, true, true, true, true, true, true, false, false]) (b' := { tmps := #[.pointer (some ⟨xc, 0, none⟩), .pointer (some ⟨oc, 0, none⟩), .pointer (some ⟨cc, 0, none⟩), (.tuple #[.slice o1 o2 o3, .int .i64 (c : Int)]), (.pointer (some ⟨x, 0, none⟩)), V, (.int .i64 (c : Int)), (.tuple #[.slice o1 o2 o3, .int .i64 (c : Int)]), (.slice o1 o2 o3), (.int .i64 (c : Int))], defers := [] }) (by kernel_rfl) (by kernel_rfl) ?_
          refine wpAnyR_step (rs := [7]) (by kernel_rfl) (by simp) fun i hi => ?_
          cases List.mem_singleton.1 hi
          refine opR_skip (i := 7) (w' := (w3.setCell ⟨oc, 0, none⟩ (.slice o1 o2 o3))) rfl rfl (by simp [go_sem, hca, hfa]) ?_
          refine lit_both (L' := #[true, true, true, true, true, true, true, true, false]) (b' := { tmps := #[.pointer (some ⟨xc, 0, none⟩), .pointer (some ⟨oc, 0, none⟩), .pointer (some ⟨cc, 0, none⟩), (.tuple #[.slice o1 o2 o3, .int .i64 (c : Int)]), (.pointer (some ⟨x, 0, none⟩)), V, (.int .i64 (c : Int)), (.tuple #[.slice o1 o2 o3, .int .i64 (c : Int)]), (.slice o1 o2 o3), (.int .i64 (c : Int))], defers := [] }) (by kernel_rfl) (by kernel_rfl) ?_
          refine wpAnyR_step (rs := [8]) (by kernel_rfl) (by simp) fun i hi => ?_
          cases List.mem_singleton.1 hi
          refine opR_skip (i := 8) (w' := (w3.setCell ⟨oc, 0, none⟩ (.slice o1 o2 o3)).setCell ⟨cc, 0, none⟩ (.int .i64 (c : Int))) rfl rfl (by simp [go_sem, hcb, hfb]) ?_
          refine lit_both (L' := #[true, true, true, true, true, true, true, true, true]) (b' := { tmps := #[.pointer (some ⟨xc, 0, none⟩), .pointer (some ⟨oc, 0, none⟩), .pointer (some ⟨cc, 0, none⟩), (.tuple #[.slice o1 o2 o3, .int .i64 (c : Int)]), (.pointer (some ⟨x, 0, none⟩)), V, (.int .i64 (c : Int)), (.tuple #[.slice o1 o2 o3, .int .i64 (c : Int)]), (.slice o1 o2 o3), (.int .i64 (c : Int))], defers := [] }) (by kernel_rfl) (by kernel_rfl) ?_
          refine wpAnyR_done (by kernel_rfl) ?_
          exact ⟨rfl, u', rfl, .tuple #[], by kernel_rfl, rfl, rfl, .slice o1 o2 o3, w3, hR, rfl⟩
        · cases List.mem_singleton.1 hi
          refine opR_skip (i := 7) (w' := (w3.setCell ⟨oc, 0, none⟩ (.slice o1 o2 o3))) rfl rfl (by simp [go_sem, hca, hfa]) ?_
          refine lit_both (L' := #[true, true, true, true, true, true, false, true, false]) (b' := { tmps := #[.pointer (some ⟨xc, 0, none⟩), .pointer (some ⟨oc, 0, none⟩), .pointer (some ⟨cc, 0, none⟩), (.tuple #[.slice o1 o2 o3, .int .i64 (c : Int)]), (.pointer (some ⟨x, 0, none⟩)), V, (.int .i64 (c : Int)), (.tuple #[.slice o1 o2 o3, .int .i64 (c : Int)]), (.slice o1 o2 o3), undef], defers := [] }) (by kernel_rfl) (by kernel_rfl) ?_
          refine wpAnyR_step (rs := [6]) (by kernel_rfl) (by simp) fun i hi => ?_
          cases List.mem_singleton.1 hi
          refine opR_value (i := 6) (d := some 9) (w' := (w3.setCell ⟨oc, 0, none⟩ (.slice o1 o2 o3))) (v := .int .i64 (c : Int)) rfl rfl rfl (by kernel_rfl) ?_
          refine lit_both (L' := #[true, true, true, true, true, true, true, true, false]) (b' := { tmps := #[.pointer (some ⟨xc, 0, none⟩), .pointer (some ⟨oc, 0, none⟩), .pointer (some ⟨cc, 0, none⟩), (.tuple #[.slice o1 o2 o3, .int .i64 (c : Int)]), (.pointer (some ⟨x, 0, none⟩)), V, (.int .i64 (c : Int)), (.tuple #[.slice o1 o2 o3, .int .i64 (c : Int)]), (.slice o1 o2 o3), (.int .i64 (c : Int))], defers := [] }) (by kernel_rfl) (by kernel_rfl) ?_
          refine wpAnyR_step (rs := [8]) (by kernel_rfl) (by simp) fun i hi => ?_
          cases List.mem_singleton.1 hi
          refine opR_skip (i := 8) (w' := (w3.setCell ⟨oc, 0, none⟩ (.slice o1 o2 o3)).setCell ⟨cc, 0, none⟩ (.int .i64 (c : Int))) rfl rfl (by simp [go_sem, hcb, hfb]) ?_
          refine lit_both (L' := #[true, true, true, true, true, true, true, true, true]) (b' := { tmps := #[.pointer (some ⟨xc, 0, none⟩), .pointer (some ⟨oc, 0, none⟩), .pointer (some ⟨cc, 0, none⟩), (.tuple #[.slice o1 o2 o3, .int .i64 (c : Int)]), (.pointer (some ⟨x, 0, none⟩)), V, (.int .i64 (c : Int)), (.tuple #[.slice o1 o2 o3, .int .i64 (c : Int)]), (.slice o1 o2 o3), (.int .i64 (c : Int))], defers := [] }) (by kernel_rfl) (by kernel_rfl) ?_
          refine wpAnyR_done (by kernel_rfl) ?_
          exact ⟨rfl, u', rfl, .tuple #[], by kernel_rfl, rfl, rfl, .slice o1 o2 o3, w3, hR, rfl⟩
      · cases List.mem_singleton.1 hi
        refine opR_value (i := 6) (d := some 9) (w' := w3) (v := .int .i64 (c : Int)) rfl rfl rfl (by kernel_rfl) ?_
        refine lit_both (L' := #[true, true, true, true, true, false, true, false, false]) (b' := { tmps := #[.pointer (some ⟨xc, 0, none⟩), .pointer (some ⟨oc, 0, none⟩), .pointer (some ⟨cc, 0, none⟩), (.tuple #[.slice o1 o2 o3, .int .i64 (c : Int)]), (.pointer (some ⟨x, 0, none⟩)), V, (.int .i64 (c : Int)), (.tuple #[.slice o1 o2 o3, .int .i64 (c : Int)]), undef, (.int .i64 (c : Int))], defers := [] }) (by kernel_rfl) (by kernel_rfl) ?_
        refine wpAnyR_step (rs := [5]) (by kernel_rfl) (by simp) fun i hi => ?_
        cases List.mem_singleton.1 hi
        refine opR_value (i := 5) (d := some 8) (w' := w3) (v := .slice o1 o2 o3) rfl rfl rfl (by kernel_rfl) ?_
        refine lit_both (L' := #[true, true, true, true, true, true, true, false, false]) (b' := { tmps := #[.pointer (some ⟨xc, 0, none⟩), .pointer (some ⟨oc, 0, none⟩), .pointer (some ⟨cc, 0, none⟩), (.tuple #[.slice o1 o2 o3, .int .i64 (c : Int)]), (.pointer (some ⟨x, 0, none⟩)), V, (.int .i64 (c : Int)), (.tuple #[.slice o1 o2 o3, .int .i64 (c : Int)]), (.slice o1 o2 o3), (.int .i64 (c : Int))], defers := [] }) (by kernel_rfl) (by kernel_rfl) ?_
        refine wpAnyR_step (rs := [7]) (by kernel_rfl) (by simp) fun i hi => ?_
        cases List.mem_singleton.1 hi
        refine opR_skip (i := 7) (w' := (w3.setCell ⟨oc, 0, none⟩ (.slice o1 o2 o3))) rfl rfl (by simp [go_sem, hca, hfa]) ?_
        refine lit_both (L' := #[true, true, true, true, true, true, true, true, false]) (b' := { tmps := #[.pointer (some ⟨xc, 0, none⟩), .pointer (some ⟨oc, 0, none⟩), .pointer (some ⟨cc, 0, none⟩), (.tuple #[.slice o1 o2 o3, .int .i64 (c : Int)]), (.pointer (some ⟨x, 0, none⟩)), V, (.int .i64 (c : Int)), (.tuple #[.slice o1 o2 o3, .int .i64 (c : Int)]), (.slice o1 o2 o3), (.int .i64 (c : Int))], defers := [] }) (by kernel_rfl) (by kernel_rfl) ?_
        refine wpAnyR_step (rs := [8]) (by kernel_rfl) (by simp) fun i hi => ?_
        cases List.mem_singleton.1 hi
        refine opR_skip (i := 8) (w' := (w3.setCell ⟨oc, 0, none⟩ (.slice o1 o2 o3)).setCell ⟨cc, 0, none⟩ (.int .i64 (c : Int))) rfl rfl (by simp [go_sem, hcb, hfb]) ?_
        refine lit_both (L' := #[true, true, true, true, true, true, true, true, true]) (b' := { tmps := #[.pointer (some ⟨xc, 0, none⟩), .pointer (some ⟨oc, 0, none⟩), .pointer (some ⟨cc, 0, none⟩), (.tuple #[.slice o1 o2 o3, .int .i64 (c : Int)]), (.pointer (some ⟨x, 0, none⟩)), V, (.int .i64 (c : Int)), (.tuple #[.slice o1 o2 o3, .int .i64 (c : Int)]), (.slice o1 o2 o3), (.int .i64 (c : Int))], defers := [] }) (by kernel_rfl) (by kernel_rfl) ?_
        refine wpAnyR_done (by kernel_rfl) ?_
        exact ⟨rfl, u', rfl, .tuple #[], by kernel_rfl, rfl, rfl, .slice o1 o2 o3, w3, hR, rfl⟩
end Go.Proofs.YtdbcendnibgcaaaGreatDoor.InfC
end
