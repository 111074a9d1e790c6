/-
  Steps of a drawn region behind which the world is a letter: an allocation, a struct stored. No dump.
-/
import Derived.Test.YtaeoedapaiapdaaMem
import Derived.Test.YtaeoedapaiapdaaOrd
import Derived.Test.YtaeoedapaiapdaaRow
import Derived.Deep.RegionLaw
import Derived.Laws.Tables
namespace Go.My
open Go.RowKit

theorem step_letter {P : Program} {w w1 : World} {ops : Array Oper} {o : Oper} {a : Act} {K : Act → World → Prop} {Q : Exit → Act → World → Prop} {F : Prop} {v : Value} (hgd : o.guard = none)
    (hr : (execOp a.eval o).run P w = .ok (.value v) w1) (h : ∀ w', w' = w1 → K (a.put o.dst v) w') : if Region.wanted o (yielded ops a.tmps) = true then Oper.wp P o a w K Q else F := by
  have hw : Region.wanted o (yielded ops a.tmps) = true := by simp [Region.wanted, hgd]
  rw [if_pos hw]
  exact wp_value rfl hr (h _ rfl)
/-- With the slot named. -/
theorem step_letter_at {P : Program} {w w1 : World} {ops : Array Oper} {o : Oper} {a : Act} {K : Act → World → Prop} {Q : Exit → Act → World → Prop} {F : Prop} {v : Value} (d : Tmp) (_hd : o.dst = some d) (hgd : o.guard = none)
    (hr : (execOp a.eval o).run P w = .ok (.value v) w1) (h : ∀ w', w' = w1 → K (a.put o.dst v) w') : if Region.wanted o (yielded ops a.tmps) = true then Oper.wp P o a w K Q else F := step_letter hgd hr h
theorem step_store {P : Program} {w : World} {ops : Array Oper} {o : Oper} {a : Act} {K : Act → World → Prop} {Q : Exit → Act → World → Prop} {F : Prop} (hgd : o.guard = none) (ty : TypeId) (x y : Operand) (ho : o.op = .store ty x y)
    (g : Nat) (cells old : Array Value) (hx : a.eval x = .pointer (some ⟨g, 0, none⟩)) (hy : a.eval y = .agg cells) (t : TypeId) (hg : Blk w g t old) (hi : (P.info? ty).map (·.size) = some cells.size)
    (hold : old.size = cells.size) (h1 : cells.all (·.oneCell') = true) (h : ∀ w', w' = w.setRow g cells → K (a.put o.dst undef) w') : if Region.wanted o (yielded ops a.tmps) = true then Oper.wp P o a w K Q else F := by
  have hw : Region.wanted o (yielded ops a.tmps) = true := by simp [Region.wanted, hgd]
  rw [if_pos hw]
  exact wp_store_row ty x y ho g cells hx hy t old hg hi hold h1 (h _ rfl)

/-- From W on: later; what the blocks hold that were made on the way (none yet). -/
structure Cr (W Y : World) (t : TypeId) (s8 s9 : Option Nat) (c8 c9 : Array Value) : Prop where
  below : Below W.heap.size W Y
  f8 : ∀ b, s8 = some b → Blk Y b t c8 ∧ W.heap.size ≤ b
  f9 : ∀ b, s9 = some b → Blk Y b t c9 ∧ W.heap.size ≤ b
  ne : ∀ b, s8 = some b → s9 ≠ some b
section
variable {W Y Y' : World} {t : TypeId} {s8 s9 : Option Nat} {c8 c9 : Array Value}
theorem Cr.start (W : World) (t : TypeId) (c8 c9 : Array Value) : Cr W W t none none c8 c9 := ⟨Below.refl _ _, fun _ h => (by cases h), fun _ h => (by cases h), fun _ h => (by cases h)⟩
theorem Cr.drew (h : Cr W Y t s8 s9 c8 c9) : Cr W Y.drew t s8 s9 c8 c9 := ⟨h.below.drew, h.f8, h.f9, h.ne⟩
theorem Cr.later (h : Cr W Y t s8 s9 c8 c9) (hb : Below Y.heap.size Y Y') : Cr W Y' t s8 s9 c8 c9 :=
  ⟨h.below.trans (hb.mono h.below.size), fun b e => ⟨(h.f8 b e).1.same (hb.block b (h.f8 b e).1.lt), (h.f8 b e).2⟩, fun b e => ⟨(h.f9 b e).1.same (hb.block b (h.f9 b e).1.lt), (h.f9 b e).2⟩, h.ne⟩
theorem Cr.new8 (h : Cr W Y t none s9 c8 c9) (e : Y' = Y.alloc (.cells c8 t)) : Cr W Y' t (some Y.heap.size) s9 c8 c9 := by
  have h1 := h.later (Y' := Y') (by rw [e]; exact (Below.refl _ _).alloc (Nat.le_refl _) _)
  refine ⟨h1.below, fun b hb => ?_, h1.f9, fun b hb hc => ?_⟩
  · injection hb with hb; subst hb; exact ⟨by rw [e]; exact Blk.new Y t c8, h.below.size⟩
  · injection hb with hb; subst hb; have := (h.f9 _ hc).1.lt; omega
theorem Cr.new9 (h : Cr W Y t s8 none c8 c9) (e : Y' = Y.alloc (.cells c9 t)) : Cr W Y' t s8 (some Y.heap.size) c8 c9 := by
  have h1 := h.later (Y' := Y') (by rw [e]; exact (Below.refl _ _).alloc (Nat.le_refl _) _)
  refine ⟨h1.below, h1.f8, fun b hb => ?_, fun b hb hc => ?_⟩
  · injection hb with hb; subst hb; exact ⟨by rw [e]; exact Blk.new Y t c9, h.below.size⟩
  · injection hc with hc; subst hc; have := (h.f8 _ hb).1.lt; omega
theorem Cr.put8 {b : Nat} (h : Cr W Y t (some b) s9 c8 c9) (n8 : Array Value) (e : Y' = Y.setRow b n8) : Cr W Y' t (some b) s9 n8 c9 := by
  obtain ⟨hb, hge⟩ := h.f8 b rfl
  refine ⟨by rw [e]; exact below_row h.below hge _, fun k hk => ?_, fun k hk => ?_, h.ne⟩
  · injection hk with hk; subst hk; exact ⟨by rw [e]; exact hb.row n8, hge⟩
  · obtain ⟨h1, h2⟩ := h.f9 k hk
    exact ⟨by rw [e]; exact h1.same (setRow_other Y b k n8 (fun hkb => h.ne b rfl (by rw [hk, hkb]))), h2⟩
theorem Cr.put9 {b : Nat} (h : Cr W Y t s8 (some b) c8 c9) (n9 : Array Value) (e : Y' = Y.setRow b n9) : Cr W Y' t s8 (some b) c8 n9 := by
  obtain ⟨hb, hge⟩ := h.f9 b rfl
  refine ⟨by rw [e]; exact below_row h.below hge _, fun k hk => ?_, fun k hk => ?_, h.ne⟩
  · obtain ⟨h1, h2⟩ := h.f8 k hk
    exact ⟨by rw [e]; exact h1.same (setRow_other Y b k n9 (fun hkb => h.ne k hk (by rw [hkb]))), h2⟩
  · injection hk with hk; subst hk; exact ⟨by rw [e]; exact hb.row n9, hge⟩
end
end Go.My
