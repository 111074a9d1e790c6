/-
  []byte(s) of a text.
-/
import Derived.Test.YtilfmmjjiiabgaaGzLib
import Derived.Test.YtilfmmjjiiabgaaLib
import Derived.Test.YtilfmmjjiiabgaaRows
import Derived.Lib.ConvBytes
namespace Go.Proofs.Ytilfmmjjiiabgaa.GzC
open Go.RowKit Go.My

theorem bytesWorld_below (w : World) (E : TypeId) (S : ByteArray) : Below w.heap.size w (Go.Lib.bytesWorld w E S) := by
  refine ⟨rfl, rfl, rfl, by rw [Go.Lib.bytesWorld_size]; omega, fun k hk => Go.Lib.bytesWorld_at_old w E S k hk⟩
theorem str_bytes (w : World) (S : ByteArray) (h : S.size ≤ 1000000000) : ∃ c W, (convert 9 22 (.string S)).run Try.prog w = .ok (.slice (some ⟨w.heap.size, 0, none⟩) S.size c) W ∧ Bytes W (some ⟨w.heap.size, 0, none⟩) S.size c S.data.toList ∧ Below w.heap.size w W := by
  refine ⟨grownCap w S.size 0 5, Go.Lib.bytesWorld w 5 S, Go.Lib.run_convert_string_bytes w 9 22 5 S Try.underlying9 Try.underlying22 Try.underlying5, ?_, bytesWorld_below _ _ _⟩
  refine ⟨by rw [Array.length_toList]; rfl, grownCap_ge w S.size 0 5, ?_, (fun h => by cases h), .inr ⟨w.heap.size, 0, rfl, by rw [Go.Lib.bytesWorld_size]; omega, fun i hi => ?_⟩⟩
  · have := grownCap_le_maxLen w S.size 0 5 (by unfold maxLen; omega)
    simpa [maxLen] using this
  · rw [Nat.zero_add, Go.Lib.bytesWorld_cell _ _ _ _ hi]
    rw [List.getD, List.getElem?_eq_getElem hi]
    rfl
theorem wp_convert {P : Program} {o : Oper} {a : Act} {w W : World} {K : Act → World → Prop} {Q : Exit → Act → World → Prop} (src dst : TypeId) (x : Operand) (ho : o.op = .convert src dst x)
    (u v : Value) (hx : a.eval x = u) (hr : (convert src dst u).run P w = .ok v W) (h : K (a.put o.dst v) W) : o.wp P a w K Q := by
  unfold Oper.wp execOp
  simp only [ho, hx, Sem.run_bind, hr, Result.andThen_ok, Sem.run_pure]
  exact h
theorem wpList_convert {P : Program} {ops : Array Oper} {rest : List Oper} {o : Oper} {a : Act} {w W : World} {Q : Exit → Act → World → Prop} (hgd : o.guard = none) (src dst : TypeId) (x : Operand) (ho : o.op = .convert src dst x)
    (u v : Value) (hx : a.eval x = u) (hr : (convert src dst u).run P w = .ok v W) (h : wpList P ops Q rest (a.put o.dst v) W) : wpList P ops Q (o :: rest) a w :=
  wpList_plain hgd fun _ hK => wp_convert src dst x ho u v hx hr (hK _ _ h)
end Go.Proofs.Ytilfmmjjiiabgaa.GzC
