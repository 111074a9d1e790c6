import Derived.Test.YtilfmmjjiiabgaaGreatDoorMgAa
import Derived.Test.YtilfmmjjiiabgaaGreatDoorRows
import Derived.WideShapes
import Derived.ChangeSame
import Derived.Deep.Slices
import Derived.OpenShut
import Derived.Test.YtilfmmjjiiabgaaGreatDoorMgAc
import Derived.Lib.ConvBytes

section
/-
  Rows of bytes that came in, as a row.
-/
namespace Go.Proofs.YtilfmmjjiiabgaaGreatDoor.GzC
open Go.RowKit Go.My Go.WideShapes Go.ChangeShapes Go.Deep

/-- Rows of bytes. -/
structure RowsIn (w : World) (a : Option Addr) (len cap : Nat) (f : Nat → List UInt8) : Prop where
  le_cap : len ≤ cap
  cap_le : cap ≤ 9223372036854775807
  nil : a = none → len = 0 ∧ cap = 0
  at_ : len = 0 ∨ ∃ b off, a = some ⟨b, off, none⟩ ∧ b < w.heap.size ∧ ∀ i, i < len → ∃ a' n c, w.cell? ⟨b, off + i, none⟩ = some (.slice a' n c) ∧ Bytes w a' n c (f i)
theorem RowsIn.below {w w' : World} {a : Option Addr} {len cap : Nat} {f : Nat → List UInt8} (h : RowsIn w a len cap f) (hb : Below w.heap.size w w') : RowsIn w' a len cap f := by
  refine ⟨h.1, h.2, h.3, h.4.imp_right ?_⟩
  rintro ⟨b, off, ha, hs, hc⟩
  refine ⟨b, off, ha, Nat.lt_of_lt_of_le hs hb.size, fun i hi => ?_⟩
  obtain ⟨a', n, c, h1, h2⟩ := hc i hi
  exact ⟨a', n, c, by rw [hb.cell (p := ⟨b, off + i, none⟩) hs]; exact h1, h2.below (Nat.le_refl _) hb⟩
section
variable {H : Type} {enc : TypeId × Value → H} {w : World} {base : Nat} {spare : Nat → Bool} {held : Bool}
theorem open_bytes {fuel : Nat} {cs : List Value} {x : DataW H × List MemPlace} (h : DataW.trod enc Tryz.prog w base spare held fuel 25 cs = some x) : ∃ a n c l, cs = [.slice a n c] ∧ Bytes w a n c l := by
  rcases open_ints Tryz.underlying25 Tryz.underlying5 (by kernel_rfl) h with ⟨rfl, _⟩ | ⟨a, len, cap, zs, rfl, _, hl, hm, hz, _, hcell, hwz⟩
  · exact ⟨none, 0, 0, [], rfl, nil_bytes w⟩
  · have hzl : len ≤ zs.length := by rw [hz]; split <;> omega
    have hzm : zs.length ≤ maxLen := by rw [hz]; split <;> omega
    obtain ⟨l, hb⟩ := row_bytes (w := w) (a := some a) (len := len) (cap := zs.length) (zs := zs) (.inr ⟨a, rfl, hzl, hzm, rfl, hcell, hwz⟩)
    exact ⟨some a, len, cap, l, rfl, hb.1, hl, by unfold maxLen at hm; omega, (fun h => by cases h), hb.5⟩
set_option maxRecDepth 100000 in
theorem open_rows {fuel : Nat} {cs : List Value} {x : DataW H × List MemPlace} (h : DataW.trod enc Tryz.prog w base spare held fuel 22 cs = some x) : ∃ a len cap f, cs = [.slice a len cap] ∧ RowsIn w a len cap f := by
  have e1 : Tryz.prog.cellsOf 25 = 1 := by kernel_rfl
  rcases open_slice Tryz.underlying22 h with ⟨rfl, _⟩ | ⟨a, len, cap, m, n, D, Pl, rfl, _, hl, hm, hmm, _, hi⟩
  · exact ⟨none, 0, 0, fun _ => [], rfl, Nat.le_refl _, by omega, fun _ => ⟨rfl, rfl⟩, .inl rfl⟩
  · unfold maxLen at hm
    by_cases h0 : len = 0
    · exact ⟨some a, len, cap, fun _ => [], rfl, hl, hm, (fun h => by cases h), .inl h0⟩
    · have hlm : len ≤ m := by rw [hmm]; split <;> omega
      obtain ⟨b, off, spot⟩ := a
      obtain ⟨cs0, hc0, _⟩ := hi 0 (by omega)
      rw [e1] at hc0
      obtain ⟨_, hl0, hat0⟩ := World.cells?_some hc0
      have hx := hat0 0 (by omega)
      rw [List.getElem?_eq_getElem (show 0 < cs0.length by omega)] at hx
      obtain rfl : spot = Option.none := by simpa [Addr.add] using World.cell?_spot hx
      have hx' := hx
      rw [addr_add] at hx'
      have hall : ∀ i, ∃ l, i < len → ∃ a' n c, w.cell? ⟨b, off + i, none⟩ = some (.slice a' n c) ∧ Bytes w a' n c l := fun i => by
        by_cases hil : i < len
        · obtain ⟨cs', hc, ht⟩ := hi i (by omega)
          rw [e1, Nat.mul_one] at hc
          obtain ⟨_, hl1, hat1⟩ := World.cells?_some hc
          obtain ⟨a', n', c', l, rfl, hb⟩ := open_bytes ht
          have h1 := hat1 0 (by omega)
          rw [addr_add, addr_add, Nat.add_zero] at h1
          exact ⟨l, fun _ => ⟨a', n', c', h1, hb⟩⟩
        · exact ⟨[], fun h => absurd h hil⟩
      exact ⟨_, len, cap, fun i => Classical.choose (hall i), rfl, hl, hm, (fun h => by cases h), .inr ⟨b, off, rfl, block_lt_of_cell hx', fun i hil => Classical.choose_spec (hall i) hil⟩⟩
end
end Go.Proofs.YtilfmmjjiiabgaaGreatDoor.GzC
end

section
/-
  []byte(s) of a text.
-/
namespace Go.Proofs.YtilfmmjjiiabgaaGreatDoor.GzC
open Go.RowKit Go.My

theorem bytesWorld_below (w : World) (E : TypeId) (S : ByteArray) : Below w.heap.size w (Go.Lib.bytesWorld w E S) := by
  refine ⟨rfl, rfl, rfl, by rw [Go.Lib.bytesWorld_size]; omega, fun k hk => Go.Lib.bytesWorld_at_old w E S k hk⟩
theorem str_bytes (w : World) (S : ByteArray) (h : S.size ≤ 1000000000) : ∃ c W, (convert 9 25 (.string S)).run Tryz.prog w = .ok (.slice (some ⟨w.heap.size, 0, none⟩) S.size c) W ∧ Bytes W (some ⟨w.heap.size, 0, none⟩) S.size c S.data.toList ∧ Below w.heap.size w W := by
  refine ⟨grownCap w S.size 0 5, Go.Lib.bytesWorld w 5 S, Go.Lib.run_convert_string_bytes w 9 25 5 S Tryz.underlying9 Tryz.underlying25 Tryz.underlying5, ?_, bytesWorld_below _ _ _⟩
  refine ⟨by rw [Array.length_toList]; rfl, grownCap_ge w S.size 0 5, ?_, (fun h => by cases h), .inr ⟨w.heap.size, 0, rfl, by rw [Go.Lib.bytesWorld_size]; omega, fun i hi => ?_⟩⟩
  · have := grownCap_le_maxLen w S.size 0 5 (by unfold maxLen; omega)
    simpa [maxLen] using this
  · rw [Nat.zero_add, Go.Lib.bytesWorld_cell _ _ _ _ hi]
    rw [List.getD, List.getElem?_eq_getElem hi]
    rfl
theorem wp_convert {P : Program} {o : Oper} {a : Act} {w W : World} {K : Act → World → Prop} {Q : Exit → Act → World → Prop} (src dst : TypeId) (x : Operand) (ho : o.op = .convert src dst x)
    (u v : Value) (hx : a.eval x = u) (hr : (convert src dst u).run P w = .ok v W) (h : K (a.put o.dst v) W) : o.wp P a w K Q := by
  unfold Oper.wp execOp
  simp only [ho, hx, Sem.run_bind, hr, Result.andThen_ok, Sem.run_pure]
  exact h
theorem wpList_convert {P : Program} {ops : Array Oper} {rest : List Oper} {o : Oper} {a : Act} {w W : World} {Q : Exit → Act → World → Prop} (hgd : o.guard = none) (src dst : TypeId) (x : Operand) (ho : o.op = .convert src dst x)
    (u v : Value) (hx : a.eval x = u) (hr : (convert src dst u).run P w = .ok v W) (h : wpList P ops Q rest (a.put o.dst v) W) : wpList P ops Q (o :: rest) a w :=
  wpList_plain hgd fun _ hK => wp_convert src dst x ho u v hx hr (hK _ _ h)
end Go.Proofs.YtilfmmjjiiabgaaGreatDoor.GzC
end
