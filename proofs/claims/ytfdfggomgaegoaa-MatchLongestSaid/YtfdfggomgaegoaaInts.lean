/-
  A row of ints that came in (FeedW's, without feed). No program, no dump.
-/
import Derived.Test.YtfdfggomgaegoaaLib
namespace Go.My
open Go.RowKit

/-- What came in as a row of ints. -/
def Ints (w : World) (a : Option Addr) (len cap : Nat) : Prop :=
  len ≤ cap ∧ cap ≤ 9223372036854775807 ∧ (len = 0 ∨ ∃ b off, a = some ⟨b, off, none⟩ ∧ b < w.heap.size ∧ ∀ i, i < len → ∃ z : Int, -9223372036854775808 ≤ z ∧ z ≤ 9223372036854775807 ∧ w.cell? ⟨b, off + i, none⟩ = some (.int .i64 z))
theorem row_ints {w : World} {a : Option Addr} {len cap : Nat} {zs : List Int}
    (h : (a = none ∧ len = 0 ∧ cap = 0 ∧ zs = []) ∨
      ∃ x, a = some x ∧ len ≤ cap ∧ cap ≤ maxLen ∧ zs.length = cap ∧ (∀ i, i < zs.length → w.cell? (x.add i) = some (.int .i64 (zs.getD i 0))) ∧ ∀ n ∈ zs, (Lit.int .i64 n).wf = true) : Ints w a len cap := by
  rcases h with ⟨rfl, rfl, rfl, rfl⟩ | ⟨x, rfl, h1, h2, h3, h4, h5⟩
  · exact ⟨Nat.le_refl _, by omega, .inl rfl⟩
  · unfold maxLen at h2
    refine ⟨h1, h2, ?_⟩
    by_cases h0 : len = 0
    · exact .inl h0
    · right
      obtain ⟨b, off, spot⟩ := x
      have hc := h4 0 (by omega)
      have hspot : spot = Option.none := by simpa [Addr.add] using World.cell?_spot hc
      subst hspot
      refine ⟨b, off, rfl, block_lt_of_cell hc, fun i hi => ?_⟩
      have hi' : i < zs.length := by omega
      have := h4 i hi'
      rw [addr_add] at this
      have hw := wf_int (h5 zs[i] (List.getElem_mem hi'))
      refine ⟨zs[i], hw.1, hw.2, ?_⟩
      rw [this, List.getD_eq_getElem?_getD, List.getElem?_eq_getElem hi']
      rfl
theorem Ints.get {w wr : World} {a : Option Addr} {len cap : Nat} (h : Ints w a len cap) (hb : Below w.heap.size w wr) (i : Nat) (hi : i < len) :
    ∃ b off, a = some ⟨b, off, none⟩ ∧ ∃ z : Int, -9223372036854775808 ≤ z ∧ z ≤ 9223372036854775807 ∧ wr.cell? ⟨b, off + i, none⟩ = some (.int .i64 z) := by
  rcases h.2.2 with h0 | ⟨b, off, ha, hlt, hz⟩
  · omega
  · obtain ⟨z, z1, z2, hc⟩ := hz i hi
    exact ⟨b, off, ha, z, z1, z2, by rw [hb.cell (p := ⟨b, off + i, none⟩) hlt]; exact hc⟩
end Go.My
