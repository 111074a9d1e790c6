import Derived.Test.YtihcebpkbkgmcaaR5
import Derived.WideShapes
import Derived.ChangeSame
import Derived.Deep.Slices
import Derived.OpenShut
namespace Go.Proofs.Ytihcebpkbkgmcaa.FeedC
open Go.RowKit Go.My BitMath RefC Go.WideShapes Go.ChangeShapes Go.Deep

/-- An Op of the statements: its numbers, its bytes. -/
structure OpV where
  kind : Int
  n : Int
  ba : Option Addr
  bl : Nat
  bc : Nat
  l : List UInt8

/-- Op number i of the slice that begins at (b, off). -/
structure OpAt (w : World) (b off i : Nat) (o : OpV) : Prop where
  kind : w.cell? ⟨b, off + i * 3, none⟩ = some (.int .i64 o.kind)
  n : w.cell? ⟨b, off + i * 3 + 1, none⟩ = some (.int .i64 o.n)
  bs : w.cell? ⟨b, off + i * 3 + 2, none⟩ = some (.slice o.ba o.bl o.bc)
  bytes : Bytes w o.ba o.bl o.bc o.l
  lt : b < w.heap.size
  wk : -9223372036854775808 ≤ o.kind ∧ o.kind ≤ 9223372036854775807
  wn : -9223372036854775808 ≤ o.n ∧ o.n ≤ 9223372036854775807

/-- The ops that came in. -/
def OpsIn (w : World) (a : Option Addr) (len cap : Nat) (f : Nat → OpV) : Prop :=
  len ≤ cap ∧ cap ≤ 9223372036854775807 ∧ (len = 0 ∨ ∃ b off, a = some ⟨b, off, none⟩ ∧ ∀ i, i < len → OpAt w b off i (f i))

theorem OpAt.below {w w' : World} {b off i : Nat} {o : OpV} {B : Nat} (h : OpAt w b off i o) (hB : w.heap.size ≤ B) (hb : Below B w w') : OpAt w' b off i o := by
  have hc : ∀ k, w'.cell? ⟨b, k, none⟩ = w.cell? ⟨b, k, none⟩ := fun k => hb.cell (p := ⟨b, k, none⟩) (Nat.lt_of_lt_of_le h.lt hB)
  exact ⟨by rw [hc]; exact h.kind, by rw [hc]; exact h.n, by rw [hc]; exact h.bs, h.bytes.below hB hb, Nat.lt_of_lt_of_le h.lt hb.size, h.wk, h.wn⟩

theorem addr_two (b off i j : Nat) : ((⟨b, off, none⟩ : Addr).add i).add j = ⟨b, off + i + j, none⟩ := by rw [addr_add, addr_add]

section
variable {H : Type} {enc : TypeId × Value → H} {w : World} {base : Nat} {spare : Nat → Bool} {held : Bool}
/-- A slice of bytes, read anywhere. -/
theorem open_bytes {fuel : Nat} {cs : List Value} {x : DataW H × List MemPlace} (h : DataW.trod enc Try.prog w base spare held fuel 25 cs = some x) : ∃ a n c l, cs = [.slice a n c] ∧ Bytes w a n c l := by
  rcases open_ints Try.underlying25 Try.underlying5 (by kernel_rfl) h with ⟨rfl, _⟩ | ⟨a, len, cap, zs, rfl, _, hl, hm, hz, _, hcell, hwz⟩
  · exact ⟨none, 0, 0, [], rfl, nil_bytes w⟩
  · have hzl : len ≤ zs.length := by rw [hz]; split <;> omega
    by_cases h0 : len = 0
    · subst h0
      unfold maxLen at hm
      exact ⟨some a, 0, cap, [], rfl, ⟨rfl, by omega, by omega, (fun h => by cases h), .inl rfl⟩⟩
    · obtain ⟨b, off, spot⟩ := a
      have hc0 := hcell 0 (by omega)
      obtain rfl : spot = Option.none := by simpa [Addr.add] using World.cell?_spot hc0
      have hb : b < w.heap.size := block_lt_of_cell hc0
      unfold maxLen at hm
      refine ⟨some ⟨b, off, none⟩, len, cap, (zs.take len).map fun n => UInt8.ofNat n.toNat, rfl, by simp; omega, hl, by omega, (fun h => by cases h), .inr ⟨b, off, rfl, hb, fun i hi => ?_⟩⟩
      have hi2 : i < len := by simp at hi; omega
      have hc := hcell i (by omega)
      rw [addr_add] at hc
      have hw := hwz (zs[i]'(by omega)) (List.getElem_mem _)
      simp [Lit.wf, IntKind.min, IntKind.max, IntKind.bits, IntKind.signed] at hw
      rw [hc, List.getD_eq_getElem?_getD, List.getElem?_eq_getElem (show i < zs.length by omega)]
      simp only [Option.getD_some, List.getElem_map, List.getElem_take, UInt8.toNat_ofNat']
      congr 2
      omega

theorem open_op {fuel : Nat} {b off i : Nat} {cs : List Value} {x : DataW H × List MemPlace} (hc : w.cells? base ((⟨b, off, none⟩ : Addr).add (i * 3)) 3 = some cs) (h : DataW.trod enc Try.prog w base spare held fuel 27 cs = some x) :
    ∃ o, OpAt w b off i o := by
  obtain ⟨_, hlen, hat⟩ := World.cells?_some hc
  obtain ⟨xs, m, _, _, _, hxl, hf⟩ := DataW.trod_struct Try.underlying27 h
  have c0 := hat 0 (by omega)
  have c1 := hat 1 (by omega)
  have c2 := hat 2 (by omega)
  rw [addr_two] at c0 c1 c2
  have hx : xs.length = 3 := hxl
  have e3 : Try.prog.cellsOf 3 = 1 := by kernel_rfl
  have e26 : Try.prog.cellsOf 25 = 1 := by kernel_rfl
  match cs, hlen, xs, hx with
  | [v0, v1, v3], _, [y0, y1, y3], _ =>
  have f0 : DataW.trod enc Try.prog w base spare held m 3 (List.take (Try.prog.cellsOf 3) [v0, v1, v3]) = some y0 := hf 0 _ rfl
  have f1 : DataW.trod enc Try.prog w base spare held m 3 (List.take (Try.prog.cellsOf 3) [v1, v3]) = some y1 := hf 1 _ rfl
  have f3 : DataW.trod enc Try.prog w base spare held m 25 (List.take (Try.prog.cellsOf 25) [v3]) = some y3 := hf 2 _ rfl
  rw [e3] at f0 f1
  rw [e26] at f3
  obtain ⟨k, hk, _, wk⟩ := DataW.trod_int Try.underlying3 f0
  obtain ⟨n, hn, _, wn⟩ := DataW.trod_int Try.underlying3 f1
  obtain ⟨ba, bl, bc, l, hb, hby⟩ := open_bytes f3
  simp only [List.take_succ_cons, List.take_zero, List.cons.injEq, and_true] at hk hn hb
  subst hk hn hb
  refine ⟨⟨k, n, ba, bl, bc, l⟩, ?_, c1, c2, hby, block_lt_of_cell c1, wf_int wk, wf_int wn⟩
  exact c0

theorem open_ops {fuel : Nat} {cs : List Value} {x : DataW H × List MemPlace} (h : DataW.trod enc Try.prog w base spare held fuel 22 cs = some x) : ∃ a len cap f, cs = [.slice a len cap] ∧ OpsIn w a len cap f := by
  have e28 : Try.prog.cellsOf 27 = 3 := by kernel_rfl
  have d0 : OpV := ⟨0, 0, none, 0, 0, []⟩
  rcases open_slice Try.underlying22 h with ⟨rfl, _⟩ | ⟨a, len, cap, m, n, D, Pl, rfl, _, hl, hm, hmm, _, hi⟩
  · exact ⟨none, 0, 0, fun _ => d0, rfl, Nat.le_refl _, by omega, .inl rfl⟩
  · unfold maxLen at hm
    by_cases h0 : len = 0
    · exact ⟨some a, len, cap, fun _ => d0, rfl, hl, hm, .inl h0⟩
    · have hlm : len ≤ m := by rw [hmm]; split <;> omega
      obtain ⟨b, off, spot⟩ := a
      obtain ⟨cs0, hc0, _⟩ := hi 0 (by omega)
      rw [e28] at hc0
      obtain ⟨_, hl0, hat0⟩ := World.cells?_some hc0
      have hx := hat0 0 (by omega)
      rw [List.getElem?_eq_getElem (show 0 < cs0.length by omega)] at hx
      obtain rfl : spot = Option.none := by simpa [Addr.add] using World.cell?_spot hx
      have hall : ∀ i, ∃ o, i < len → OpAt w b off i o := fun i => by
        by_cases hil : i < len
        · obtain ⟨cs', hc, ht⟩ := hi i (by omega)
          rw [e28] at hc
          obtain ⟨o, ho⟩ := open_op hc ht
          exact ⟨o, fun _ => ho⟩
        · exact ⟨d0, fun h => absurd h hil⟩
      exact ⟨_, len, cap, fun i => Classical.choose (hall i), rfl, hl, hm, .inr ⟨b, off, rfl, fun i hil => Classical.choose_spec (hall i) hil⟩⟩
end
end Go.Proofs.Ytihcebpkbkgmcaa.FeedC
