/-
  The ops of law 10 that came in.
-/
import Derived.Test.YtdegclfgmjcdfaaWinA
import Derived.WideShapes
import Derived.ChangeSame
import Derived.Deep.Slices
import Derived.OpenShut
namespace Go.Proofs.Ytdegclfgmjcdfaa.WinC
open Go.RowKit Go.My Go.WideShapes Go.ChangeShapes Go.Deep

/-- An Op of the statements. -/
structure OpV where
  kind : Int
  dist : Int
  n : Int
  c : UInt8
  raw : Bool

/-- Op number i of the slice that begins at (b, off). -/
structure OpAt (w : World) (b off i : Nat) (o : OpV) : Prop where
  kind : w.cell? ⟨b, off + i * 5, none⟩ = some (.int .i64 o.kind)
  dist : w.cell? ⟨b, off + i * 5 + 1, none⟩ = some (.int .i64 o.dist)
  n : w.cell? ⟨b, off + i * 5 + 2, none⟩ = some (.int .i64 o.n)
  c : w.cell? ⟨b, off + i * 5 + 3, none⟩ = some (.int .u8 (o.c.toNat : Int))
  raw : w.cell? ⟨b, off + i * 5 + 4, none⟩ = some (.bool o.raw)
  lt : b < w.heap.size
  wk : -9223372036854775808 ≤ o.kind ∧ o.kind ≤ 9223372036854775807
  wd : -9223372036854775808 ≤ o.dist ∧ o.dist ≤ 9223372036854775807
  wn : -9223372036854775808 ≤ o.n ∧ o.n ≤ 9223372036854775807

/-- The ops that came in. -/
def OpsIn (w : World) (a : Option Addr) (len cap : Nat) (f : Nat → OpV) : Prop :=
  len ≤ cap ∧ cap ≤ 9223372036854775807 ∧ (len = 0 ∨ ∃ b off, a = some ⟨b, off, none⟩ ∧ ∀ i, i < len → OpAt w b off i (f i))

theorem OpAt.below {w w' : World} {b off i : Nat} {o : OpV} {B : Nat} (h : OpAt w b off i o) (hB : w.heap.size ≤ B) (hb : Below B w w') : OpAt w' b off i o := by
  have hc : ∀ k, w'.cell? ⟨b, k, none⟩ = w.cell? ⟨b, k, none⟩ := fun k => hb.cell (p := ⟨b, k, none⟩) (Nat.lt_of_lt_of_le h.lt hB)
  exact ⟨by rw [hc]; exact h.kind, by rw [hc]; exact h.dist, by rw [hc]; exact h.n, by rw [hc]; exact h.c, by rw [hc]; exact h.raw, Nat.lt_of_lt_of_le h.lt hb.size, h.wk, h.wd, h.wn⟩

theorem addr_two (b off i j : Nat) : ((⟨b, off, none⟩ : Addr).add i).add j = ⟨b, off + i + j, none⟩ := by rw [addr_add, addr_add]

section
variable {H : Type} {enc : TypeId × Value → H} {w : World} {base : Nat} {spare : Nat → Bool} {held : Bool}
theorem open_op {fuel : Nat} {b off i : Nat} {cs : List Value} {x : DataW H × List MemPlace} (hc : w.cells? base ((⟨b, off, none⟩ : Addr).add (i * 5)) 5 = some cs) (h : DataW.trod enc Try.prog w base spare held fuel 30 cs = some x) :
    ∃ o, OpAt w b off i o := by
  obtain ⟨_, hlen, hat⟩ := World.cells?_some hc
  obtain ⟨xs, m, _, _, _, hxl, hf⟩ := DataW.trod_struct Try.underlying30 h
  have c0 := hat 0 (by omega)
  have c1 := hat 1 (by omega)
  have c2 := hat 2 (by omega)
  have c3 := hat 3 (by omega)
  have c4 := hat 4 (by omega)
  rw [addr_two] at c0 c1 c2 c3 c4
  have hx : xs.length = 5 := hxl
  have e3 : Try.prog.cellsOf 3 = 1 := by kernel_rfl
  have e5 : Try.prog.cellsOf 5 = 1 := by kernel_rfl
  have e4 : Try.prog.cellsOf 4 = 1 := by kernel_rfl
  match cs, hlen, xs, hx with
  | [v0, v1, v2, v3, v4], _, [y0, y1, y2, y3, y4], _ =>
  have f0 : DataW.trod enc Try.prog w base spare held m 3 (List.take (Try.prog.cellsOf 3) [v0, v1, v2, v3, v4]) = some y0 := hf 0 _ rfl
  have f1 : DataW.trod enc Try.prog w base spare held m 3 (List.take (Try.prog.cellsOf 3) [v1, v2, v3, v4]) = some y1 := hf 1 _ rfl
  have f2 : DataW.trod enc Try.prog w base spare held m 3 (List.take (Try.prog.cellsOf 3) [v2, v3, v4]) = some y2 := hf 2 _ rfl
  have f3 : DataW.trod enc Try.prog w base spare held m 5 (List.take (Try.prog.cellsOf 5) [v3, v4]) = some y3 := hf 3 _ rfl
  have f4 : DataW.trod enc Try.prog w base spare held m 4 (List.take (Try.prog.cellsOf 4) [v4]) = some y4 := hf 4 _ rfl
  rw [e3] at f0 f1 f2
  rw [e5] at f3
  rw [e4] at f4
  obtain ⟨k, hk, _, wk⟩ := DataW.trod_int Try.underlying3 f0
  obtain ⟨d, hd, _, wd⟩ := DataW.trod_int Try.underlying3 f1
  obtain ⟨n, hn, _, wn⟩ := DataW.trod_int Try.underlying3 f2
  obtain ⟨c, hcc, _, wc⟩ := DataW.trod_int Try.underlying5 f3
  obtain ⟨r, hr, _⟩ := DataW.trod_bool Try.underlying4 f4
  obtain ⟨c', rfl⟩ := wf_nat8 wc
  simp only [List.take_succ_cons, List.take_zero, List.cons.injEq, and_true] at hk hd hn hcc hr
  subst hk hd hn hcc hr
  refine ⟨⟨k, d, n, c', r⟩, ?_, c1, c2, c3, c4, block_lt_of_cell c1, wf_int wk, wf_int wd, wf_int wn⟩
  exact c0

theorem open_ops {fuel : Nat} {cs : List Value} {x : DataW H × List MemPlace} (h : DataW.trod enc Try.prog w base spare held fuel 22 cs = some x) : ∃ a len cap f, cs = [.slice a len cap] ∧ OpsIn w a len cap f := by
  have e28 : Try.prog.cellsOf 30 = 5 := by kernel_rfl
  have d0 : OpV := ⟨0, 0, 0, 0, false⟩
  rcases open_slice Try.underlying22 h with ⟨rfl, _⟩ | ⟨a, len, cap, m, n, D, Pl, rfl, _, hl, hm, hmm, _, hi⟩
  · exact ⟨none, 0, 0, fun _ => d0, rfl, Nat.le_refl _, by omega, .inl rfl⟩
  · unfold maxLen at hm
    by_cases h0 : len = 0
    · exact ⟨some a, len, cap, fun _ => d0, rfl, hl, hm, .inl h0⟩
    · have hlm : len ≤ m := by rw [hmm]; split <;> omega
      obtain ⟨b, off, spot⟩ := a
      obtain ⟨cs0, hc0, _⟩ := hi 0 (by omega)
      rw [e28] at hc0
      obtain ⟨_, hl0, hat0⟩ := World.cells?_some hc0
      have hx := hat0 0 (by omega)
      rw [List.getElem?_eq_getElem (show 0 < cs0.length by omega)] at hx
      obtain rfl : spot = Option.none := by simpa [Addr.add] using World.cell?_spot hx
      have hall : ∀ i, ∃ o, i < len → OpAt w b off i o := fun i => by
        by_cases hil : i < len
        · obtain ⟨cs', hc, ht⟩ := hi i (by omega)
          rw [e28] at hc
          obtain ⟨o, ho⟩ := open_op hc ht
          exact ⟨o, fun _ => ho⟩
        · exact ⟨d0, fun h => absurd h hil⟩
      exact ⟨_, len, cap, fun i => Classical.choose (hall i), rfl, hl, hm, .inr ⟨b, off, rfl, fun i hil => Classical.choose_spec (hall i) hil⟩⟩
end
end Go.Proofs.Ytdegclfgmjcdfaa.WinC
