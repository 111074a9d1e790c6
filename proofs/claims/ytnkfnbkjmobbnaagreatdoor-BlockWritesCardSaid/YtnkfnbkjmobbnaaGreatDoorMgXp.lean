import Derived.Test.YtnkfnbkjmobbnaaGreatDoorMgX
import Derived.WideShapes
import Derived.ChangeSame
import Derived.Deep.Slices
import Derived.OpenShut

section
/-
  Tokens that came in.
-/
namespace Go.Proofs.YtnkfnbkjmobbnaaGreatDoor.LzC
open Go.RowKit Go.My LzMath Go.WideShapes Go.ChangeShapes Go.Deep

theorem addr_two (b off i j : Nat) : ((⟨b, off, none⟩ : Addr).add i).add j = ⟨b, off + i + j, none⟩ := by rw [addr_add, addr_add]

section
variable {H : Type} {enc : TypeId × Value → H} {w : World} {base : Nat} {spare : Nat → Bool} {held : Bool}
set_option maxRecDepth 100000 in
theorem open_tok {fuel : Nat} {b off i : Nat} {cs : List Value} {x : DataW H × List MemPlace} (hc : w.cells? base ((⟨b, off, none⟩ : Addr).add (i * 3)) 3 = some cs) (h : DataW.trod enc Tryz.prog w base spare held fuel 54 cs = some x) :
    ∃ t, TokAt w b off i t := by
  obtain ⟨_, hlen, hat⟩ := World.cells?_some hc
  obtain ⟨xs, m, _, _, _, hxl, hf⟩ := DataW.trod_struct Tryz.underlying54 h
  have c0 := hat 0 (by omega)
  have c1 := hat 1 (by omega)
  have c2 := hat 2 (by omega)
  rw [addr_two] at c0 c1 c2
  have hx : xs.length = 3 := hxl
  have e3 : Tryz.prog.cellsOf 3 = 1 := by kernel_rfl
  have e5 : Tryz.prog.cellsOf 5 = 1 := by kernel_rfl
  match cs, hlen, xs, hx with
  | [v0, v1, v2], _, [y0, y1, y2], _ =>
  have f0 : DataW.trod enc Tryz.prog w base spare held m 3 (List.take (Tryz.prog.cellsOf 3) [v0, v1, v2]) = some y0 := hf 0 _ rfl
  have f1 : DataW.trod enc Tryz.prog w base spare held m 3 (List.take (Tryz.prog.cellsOf 3) [v1, v2]) = some y1 := hf 1 _ rfl
  have f2 : DataW.trod enc Tryz.prog w base spare held m 5 (List.take (Tryz.prog.cellsOf 5) [v2]) = some y2 := hf 2 _ rfl
  rw [e3] at f0 f1
  rw [e5] at f2
  obtain ⟨k, hk, _, wk⟩ := DataW.trod_int Tryz.underlying3 f0
  obtain ⟨d, hd, _, wd⟩ := DataW.trod_int Tryz.underlying3 f1
  obtain ⟨c, hcc, _, wc⟩ := DataW.trod_int Tryz.underlying5 f2
  obtain ⟨c', rfl⟩ := wf_nat8 wc
  simp only [List.take_succ_cons, List.take_zero, List.cons.injEq, and_true] at hk hd hcc
  subst hk hd hcc
  exact ⟨⟨k, d, c'⟩, c0, c1, c2, block_lt_of_cell c1, wf_int wk, wf_int wd⟩

set_option maxRecDepth 100000 in
theorem open_toks {fuel : Nat} {cs : List Value} {x : DataW H × List MemPlace} (h : DataW.trod enc Tryz.prog w base spare held fuel 23 cs = some x) : ∃ a len cap f, cs = [.slice a len cap] ∧ TokIn w a len cap f := by
  have e28 : Tryz.prog.cellsOf 54 = 3 := by kernel_rfl
  have d0 : Tok := ⟨0, 0, 0⟩
  rcases open_slice Tryz.underlying23 h with ⟨rfl, _⟩ | ⟨a, len, cap, m, n, D, Pl, rfl, _, hl, hm, hmm, _, hi⟩
  · exact ⟨none, 0, 0, fun _ => d0, rfl, Nat.le_refl _, by omega, fun _ => ⟨rfl, rfl⟩, .inl rfl⟩
  · unfold maxLen at hm
    by_cases h0 : len = 0
    · exact ⟨some a, len, cap, fun _ => d0, rfl, hl, hm, (fun h => by cases h), .inl h0⟩
    · have hlm : len ≤ m := by rw [hmm]; split <;> omega
      obtain ⟨b, off, spot⟩ := a
      obtain ⟨cs0, hc0, _⟩ := hi 0 (by omega)
      rw [e28] at hc0
      obtain ⟨_, hl0, hat0⟩ := World.cells?_some hc0
      have hx := hat0 0 (by omega)
      rw [List.getElem?_eq_getElem (show 0 < cs0.length by omega)] at hx
      obtain rfl : spot = Option.none := by simpa [Addr.add] using World.cell?_spot hx
      have hall : ∀ i, ∃ t, i < len → TokAt w b off i t := fun i => by
        by_cases hil : i < len
        · obtain ⟨cs', hc, ht⟩ := hi i (by omega)
          rw [e28] at hc
          obtain ⟨t, ho⟩ := open_tok hc ht
          exact ⟨t, fun _ => ho⟩
        · exact ⟨d0, fun h => absurd h hil⟩
      exact ⟨_, len, cap, fun i => Classical.choose (hall i), rfl, hl, hm, (fun h => by cases h), .inr ⟨b, off, rfl, fun i hil => Classical.choose_spec (hall i) hil⟩⟩
end
end Go.Proofs.YtnkfnbkjmobbnaaGreatDoor.LzC
end
