/-
  path: the library's calls with texts as lists; idle; Clone.
-/
import Derived.Test.YtkimmabndmceoaaDoorRows
import Derived.Test.YtkimmabndmceoaaDoorLib
import Derived.Test.YtkimmabndmceoaaDoorPaS
import Derived.Test.YtkimmabndmceoaaDoorPaSh
import Derived.WalkSpells
import Derived.WalkLawsBesides
import Derived.Lib.Hide
namespace Go.Proofs.YtkimmabndmceoaaDoor.PaC
open Go.RowKit Go.My PaMath

theorem lst_47 : lst ⟨#[47]⟩ = [47] := rfl
/-- strings.Index(s, "/") -/
theorem index_any (s : ByteArray) (w : World) : Calls Tryd.prog 45 #[.string s, .string ⟨#[47]⟩] w fun e w' => e = .returned (.int .i64 (Lib.indexByte (lst s) 47)) ∧ w = w' :=
  (Any.strings_Index_one Tryd.lays143 s 47 w).mono fun _ _ ⟨h1, h2⟩ => ⟨h1, h2.symm⟩
/-- strings.Contains(s, "\x00") -/
theorem nul_any (s : ByteArray) (w : World) : Calls Tryd.prog 35 #[.string s, .string ⟨#[0]⟩] w fun e w' => e = .returned (.bool (decide ((0 : UInt8) ∈ lst s))) ∧ w = w' :=
  (Any.strings_Contains_one Tryd.lays144 s 0 w).mono fun _ _ ⟨h1, h2⟩ => ⟨by rw [h1, index_nul]; rfl, h2.symm⟩
/-- strings.HasPrefix(s, "/") -/
theorem abs_any (s : ByteArray) (w : World) : Calls Tryd.prog 34 #[.string s, .string ⟨#[47]⟩] w fun e w' => e = .returned (.bool (decide ((lst s).head? = some 47))) ∧ w = w' :=
  (Any.strings_HasPrefix Tryd.lays99 s ⟨#[47]⟩ w).mono fun _ _ ⟨h1, h2⟩ => ⟨by
    rw [h1]
    congr 2
    show List.isPrefixOf [47] (lst s) = _
    cases lst s with
    | nil => rfl
    | cons c t =>
      show ((47 : UInt8) == c && List.isPrefixOf [] t) = _
      simp only [List.isPrefixOf, Bool.and_true, List.head?_cons, Option.some.injEq]
      by_cases h : c = 47
      · subst h; rfl
      · simp [h, Ne.symm h], h2.symm⟩
theorem clone_any (s : ByteArray) (w : World) (h : s.size ≤ 281474976710656) : Calls Tryd.prog 30 #[.string s] w fun e w' => e = .returned (.string s) ∧ Below w.heap.size w w' := by
  go_enter Tryd.func30, Tryd.ntmps30
  go_wp2_with fail
  refine (Any.stringslite_Clone Tryd.laysM316 s w h).mono ?_
  rintro e w' ⟨rfl, hb⟩
  go_wp2_with fail
  go_ret
  exact ⟨rfl, hb⟩

theorem kept_lst {p : ByteArray} (h : kept (lst p) = true) : (p.toList == ([] : List UInt8)) = false ∧ (p.toList == ([46] : List UInt8)) = false := by
  rw [toList_lst]
  have := kept_spec.1 h
  simp [this.1, this.2]
theorem idle_any (p : ByteArray) (w : World) : Calls Tryd.prog 24 #[.string p] w fun e w' => e = .returned (.bool (!kept (lst p))) ∧ w = w' := by
  by_cases h0 : lst p = []
  · obtain rfl : p = ⟨#[]⟩ := lst_inj h0
    go_enter Tryd.func24, Tryd.ntmps24
    go_wp2_with fail
    go_ret
    exact ⟨rfl, rfl⟩
  by_cases h1 : lst p = [46]
  · obtain rfl : p = ⟨#[46]⟩ := lst_inj h1
    go_enter Tryd.func24, Tryd.ntmps24
    go_wp2_with fail
    go_ret
    exact ⟨rfl, rfl⟩
  have hk : kept (lst p) = true := kept_spec.2 ⟨h0, h1⟩
  have e1 : p.toList ≠ [] := by rw [toList_lst]; exact h0
  have e0 : p.toList.isEmpty = false := by simpa using e1
  have e2 : p.toList ≠ [46] := by rw [toList_lst]; exact h1
  have e3 : (p.toList == [46]) = false := by simpa using e2
  go_enter Tryd.func24, Tryd.ntmps24
  go_wp2_with fail
  go_ret
  exact ⟨by rw [hk]; rfl, rfl⟩
end Go.Proofs.YtkimmabndmceoaaDoor.PaC
