/-
  Paths: two cleaned texts with something between that is not kept (chapter 19). Plain lists: no program, no dump.
-/
import Derived.Test.YtkimmabndmceoaaDoorPaSf
namespace PaMath
theorem parts_ends_app {ms : List (List UInt8)} (h : ∀ p ∈ ms, 47 ∉ p) (t : List UInt8) : parts (ends ms ++ t) = ms ++ parts t := by
  induction ms with
  | nil => rfl
  | cons p r ih =>
    rw [ends, List.append_assoc, List.cons_append, parts_app, parts_one (h p (by simp)), ih (fun q hq => h q (List.mem_cons_of_mem _ hq))]
    rfl
/-- What PathJoins cleans. -/
def glued (a : List UInt8) (ms : List (List UInt8)) (b : List UInt8) : List UInt8 := [46] ++ 47 :: (a ++ 47 :: (ends ms ++ (b ++ 47 :: [])))
theorem glued_clean {a b x y : List UInt8} {ms : List (List UInt8)} (ha : Cl a x) (hb : Cl b y) (hl : x.length + 1 + y.length ≤ 4096) (hm : ∀ p ∈ ms, p = [] ∨ p = [46]) : clean (glued a ms b) = some (x ++ 47 :: y) := by
  have h47 : ∀ p ∈ ms, (47 : UInt8) ∉ p := fun p hp => by rcases hm p hp with rfl | rfl <;> decide
  have hp : parts (glued a ms b) = [46] :: (parts a ++ (ms ++ (parts b ++ [[]]))) := by
    unfold glued
    rw [parts_app, parts_app, parts_ends_app h47, parts_app]
    rfl
  refine (clean_join ha hb hl (by simp [glued]) (by simp [glued]) ?_ ?_ ?_).back
  · unfold glued
    intro hz
    simp only [List.mem_append, List.mem_cons, List.not_mem_nil, or_false] at hz
    rcases hz with hz | hz | hz | hz | hz | hz | hz
    · cases hz
    · cases hz
    · exact ha.zero hz
    · cases hz
    · rcases ends_mem hz with hz | ⟨p, hp, hz⟩
      · cases hz
      · rcases hm p hp with rfl | rfl
        · cases hz
        · revert hz; decide
    · exact hb.zero hz
    · cases hz
  · rw [hp]
    intro hd
    simp only [List.mem_append, List.mem_cons, List.not_mem_nil, or_false] at hd
    rcases hd with hd | hd | hd | hd | hd
    · revert hd; decide
    · exact ha.dots hd
    · rcases hm _ hd with e | e <;> (revert e; decide)
    · exact hb.dots hd
    · revert hd; decide
  · rw [hp, List.filter_cons, if_neg (by decide), List.filter_append, List.filter_append, List.filter_append, filter_dots ms hm]
    simp [kept]
theorem joined_less {a x y : List UInt8} (ha : Cl a x) {z : List UInt8} (hz : Cl z (x ++ 47 :: y)) : lts (key x) (key (x ++ 47 :: y)) = true := by
  rw [ha.key_eq, hz.key_eq, parts_app]
  exact lts_front _ (parts_ne y)
end PaMath
