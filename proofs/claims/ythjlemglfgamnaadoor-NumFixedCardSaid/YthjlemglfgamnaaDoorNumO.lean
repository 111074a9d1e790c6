import Derived.Test.YthjlemglfgamnaaDoorNumC
import Derived.Lib.IndexBytes
namespace Go.Proofs.YthjlemglfgamnaaDoor.NumC
open Go.RowKit Go.My NumMath

theorem empty_of (s : ByteArray) (h : s.size = 0) : s = ⟨#[]⟩ := by
  cases s with
  | mk d => simp [ByteArray.size] at h; subst h; rfl
theorem nonempty_of (s : ByteArray) (h : 0 < s.size) : s.toList.isEmpty = false := by
  rw [Lib.toList_data]
  cases e : s.data.toList with
  | nil => have := Lib.size_eq s; rw [e, List.length_nil] at this; omega
  | cons _ _ => rfl
theorem cons_of (s : ByteArray) (h : 0 < s.size) : s.data.toList = s[0] :: s.data.toList.drop 1 := by
  have h1 : 0 < s.data.toList.length := by rw [← Lib.size_eq]; exact h
  have e := List.drop_eq_getElem_cons h1
  rw [get_list s 0 h, List.drop_zero] at e
  exact e

set_option maxRecDepth 100000 in
set_option maxHeartbeats 1000000 in
theorem octal_any (s : ByteArray) (w : World) (hs : s.size ≤ 1000000) :
    Calls Tryd.prog 14 #[.string s] w fun e w' => e = .returned (.tuple #[.int .i64 ((octV s.data.toList : Nat) : Int), .int .i64 ((octE s.data.toList : Nat) : Int)]) ∧ Below w.heap.size w w' := by
  by_cases h0 : s.size = 0
  · obtain rfl := empty_of s h0
    go_enter Tryd.func14, Tryd.ntmps14
    go_wp2_with fail
    go_ret2
    exact ⟨rfl, Below.refl _ _⟩
  have hp : 0 < s.size := by omega
  have hne := nonempty_of s hp
  have HC := Lib.hid (cons_of s hp)
  by_cases h1 : s[0].toNat = 128
  · have hv := octR_256 s[0] (s.data.toList.drop 1) h1
    rw [← HC.out] at hv
    have hv1 : octV s.data.toList = rngV (V (dig 256) 256 (s.data.toList.drop 1)) := congrArg Prod.fst hv
    have hv2 : octE s.data.toList = rngE (V (dig 256) 256 (s.data.toList.drop 1)) := congrArg Prod.snd hv
    have hb : ((s[0].toNat : Int) == 128) = true := by simp [h1]
    have hx : (s.extract 1 s.size).data.toList = s.data.toList.drop 1 := Lib.extract_to_end s 1
    have hsz : (s.extract 1 s.size).size ≤ 9223372036854775807 := by rw [Lib.size_eq, hx, List.length_drop, ← Lib.size_eq]; omega
    have c := value_any 256 (s.extract 1 s.size) w (by omega) (by omega) hsz (fun _ _ => .inl rfl)
    rw [hx, ← hv1, ← hv2] at c
    clear hx h1 hsz hv hv1 hv2
    go_enter Tryd.func14, Tryd.ntmps14
    go_wp2_with fail
    refine c.mono ?_
    rintro e w' ⟨rfl, rfl⟩
    clear c
    go_wp2_with fail
    go_ret2
    exact ⟨rfl, Below.refl _ _⟩
  have hb : ((s[0].toNat : Int) == 128) = false := by simp; omega
  have hz1 : (octRest s.data.toList).length ≤ (body s.data.toList).length := by
    have h : octDigits s.data.toList ++ octRest s.data.toList = body s.data.toList := List.takeWhile_append_dropWhile
    rw [← h]; simp
  have hz2 : (body s.data.toList).length ≤ s.data.toList.length := (List.dropWhile_sublist _).length_le
  rw [← Lib.size_eq] at hz2
  obtain ⟨r1, hr1⟩ : ∃ r1 : ByteArray, r1 = ⟨(body s.data.toList).toArray⟩ := ⟨_, rfl⟩
  obtain ⟨r2, hr2⟩ : ∃ r2 : ByteArray, r2 = ⟨(octRest s.data.toList).toArray⟩ := ⟨_, rfl⟩
  have c1 : ∀ w, Calls Tryd.prog 31 #[.string s, .string ⟨#[32]⟩] w fun e w' => e = .returned (.string r1) ∧ Below w.heap.size w w' := fun w => by
    rw [hr1]; exact trimleft_any s ⟨#[32]⟩ w (by decide) (by decide)
  have c2 : ∀ w, Calls Tryd.prog 31 #[.string r1, .string ⟨#[48, 49, 50, 51, 52, 53, 54, 55]⟩] w fun e w' => e = .returned (.string r2) ∧ Below w.heap.size w w' := fun w => by
    rw [hr1, hr2]; exact trimleft_any ⟨(body s.data.toList).toArray⟩ ⟨#[48, 49, 50, 51, 52, 53, 54, 55]⟩ w (by decide) (by decide)
  have hs1 : r1.size = (body s.data.toList).length := by rw [hr1, Lib.size_eq]
  have hs2 : r2.size = (octRest s.data.toList).length := by rw [hr2, Lib.size_eq]
  have hsz1 : r1.size ≤ 1000000 := by omega
  have hsz2 : r2.size ≤ r1.size := by omega
  have hd2 : r2.data.toList = octRest s.data.toList := by rw [hr2]
  by_cases h2 : allIn ends (octRest s.data.toList) = true
  · have c3 := fun w => only_yes r2 ⟨#[32, 0]⟩ w (by omega) (by decide) (by decide) (by rw [hd2]; exact h2)
    have hv := octR_oct s[0] (s.data.toList.drop 1) h1 (by rw [← HC.out]; exact h2)
    rw [← HC.out] at hv
    have hv1 : octV s.data.toList = rngV (V (dig 8) 8 (octDigits s.data.toList)) := congrArg Prod.fst hv
    have hv2 : octE s.data.toList = rngE (V (dig 8) 8 (octDigits s.data.toList)) := congrArg Prod.snd hv
    have hx : (r1.extract 0 (r1.size - r2.size)).data.toList = octDigits s.data.toList := by
      rw [Lib.extract_data, List.drop_zero, Nat.sub_zero, hs1, hs2, hr1]; exact take_rest _
    have hxs : (r1.extract 0 (r1.size - r2.size)).size ≤ 9223372036854775807 := by
      rw [Lib.size_eq, hx, ← take_rest, List.length_take]; omega
    have c4 := fun w => value_any 8 (r1.extract 0 (r1.size - r2.size)) w (by omega) (by omega) hxs (by rw [hx]; exact octDigits_ok _)
    rw [hx, ← hv1, ← hv2] at c4
    clear hx hxs hv hv1 hv2 hr1 hr2 hs1 hs2 hd2 h2 h1
    go_enter Tryd.func14, Tryd.ntmps14
    go_wp2_with fail
    refine (c1 w).mono ?_
    rintro e w1 ⟨rfl, b1⟩
    go_wp2_with fail
    refine (c2 w1).mono ?_
    rintro e w2 ⟨rfl, b2⟩
    go_wp2_with fail
    refine (c3 w2).mono ?_
    rintro e w3 ⟨rfl, b3⟩
    go_wp2_with fail
    refine (c4 w3).mono ?_
    rintro e w4 ⟨rfl, rfl⟩
    go_wp2_with fail
    go_ret2
    exact ⟨rfl, (b1.trans (b2.mono b1.size)).trans (b3.mono (b1.trans (b2.mono b1.size)).size)⟩
  · have h2' : allIn ends (octRest s.data.toList) = false := by simpa using h2
    have c3 := fun w => only_no r2 ⟨#[32, 0]⟩ w (by omega) (by decide) (by decide) (by rw [hd2]; exact h2')
    have hv := octR_form s[0] (s.data.toList.drop 1) h1 (by rw [← HC.out]; exact h2')
    rw [← HC.out] at hv
    have hv1 : octV s.data.toList = 0 := congrArg Prod.fst hv
    have hv2 : octE s.data.toList = 2 := congrArg Prod.snd hv
    have HV1 := Lib.hid hv1
    have HV2 := Lib.hid hv2
    clear hv hv1 hv2 hr1 hr2 hs1 hs2 hd2 h2 h2' h1
    go_enter Tryd.func14, Tryd.ntmps14
    go_wp2_with fail
    refine (c1 w).mono ?_
    rintro e w1 ⟨rfl, b1⟩
    go_wp2_with fail
    refine (c2 w1).mono ?_
    rintro e w2 ⟨rfl, b2⟩
    go_wp2_with fail
    refine (c3 w2).mono ?_
    rintro e w3 ⟨rfl, b3⟩
    go_wp2_with fail
    go_ret2
    exact ⟨ret_pair (by rw [HV1.out]; rfl) (by rw [HV2.out]; rfl), (b1.trans (b2.mono b1.size)).trans (b3.mono (b1.trans (b2.mono b1.size)).size)⟩
end Go.Proofs.YthjlemglfgamnaaDoor.NumC
