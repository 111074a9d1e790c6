import Derived.Test.YtihcebpkbkgmcaaFeedG
namespace Go.Proofs.Ytihcebpkbkgmcaa.FeedC
open Go.RowKit Go.My BitMath RefC

/-- A Feed that was made in the call, and nothing elder turned. -/
structure Kept (w wr : World) (f : Nat) (F : Nat → Prop) (bs : List Bool) (pushed : Nat) (ended : Bool) : Prop where
  feed : Fed w.heap.size wr f F bs pushed ended
  below : Below w.heap.size w wr

section
variable {w wr w2 : World} {f pushed p2 : Nat} {F : Nat → Prop} {bs b2 : List Bool} {ended e2 : Bool}
theorem Kept.later (h : Kept w wr f F bs pushed ended) (hb : Below wr.heap.size wr w2) : Kept w w2 f F bs pushed ended :=
  ⟨h.feed.below hb, h.below.trans (hb.mono h.below.size)⟩
theorem Kept.drewN (h : Kept w wr f F bs pushed ended) (n : Nat) : Kept w (wr.drewN n) f F bs pushed ended := h.later ⟨rfl, rfl, rfl, Nat.le_refl _, fun _ _ => rfl⟩
theorem Kept.done (h : Kept w wr f F bs pushed ended) (hd : Done w.heap.size f F wr b2 p2 e2 w2) :
    ∃ F2, Kept w w2 f F2 b2 p2 e2 ∧ Only F wr w2 ∧ ∀ k, F2 k → F k ∨ wr.heap.size ≤ k := by
  obtain ⟨F2, h1, h2, h3⟩ := hd
  exact ⟨F2, ⟨h1, h.below.trans (h2.below h.below.size (fun k hk => (h.feed.lt k hk).1))⟩, h2, h3⟩
end

theorem new_k (w : World) : Calls Try.prog 5 #[] w fun e w' => e = .returned (.pointer (some ⟨w.heap.size + 1, 0, none⟩)) ∧ ∃ F, Kept w w' (w.heap.size + 1) F [] 0 false :=
  (new_any w).mono fun _ _ ⟨F, h1, h2, h3⟩ => ⟨h1, F, h2, h3⟩

theorem told_vals : peekV (lows 8 29) 3 = 5 ∧ skipCode (lows 8 29) 3 = 0 ∧ skipBits (lows 8 29) 3 = lows 5 3 ∧ peekV (lows 5 3) 3 = 3 ∧ skipCode (lows 5 3) 6 = 5 ∧ skipBits (lows 5 3) 6 = lows 5 3 ∧ (lows 5 3).length = 5 := by decide +kernel

set_option maxRecDepth 100000 in
set_option maxHeartbeats 4000000 in
theorem told_any (w : World) : Calls Try.prog 6 #[] w fun e w' => e = .returned (.bool true) ∧ Below w.heap.size w w' := by
  go_enter Try.func6, Try.ntmps6
  go_wp2_with fail
  refine (new_k w).mono ?_
  rintro e w1 ⟨rfl, F1, hk1⟩
  have HK1 := Lib.hid hk1
  clear hk1
  go_wp2_with fail
  have hb : Bytes (w1.alloc (.cells #[.int .u8 29] 5)) (some ⟨w1.heap.size, 0, none⟩) 1 1 [29] := one_bytes 5 w1 29
  have hk2 := HK1.out.later ((Below.refl w1.heap.size w1).alloc (Nat.le_refl _) (.cells #[.int .u8 29] 5))
  refine (push_open _ _ 0 F1 [] _ hk2.feed _ 1 1 [29] hb (fun b off e hF => by cases e; exact absurd (HK1.out.feed.lt _ hF).2 (Nat.lt_irrefl _)) (by simp) (by omega) (by omega)).mono ?_
  rintro e w3 ⟨rfl, hd⟩
  obtain ⟨F3, hk3, -, -⟩ := hk2.done hd
  have hk3' : Kept w w3 (w.heap.size + 1) F3 (lows 8 29) 1 false := hk3
  have HK3 := Lib.hid hk3'
  clear hk2 hd hk3 hk3' hb HK1
  obtain ⟨v1, v2, v3, v4, v5, v6, v7⟩ := told_vals
  have HV := Lib.hid (And.intro v1 (And.intro v2 (And.intro v3 (And.intro v4 (And.intro v5 (And.intro v6 v7))))))
  clear v1 v2 v3 v4 v5 v6 v7
  go_wp2_with fail
  refine (peek_any 3 _ _ 1 F3 _ false w3 HK3.out.feed).mono ?_
  rw [HV.out.1]
  rintro e w' ⟨rfl, k4, rfl⟩
  have HK4 := Lib.hid (HK3.out.drewN k4)
  generalize w3.drewN k4 = w4 at *
  clear HK3
  go_wp2_with fail
  refine (skip_any 3 _ _ 1 F3 _ false w4 HK4.out.feed (by decide)).mono ?_
  rw [HV.out.2.1, HV.out.2.2.1]
  rintro e w5 ⟨rfl, hd⟩
  obtain ⟨F5, hk5, -, -⟩ := HK4.out.done hd
  have HK5 := Lib.hid hk5
  clear hk5 hd HK4
  go_wp2_with fail
  refine (peek_any 3 _ _ 1 F5 _ false w5 HK5.out.feed).mono ?_
  rw [HV.out.2.2.2.1]
  rintro e w' ⟨rfl, k6, rfl⟩
  have HK6 := Lib.hid (HK5.out.drewN k6)
  generalize w5.drewN k6 = w6 at *
  clear HK5
  go_wp2_with fail
  refine (bits_any _ _ 1 F5 _ false w6 HK6.out.feed (by decide)).mono ?_
  rw [HV.out.2.2.2.2.2.2]
  rintro e w' ⟨rfl, k7, rfl⟩
  have HK7 := Lib.hid (HK6.out.drewN k7)
  generalize w6.drewN k7 = w7 at *
  clear HK6
  go_wp2_with fail
  refine (used_any _ _ 1 F5 _ false w7 HK7.out.feed (by decide) (by omega)).mono ?_
  rw [HV.out.2.2.2.2.2.2]
  rintro e w' ⟨rfl, k8, rfl⟩
  have HK8 := Lib.hid (HK7.out.drewN k8)
  generalize w7.drewN k8 = w8 at *
  clear HK7
  go_wp2_with fail
  refine (skip_any 6 _ _ 1 F5 _ false w8 HK8.out.feed (by decide)).mono ?_
  rw [HV.out.2.2.2.2.1, HV.out.2.2.2.2.2.1]
  rintro e w9 ⟨rfl, hd⟩
  obtain ⟨F9, hk9, -, -⟩ := HK8.out.done hd
  have HK9 := Lib.hid hk9
  clear hk9 hd HK8
  go_wp2_with fail
  refine (ended_any _ _ 1 F9 _ false w9 HK9.out.feed).mono ?_
  rintro e w' ⟨rfl, rfl⟩
  go_wp2_with fail
  go_ret
  exact ⟨rfl, HK9.out.below⟩
end Go.Proofs.Ytihcebpkbkgmcaa.FeedC
