/-
  A Finder in memory; finder, New.
-/
import Derived.Test.YtfdfggomgaegoaaMatB
import Derived.Test.YtfdfggomgaegoaaLater
namespace Go.Proofs.Ytfdfggomgaegoaa.MatC
open Go.RowKit Go.My MatMath

/-- A Finder's eight cells. -/
def fc (a : Option Addr) (n c : Nat) (store : Bool) (chain : Int) (lazy : Bool) (good : Int) (wide : Bool) (G m : Nat) : Array Value :=
  #[.slice a n c, .bool store, .int .i64 chain, .bool lazy, .int .i64 good, .int .i64 ((long_ wide : Nat) : Int), .int .i64 ((far_ wide : Nat) : Int), .slice (some ⟨G, 0, none⟩) m m]
/-- Block g holds a Finder for s. -/
structure Fnd (w : World) (g : Nat) (store : Bool) (chain : Int) (lazy : Bool) (good : Int) (wide : Bool) (s : List UInt8) : Prop where
  ex : ∃ a c G, Blk w g 49 (fc a s.length c store chain lazy good wide G (s.length - 2)) ∧ Bytes w a s.length c s ∧ RowIn w (some ⟨G, 0, none⟩) (s.length - 2) (s.length - 2) (bks s (far_ wide) (s.length - 2) (s.length - 2))
  len : s.length ≤ 1000000000
theorem Fnd.below {w w' : World} {g : Nat} {store : Bool} {chain : Int} {lazy : Bool} {good : Int} {wide : Bool} {s : List UInt8} (h : Fnd w g store chain lazy good wide s) (hb : Below w.heap.size w w') : Fnd w' g store chain lazy good wide s := by
  obtain ⟨⟨a, c, G, h1, h2, h3⟩, h4⟩ := h
  exact ⟨⟨a, c, G, (hb.block g h1.lt).trans h1, h2.below (Nat.le_refl _) hb, h3.below (Nat.le_refl _) hb⟩, h4⟩
theorem Fnd.lt {w : World} {g : Nat} {store : Bool} {chain : Int} {lazy : Bool} {good : Int} {wide : Bool} {s : List UInt8} (h : Fnd w g store chain lazy good wide s) : g < w.heap.size := by
  obtain ⟨⟨a, c, G, h1, _, _⟩, _⟩ := h
  exact h1.lt
/-- A Plan by value. -/
def pv (store : Bool) (chain : Int) (lazy : Bool) (good : Int) : Value := .agg #[.bool store, .int .i64 chain, .bool lazy, .int .i64 good]

set_option maxRecDepth 100000 in
set_option maxHeartbeats 4000000 in
theorem finder_any {a : Option Addr} {cap : Nat} {s : List UInt8} (store : Bool) (chain : Int) (lazy : Bool) (good : Int) (wide : Bool) (w : World) (hb : Bytes w a s.length cap s) (hlen : s.length ≤ 1000000000) :
    Calls Try.prog 18 #[.slice a s.length cap, pv store chain lazy good, .bool wide] w fun e w' => ∃ g, e = .returned (.pointer (some ⟨g, 0, none⟩)) ∧ Fnd w' g store chain lazy good wide s ∧ Below w.heap.size w w' ∧ w.heap.size ≤ g := by
  have HB := Lib.hid hb
  clear hb
  unfold pv
  cases wide
  · go_enter Try.func18, Try.ntmps18
    go_wp2_with fail
    obtain ⟨W, hW⟩ : ∃ W, W = (w.alloc (.cells #[.bool store, .int .i64 chain, .bool lazy, .int .i64 good] 24)).alloc (.cells #[.slice a s.length cap, .bool store, .int .i64 chain, .bool lazy, .int .i64 good, .int .i64 258, .int .i64 32768, .slice none 0 0] 49) := ⟨_, rfl⟩
    rw [← hW]
    have hbl : Below w.heap.size w W := by rw [hW]; exact ((Below.refl _ w).alloc (Nat.le_refl _) _).alloc (by simp) _
    have HK : Hid (Blk W (w.heap.size + 1) 49 #[.slice a s.length cap, .bool store, .int .i64 chain, .bool lazy, .int .i64 good, .int .i64 258, .int .i64 32768, .slice none 0 0]) := Lib.hid (by
      rw [hW]
      have := Blk.new (w.alloc (.cells #[.bool store, .int .i64 chain, .bool lazy, .int .i64 good] 24)) 49 #[.slice a s.length cap, .bool store, .int .i64 chain, .bool lazy, .int .i64 good, .int .i64 258, .int .i64 32768, .slice none 0 0]
      rw [World.size_alloc] at this
      exact this)
    have hsz : W.heap.size = w.heap.size + 2 := by rw [hW]; simp
    have HBW := Lib.hid (HB.out.below (Nat.le_refl _) hbl)
    have HBL := Lib.hid hbl
    clear hW hbl
    refine (chains_any W HBW.out hlen 32768).mono ?_
    rintro e w3 ⟨G, rfl, hown, hb3⟩
    have HK3 : Hid (Blk w3 (w.heap.size + 1) 49 #[.slice a s.length cap, .bool store, .int .i64 chain, .bool lazy, .int .i64 good, .int .i64 258, .int .i64 32768, .slice none 0 0]) := Lib.hid ((hb3.block _ (by omega)).trans HK.out)
    have HO := Lib.hid hown
    have HL3 := Lib.hid (HBL.out.trans (hb3.mono HBL.out.size))
    have hGg : G ≠ w.heap.size + 1 := by have := hown.base G rfl; omega
    have x7 : w3.cell? ⟨w.heap.size + 1, 7, none⟩ = some (.slice none 0 0) := HK3.out.cell 7
    have y7 : w3.frozen? ⟨w.heap.size + 1, 7, none⟩ = false := HK3.out.frozen 7
    have hg2 : w.heap.size ≤ w.heap.size + 1 := by omega
    generalize w.heap.size + 1 = g at *
    clear HBW HK hown hb3
    go_wp2_with fail
    go_ret
    refine ⟨g, rfl, ⟨⟨a, cap, G, HK3.out.set_ 7 _, ?_, ?_⟩, hlen⟩, HL3.out.setCell hg2 _, hg2⟩
    · exact HB.out.below (Nat.le_refl _) (HL3.out.setCell hg2 _)
    · exact (HO.out.only (Only.setCell (S := fun k => k = g) (Only.refl _ w3) (p := ⟨g, 7, none⟩) (fun _ => rfl) _) (fun k hk => by simp only [Value.ownBlock, Option.some.injEq] at hk; subst hk; exact hGg)).rowIn (bks_len _ _ _ _)
  · go_enter Try.func18, Try.ntmps18
    go_wp2_with fail
    obtain ⟨W, hW⟩ : ∃ W, W = (w.alloc (.cells #[.bool store, .int .i64 chain, .bool lazy, .int .i64 good] 24)).alloc (.cells #[.slice a s.length cap, .bool store, .int .i64 chain, .bool lazy, .int .i64 good, .int .i64 65538, .int .i64 65536, .slice none 0 0] 49) := ⟨_, rfl⟩
    rw [← hW]
    have hbl : Below w.heap.size w W := by rw [hW]; exact ((Below.refl _ w).alloc (Nat.le_refl _) _).alloc (by simp) _
    have HK : Hid (Blk W (w.heap.size + 1) 49 #[.slice a s.length cap, .bool store, .int .i64 chain, .bool lazy, .int .i64 good, .int .i64 65538, .int .i64 65536, .slice none 0 0]) := Lib.hid (by
      rw [hW]
      have := Blk.new (w.alloc (.cells #[.bool store, .int .i64 chain, .bool lazy, .int .i64 good] 24)) 49 #[.slice a s.length cap, .bool store, .int .i64 chain, .bool lazy, .int .i64 good, .int .i64 65538, .int .i64 65536, .slice none 0 0]
      rw [World.size_alloc] at this
      exact this)
    have hsz : W.heap.size = w.heap.size + 2 := by rw [hW]; simp
    have HBW := Lib.hid (HB.out.below (Nat.le_refl _) hbl)
    have HBL := Lib.hid hbl
    clear hW hbl
    refine (chains_any W HBW.out hlen 65536).mono ?_
    rintro e w3 ⟨G, rfl, hown, hb3⟩
    have HK3 : Hid (Blk w3 (w.heap.size + 1) 49 #[.slice a s.length cap, .bool store, .int .i64 chain, .bool lazy, .int .i64 good, .int .i64 65538, .int .i64 65536, .slice none 0 0]) := Lib.hid ((hb3.block _ (by omega)).trans HK.out)
    have HO := Lib.hid hown
    have HL3 := Lib.hid (HBL.out.trans (hb3.mono HBL.out.size))
    have hGg : G ≠ w.heap.size + 1 := by have := hown.base G rfl; omega
    have x7 : w3.cell? ⟨w.heap.size + 1, 7, none⟩ = some (.slice none 0 0) := HK3.out.cell 7
    have y7 : w3.frozen? ⟨w.heap.size + 1, 7, none⟩ = false := HK3.out.frozen 7
    have hg2 : w.heap.size ≤ w.heap.size + 1 := by omega
    generalize w.heap.size + 1 = g at *
    clear HBW HK hown hb3
    go_wp2_with fail
    go_ret
    refine ⟨g, rfl, ⟨⟨a, cap, G, HK3.out.set_ 7 _, ?_, ?_⟩, hlen⟩, HL3.out.setCell hg2 _, hg2⟩
    · exact HB.out.below (Nat.le_refl _) (HL3.out.setCell hg2 _)
    · exact (HO.out.only (Only.setCell (S := fun k => k = g) (Only.refl _ w3) (p := ⟨g, 7, none⟩) (fun _ => rfl) _) (fun k hk => by simp only [Value.ownBlock, Option.some.injEq] at hk; subst hk; exact hGg)).rowIn (bks_len _ _ _ _)
end Go.Proofs.Ytfdfggomgaegoaa.MatC
