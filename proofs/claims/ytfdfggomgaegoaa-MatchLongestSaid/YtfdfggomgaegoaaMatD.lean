/-
  bytes.Clone; New; literals.
-/
import Derived.Test.YtfdfggomgaegoaaMatC
import Derived.RegionTactic
import Derived.Deep.RegionWith
namespace Go.Proofs.Ytfdfggomgaegoaa.MatC
open Go.RowKit Go.My MatMath

set_option maxHeartbeats 1000000 in
theorem clone_any (a : Option Addr) (len cap : Nat) (l : List UInt8) (w : World) (hb : Bytes w a len cap l) (hl : len ≤ 100000000000) :
    Calls Try.prog 19 #[.slice a len cap] w (OwnRet 5 w l) := by
  have hle := hb.len_eq
  have HBY := Lib.hid hb
  cases a with
  | none =>
    obtain ⟨rfl, rfl⟩ := hb.nil rfl
    obtain rfl : l = [] := List.length_eq_zero_iff.1 hle
    clear hb hle
    have hq := fun W => Lib.run_eql_slice_nil_nil (P := Try.prog) W 0 0 Try.underlying22
    go_enter Try.func19, Try.ntmps19
    go_wp2_with fail
    go_ret
    exact ⟨.slice none 0 0, rfl, World.ownsRow_nil _ _ _ _, Below.refl _ _⟩
  | some ad =>
    have HL := Lib.hid hle
    clear hb hle
    have hq := fun W => Lib.run_eql_slice_some_nil (P := Try.prog) W ad len cap Try.underlying22
    go_enter Try.func19, Try.ntmps19
    go_wp2_with (at_builtin; refine wpList_append_lie (by rfl) (.tmp 5) (.tmp 6) 22 rfl w.heap.size 5 Try.underlying22 RefC.info5 (.slice (some ⟨w.heap.size, 0, none⟩) 0 0) [] rfl (Own.empty 5 w (Nat.le_refl _)) (some ad) len cap l rfl (HBY.out.below (Nat.le_refl _) ((Below.refl _ w).alloc (Nat.le_refl _) _)) (by simp; omega) (by simp) ?_)
    intro a1 c1 w1 hown hgrow hnext
    have HO := Lib.hid hown
    have HB : Hid (Below w.heap.size w w1) := Lib.hid (grown_below (Own.empty 5 w (Nat.le_refl _)) ((Below.refl _ _).alloc (Nat.le_refl _) _) hgrow (by simp))
    clear hown hgrow hnext
    go_wp2_with fail
    go_ret
    exact ⟨.slice a1 len c1, rfl, by simpa using HO.out, HB.out⟩

theorem own_ret {w w' : World} {l : List UInt8} {e : Ending} (h : OwnRet 5 w l e w') : ∃ a c, e = .returned (.slice a l.length c) ∧ Bytes w' a l.length c l ∧ Below w.heap.size w w' := by
  obtain ⟨v, rfl, h1, h2⟩ := h
  obtain ⟨a, c, rfl, h3⟩ := h1.bytes
  exact ⟨a, c, rfl, h3, h2⟩
set_option maxRecDepth 100000 in
set_option maxHeartbeats 4000000 in
theorem new_any {a : Option Addr} {cap : Nat} {s : List UInt8} (store : Bool) (chain : Int) (lazy : Bool) (good : Int) (wide : Bool) (w : World) (hb : Bytes w a s.length cap s) (hlen : s.length ≤ 1000000000) :
    Calls Try.prog 10 #[.slice a s.length cap, pv store chain lazy good, .bool wide] w fun e w' => ∃ g, e = .returned (.pointer (some ⟨g, 0, none⟩)) ∧ Fnd w' g store chain lazy good wide s ∧ Below w.heap.size w w' ∧ w.heap.size ≤ g := by
  obtain ⟨W, hW⟩ : ∃ W, W = w.alloc (.cells #[.bool store, .int .i64 chain, .bool lazy, .int .i64 good] 24) := ⟨_, rfl⟩
  have hbl : Below w.heap.size w W := by rw [hW]; exact (Below.refl _ w).alloc (Nat.le_refl _) _
  have HBW := Lib.hid (hb.below (Nat.le_refl _) hbl)
  have HK : Hid (Blk W w.heap.size 24 #[.bool store, .int .i64 chain, .bool lazy, .int .i64 good]) := Lib.hid (by rw [hW]; exact Blk.new _ _ _)
  have HBL := Lib.hid hbl
  have HW := Lib.hid hW
  clear hb hW hbl
  unfold pv
  go_enter Try.func10, Try.ntmps10
  go_wp2_with fail
  rw [← HW.out]
  have hPL := HK.out.lt
  have p0 : W.cell? ⟨w.heap.size, 0, none⟩ = some (.bool store) := HK.out.cell 0
  have p1 : W.cell? ⟨w.heap.size, 1, none⟩ = some (.int .i64 chain) := HK.out.cell 1
  have p2 : W.cell? ⟨w.heap.size, 2, none⟩ = some (.bool lazy) := HK.out.cell 2
  have p3 : W.cell? ⟨w.heap.size, 3, none⟩ = some (.int .i64 good) := HK.out.cell 3
  go_region_with (first
    | (go_at_call 19; refine (clone_any a s.length cap s _ (HBW.out.below (Nat.le_refl _) (Below.refl _ _).drew) (by omega)).mono ?_; intro e w3 h3; obtain ⟨a3, c3, rfl, hb3, hl3⟩ := own_ret h3; have q0 : w3.cell? ⟨w.heap.size, 0, none⟩ = some (.bool store) := (hl3.cell (p := ⟨w.heap.size, 0, none⟩) hPL).trans p0; have q1 : w3.cell? ⟨w.heap.size, 1, none⟩ = some (.int .i64 chain) := (hl3.cell (p := ⟨w.heap.size, 1, none⟩) hPL).trans p1; have q2 : w3.cell? ⟨w.heap.size, 2, none⟩ = some (.bool lazy) := (hl3.cell (p := ⟨w.heap.size, 2, none⟩) hPL).trans p2; have q3 : w3.cell? ⟨w.heap.size, 3, none⟩ = some (.int .i64 good) := (hl3.cell (p := ⟨w.heap.size, 3, none⟩) hPL).trans p3)
    | (go_at_call 18; refine (finder_any store chain lazy good wide _ (by assumption) hlen).mono ?_; rintro e w4 ⟨g, rfl, hf, hb4, hg⟩))
  all_goals
    have hX : Below W.heap.size W w3 := ((Below.refl _ W).drew).trans hl3
    have hY := HBL.out.trans (hX.mono HBL.out.size)
    have hZ := hY.trans (hb4.mono hY.size)
    have hg' : w.heap.size ≤ g := Nat.le_trans hY.size hg
    clear q0 q1 q2 q3 p0 p1 p2 p3 hl3 hX hY h3 hb3
    go_wp2_with fail
    go_ret
    exact ⟨g, rfl, hf, hZ, hg'⟩
end Go.Proofs.Ytfdfggomgaegoaa.MatC
