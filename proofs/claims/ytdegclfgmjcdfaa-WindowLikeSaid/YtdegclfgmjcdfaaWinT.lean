/-
  told of law 10.
-/
import Derived.Test.YtdegclfgmjcdfaaWinC
namespace Go.Proofs.Ytdegclfgmjcdfaa.WinC
open Go.RowKit Go.My WinMath

section
variable {B g S : Nat} {r : Option Nat} {w w' : World} {all : List UInt8}
/-- A window that was made behind w0, and nothing elder turned. -/
structure Kept (w0 w : World) (g S : Nat) (r : Option Nat) (all : List UInt8) : Prop where
  wn : Wn w0.heap.size w g S r all
  below : Below w0.heap.size w0 w
theorem Kept.left {w0 : World} (h : Kept w0 w g S r all) {all' : List UInt8} (hp : Left w0.heap.size g S r w all' w') : ∃ r', Kept w0 w' g S r' all' ∧ Only (Fp g r) w w' := by
  obtain ⟨r', h1, h2, h3⟩ := hp
  exact ⟨r', ⟨h1, h.below.trans (h2.below h.below.size h.wn.fp)⟩, h2⟩
theorem Kept.later {w0 : World} (h : Kept w0 w g S r all) (hb : Below w.heap.size w w') : Kept w0 w' g S r all := ⟨h.wn.below hb, h.below.trans (hb.mono h.below.size)⟩
end
theorem new_k (S : Nat) (w0 : World) (h1 : 0 < S) (h2 : S ≤ 65536) : Calls Try.prog 7 #[.int .i64 (S : Int)] w0 fun e w' =>
    e = .returned (.tuple #[.pointer (some ⟨w0.heap.size, 0, none⟩), .int .i64 0]) ∧ Hid (Kept w0 w' w0.heap.size S none []) :=
  (new_ok S w0 h1 h2).mono fun _ _ ⟨he, h3, h4⟩ => ⟨he, Lib.hid ⟨h3, h4⟩⟩
theorem put_k (c : UInt8) (w0 w : World) (g S : Nat) (r : Option Nat) (all : List UInt8) (h : Hid (Kept w0 w g S r all)) (hl : all.length ≤ 100000000000) :
    Calls Try.prog 9 #[.pointer (some ⟨g, 0, none⟩), .int .u8 (c.toNat : Int)] w fun e w' => e = .returned (.tuple #[]) ∧ ∃ r', Hid (Kept w0 w' g S r' (all ++ [c])) ∧ Hid (Only (Fp g r) w w') :=
  (put_any c _ g S r all w h.out.wn hl).mono fun _ _ ⟨he, hp⟩ => ⟨he, let ⟨r', h1, h2⟩ := h.out.left hp; ⟨r', Lib.hid h1, Lib.hid h2⟩⟩
/-- Copy, whatever is asked. -/
def copyCode (len S : Nat) (d n : Int) : Nat := if n < 0 ∨ 65538 < n then 1 else if d < 1 ∨ ((min len S : Nat) : Int) < d then 2 else 0
theorem copy_k (d n : Nat) (w0 w : World) (g S : Nat) (r : Option Nat) (all : List UInt8) (h : Hid (Kept w0 w g S r all)) (hn : n ≤ 65538) (h1 : 1 ≤ d) (h2 : d ≤ min all.length S) (hl : all.length ≤ 10000000000) :
    Calls Try.prog 10 #[.pointer (some ⟨g, 0, none⟩), .int .i64 (d : Int), .int .i64 (n : Int)] w fun e w' =>
      ∃ b r', e = .returned (.tuple #[.slice (some ⟨b, 0, none⟩) n n, .int .i64 0]) ∧ Hid (Own 5 w.heap.size w' (.slice (some ⟨b, 0, none⟩) n n) (copy all d n)) ∧ Hid (Kept w0 w' g S r' (grow all d n)) ∧ Hid (Only (Fp g r) w w') :=
  (copy_ok d n _ g S r all w h.out.wn hn h1 h2 hl).mono fun _ _ ⟨b, he, ho, hp⟩ => let ⟨r', k1, k2⟩ := h.out.left hp; ⟨b, r', he, Lib.hid ho, Lib.hid k1, Lib.hid k2⟩

theorem conv {X : World} {B : Nat} {b : Addr} {n c : Nat} {l : List UInt8} (h : Own 5 B X (.slice (some b) n c) l) : (convert 28 9 (.slice (some b) n c)).run Try.prog X = .ok (.string ⟨l.toArray⟩) X := by
  obtain ⟨a', c', h1, h2⟩ := h.bytes
  simp only [Value.slice.injEq] at h1
  obtain ⟨rfl, rfl, rfl⟩ := h1
  exact run_string_bytes X 28 9 5 Try.underlying28 Try.underlying5 Try.underlying9 h2

theorem told_copy : copy [97, 98] 2 5 = [97, 98, 97, 98, 97] ∧ grow [97, 98] 2 5 = [97, 98, 97, 98, 97, 98, 97] := by decide +kernel

set_option maxRecDepth 100000 in
set_option maxHeartbeats 4000000 in
theorem told_any (w : World) : Calls Try.prog 8 #[] w fun e w' => e = .returned (.bool true) ∧ Below w.heap.size w w' := by
  go_enter Try.func8, Try.ntmps8
  go_wp2_with fail
  refine (new_k 4 w (by omega) (by omega)).mono ?_
  rintro e w1 ⟨rfl, H1⟩
  go_wp2_with fail
  refine (new_bad 0 w1 (by omega)).mono ?_
  rintro e w' ⟨rfl, rfl⟩
  go_wp2_with fail
  refine (put_k 97 w w1 _ 4 _ [] H1 (by simp)).mono ?_
  rintro e w2 ⟨rfl, r2, H2, -⟩
  clear H1
  go_wp2_with fail
  refine (put_k 98 w w2 _ 4 _ _ H2 (by simp)).mono ?_
  rintro e w3 ⟨rfl, r3, H3, -⟩
  clear H2
  go_wp2_with fail
  refine (copy_k 2 5 w w3 _ 4 _ _ H3 (by omega) (by omega) (by decide) (by simp)).mono ?_
  rw [show ([] ++ [(97 : UInt8)] ++ [98] : List UInt8) = [97, 98] from rfl, told_copy.1, told_copy.2]
  rintro e w4 ⟨b, r4, rfl, HO4, H4, -⟩
  clear H3
  go_wp2_with fail
  refine (copy_form 5 1 _ _ 4 _ _ w4 H4.out.wn (by omega) (by omega) (by right; decide)).mono ?_
  rintro e w' ⟨rfl, rfl⟩
  have hcv := conv HO4.out
  go_wp2_with fail
  refine (have_any _ _ 4 _ _ w4 H4.out.wn).mono ?_
  rintro e w' ⟨rfl, rfl⟩
  go_wp2_with fail
  refine (total_any _ _ 4 _ _ w4 H4.out.wn).mono ?_
  rintro e w' ⟨rfl, rfl⟩
  go_wp2_with fail
  go_ret
  exact ⟨rfl, H4.out.below⟩
end Go.Proofs.Ytdegclfgmjcdfaa.WinC
