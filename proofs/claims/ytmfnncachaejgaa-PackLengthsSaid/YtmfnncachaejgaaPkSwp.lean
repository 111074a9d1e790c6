/-
  slices.swapRangeCmpFunc, rotateCmpFunc in the worlds of a sort.
-/
import Derived.Test.YtmfnncachaejgaaPkCmp
import Derived.BigRegion
import Derived.Sort.LotA
namespace Go.Proofs.Ytmfnncachaejgaa.PkC
open Go.Shelf Go.RowKit Go.Lib Go.Sort Go.My

/-- i exchanges. -/
def swpN {α : Type} [Inhabited α] (d : Array α) (a b : Nat) : Nat → Array α
  | 0 => d
  | i + 1 => swp (swpN d a b i) (a + i) (b + i)
section
variable {α : Type} [Inhabited α]
theorem swpN_size (d : Array α) (a b i : Nat) : (swpN d a b i).size = d.size := by
  induction i with
  | zero => rfl
  | succ i ih => rw [swpN, size_swp, ih]
theorem swpN_get (d : Array α) (a b : Nat) (i : Nat) (h1 : a + i ≤ b) (h2 : b + i ≤ d.size) (k : Nat) :
    (swpN d a b i)[k]! = if a ≤ k ∧ k < a + i then d[b + (k - a)]! else if b ≤ k ∧ k < b + i then d[a + (k - b)]! else d[k]! := by
  induction i generalizing k with
  | zero => rw [swpN, if_neg (by omega), if_neg (by omega)]
  | succ i ih =>
    rw [swpN]
    have g := fun k => ih (by omega) (by omega) k
    have hs := swpN_size d a b i
    by_cases e1 : k = a + i
    · subst e1
      rw [swp_left _ _ _ (by omega) (by omega), g, if_neg (by omega), if_neg (by omega), if_pos (by omega)]
      congr 1; omega
    · by_cases e2 : k = b + i
      · subst e2
        rw [swp_right _ _ _ (by omega), g, if_neg (by omega), if_neg (by omega), if_neg (by omega), if_pos (by omega)]
        congr 1; omega
      · rw [swp_other _ _ _ _ e1 e2, g]
        by_cases c1 : a ≤ k ∧ k < a + i
        · rw [if_pos c1, if_pos (show a ≤ k ∧ k < a + (i + 1) by omega)]
        · rw [if_neg c1, if_neg (show ¬ (a ≤ k ∧ k < a + (i + 1)) by omega)]
          by_cases c2 : b ≤ k ∧ k < b + i
          · rw [if_pos c2, if_pos (show b ≤ k ∧ k < b + (i + 1) by omega)]
          · rw [if_neg c2, if_neg (show ¬ (b ≤ k ∧ k < b + (i + 1)) by omega)]
theorem swpN_perm (d : Array α) (a b lo hi : Nat) (h0 : lo ≤ a) (h3 : hi ≤ d.size) (i : Nat) (h1 : a + i ≤ hi) (h2 : b + i ≤ hi) (h4 : lo ≤ b) : PermIn lo hi d (swpN d a b i) := by
  induction i with
  | zero => exact permIn_refl _ _ _
  | succ i ih =>
    rw [swpN]
    exact permIn_trans _ _ _ _ _ (ih (by omega) (by omega)) (swp_permIn _ _ _ _ _ (by omega) (by omega) (by omega) (by omega) (by rw [swpN_size]; exact h3))
end

section
variable {n : Nat} [NeZero n] {key : Fin n → Int} {w0 : World} {blk off cap : Nat} {d0 : Array (Fin n)}
/-- What the walk wants of two places. -/
theorem two_cells {w : World} {d : Array (Fin n)} (R : Row1 encF w0 blk off d0) (hs : d0.size = d.size) (S : SW encF w0 blk off d w) (i j : Nat) (hi : i < d.size) (hj : j < d.size) :
    w.cell? ⟨blk, off + i, none⟩ = some (encF d[i]!) ∧ w.cell? ⟨blk, off + j, none⟩ = some (encF d[j]!) ∧ w.frozen? ⟨blk, off + i, none⟩ = false ∧ w.frozen? ⟨blk, off + j, none⟩ = false ∧ (∃ u, (w.setCell ⟨blk, off + i, none⟩ (encF d[j]!)).cell? ⟨blk, off + j, none⟩ = some u) ∧
    SW encF w0 blk off (swp d i j) ((w.setCell ⟨blk, off + i, none⟩ (encF d[j]!)).setCell ⟨blk, off + j, none⟩ (encF d[i]!)).drew :=
  ⟨S.c1 R hs.symm i hi, S.c1 R hs.symm j hj, S.f1 R hs.symm i hi, S.f1 R hs.symm j hj, S.c2 R hs.symm i j hi hj _, S.swapped R i j hi hj⟩
set_option maxRecDepth 100000 in
set_option maxHeartbeats 4000000 in
theorem swaprange_any {w : World} {a b m : Nat} {v : Value} {d : Array (Fin n)} (R : Row1 encF w0 blk off d0) (hs : d0.size = d.size) (S : SW encF w0 blk off d w) (h1 : a + m ≤ d.size) (h2 : b + m ≤ d.size) (hsz : d.size < 4611686018427387904) :
    Calls Try.prog 31 #[.slice (some ⟨blk, off, none⟩) d.size cap, .int .i64 a, .int .i64 b, .int .i64 m, v] w fun e w' => e = .returned (.tuple #[]) ∧ SW encF w0 blk off (swpN d a b m) w' := by
  have HR := Lib.hid R
  have HS := Lib.hid S
  clear R S
  go_enter Try.func31, Try.ntmps31
  go_wp2_with fail
  go_loopw [10] (fun s wr => ∃ i : Nat, s = .int .i64 (i : Int) ∧ i ≤ m ∧ Hid (SW encF w0 blk off (swpN d a b i) wr)) (fun s _ => m - (intOf s).toNat)
  case atStart => exact ⟨0, rfl, Nat.zero_le _, HS⟩
  case round =>
    clear HS
    obtain ⟨i, rfl, him, HS⟩ := hrel
    by_cases hlt : i < m
    · have hlti : (i : Int) < (m : Int) := by omega
      have hsz2 := swpN_size d a b i
      obtain ⟨c1, c2, f1, f2, ⟨u, c3⟩, S2⟩ := two_cells HR.out (by omega) HS.out (a + i) (b + i) (by omega) (by omega)
      have HS2 : Hid (SW encF w0 blk off (swpN d a b (i + 1)) _) := Lib.hid S2
      clear S2 HS
      obtain ⟨x, hx⟩ : ∃ x, x = (((swpN d a b i)[a + i]!).val : Int) := ⟨_, rfl⟩
      obtain ⟨y, hy⟩ : ∃ y, y = (((swpN d a b i)[b + i]!).val : Int) := ⟨_, rfl⟩
      unfold encF at c1 c2 c3
      rw [← hx] at c1
      rw [← hy] at c2 c3
      have HS2 : Hid (SW encF w0 blk off (swpN d a b (i + 1)) ((wr.setCell ⟨blk, off + (a + i), none⟩ (.int .i64 y)).setCell ⟨blk, off + (b + i), none⟩ (.int .i64 x)).drew) := by rw [hx, hy]; exact HS2
      clear hx hy hsz2
      obtain ⟨p, hp⟩ : ∃ p, p = a + i := ⟨_, rfl⟩
      obtain ⟨q, hq⟩ : ∃ q, q = b + i := ⟨_, rfl⟩
      have e1 : IntKind.i64.wrap ((a : Int) + (i : Int)) = (p : Int) := by rw [IntKind.wrap_i64]; omega
      have e2 : IntKind.i64.wrap ((b : Int) + (i : Int)) = (q : Int) := by rw [IntKind.wrap_i64]; omega
      have b1 : (p : Int) < (d.size : Int) := by omega
      have b2 : (q : Int) < (d.size : Int) := by omega
      rw [← hp] at c1 c3 f1 HS2
      rw [← hq] at c2 c3 f2 HS2
      clear hp hq
      go_wp2_with fail
      go_big_region
      clear c1 c2 c3 f1 f2
      generalize ((wr.setCell ⟨blk, off + p, none⟩ (.int .i64 y)).setCell ⟨blk, off + q, none⟩ (.int .i64 x)).drew = w3 at *
      go_wp2_with fail
      go_roundw
      case measure => simp [intOf]; omega
      case rel => exact ⟨i + 1, by simp, by omega, HS2⟩
    · obtain rfl : i = m := by omega
      go_wp2_with fail
      go_end0
      exact ⟨rfl, HS.out⟩
end
end Go.Proofs.Ytmfnncachaejgaa.PkC
