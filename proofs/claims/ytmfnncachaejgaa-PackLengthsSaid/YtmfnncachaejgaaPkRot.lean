/-
  slices.rotateCmpFunc in the worlds of a sort.
-/
import Derived.Test.YtmfnncachaejgaaPkSwp
namespace Go.Proofs.Ytmfnncachaejgaa.PkC
open Go.Shelf Go.RowKit Go.Lib Go.Sort Go.My

/-- d' is d with [a, m) and [m, b) exchanged. -/
structure Rot {α : Type} [Inhabited α] (d d' : Array α) (a m b : Nat) : Prop where
  perm : PermIn a b d d'
  left : ∀ k, k < b - m → d'[a + k]! = d[m + k]!
  right : ∀ k, k < m - a → d'[a + (b - m) + k]! = d[a + k]!
section
variable {α : Type} [Inhabited α]
theorem perm_wide {d d' : Array α} {a b a' b' : Nat} (h : PermIn a b d d') (h1 : a' ≤ a) (h2 : b ≤ b') (h3 : b' ≤ d.size) : PermIn a' b' d d' := permIn_mono _ _ _ _ _ _ h1 h2 h3 h
theorem rot_same (e : Array α) (m i : Nat) (hi : i ≤ m) (hs : m + i ≤ e.size) : Rot e (swpN e (m - i) m i) (m - i) m (m + i) := by
  have g := swpN_get e (m - i) m i (by omega) hs
  refine ⟨swpN_perm _ _ _ _ _ (Nat.le_refl _) hs _ (by omega) (by omega) (by omega), fun k hk => ?_, fun k hk => ?_⟩
  · rw [g, if_pos (by omega)]; congr 1; omega
  · rw [g, if_neg (by omega), if_pos (by omega)]; congr 1; omega
theorem rot_left (e d' : Array α) (m i j : Nat) (hij : j < i) (hi : i ≤ m) (hs : m + j ≤ e.size) (h : Rot (swpN e (m - i) m j) d' (m - (i - j)) m (m + j)) : Rot e d' (m - i) m (m + j) := by
  have g := swpN_get e (m - i) m j (by omega) hs
  have hz := swpN_size e (m - i) m j
  obtain ⟨hp, hl, hr⟩ := h
  have e1 : m + j - m = j := by omega
  have e2 : m - (m - (i - j)) = i - j := by omega
  rw [e1] at hl hr
  rw [e2] at hr
  refine ⟨permIn_trans _ _ _ _ _ (swpN_perm _ _ _ _ _ (Nat.le_refl _) hs _ (by omega) (by omega) (by omega)) (perm_wide hp (by omega) (Nat.le_refl _) (by rw [hz]; exact hs)), fun k hk => ?_, fun k hk => ?_⟩
  · rw [hp.2.1 _ (by omega), g, if_pos (by omega)]; congr 1; omega
  · by_cases hk2 : k < j
    · have := hl k hk2
      rw [show m - i + (m + j - m) + k = m - (i - j) + k by omega, this, g, if_neg (by omega), if_pos (by omega)]; congr 1; omega
    · have := hr (k - j) (by omega)
      rw [show m - i + (m + j - m) + k = m - (i - j) + j + (k - j) by omega, this, g, if_neg (by omega), if_neg (by omega)]; congr 1; omega
theorem rot_right (e d' : Array α) (m i j : Nat) (hij : i < j) (hi : i ≤ m) (hs : m + j ≤ e.size) (h : Rot (swpN e (m - i) (m + j - i) i) d' (m - i) m (m + (j - i))) : Rot e d' (m - i) m (m + j) := by
  have g := swpN_get e (m - i) (m + j - i) i (by omega) (by omega)
  have hz := swpN_size e (m - i) (m + j - i) i
  obtain ⟨hp, hl, hr⟩ := h
  have e1 : m + (j - i) - m = j - i := by omega
  have e2 : m - (m - i) = i := by omega
  rw [e1] at hl hr
  rw [e2] at hr
  refine ⟨permIn_trans _ _ _ _ _ (swpN_perm _ _ _ _ _ (Nat.le_refl _) hs _ (by omega) (by omega) (by omega)) (perm_wide hp (by omega) (by omega) (by rw [hz]; exact hs)), fun k hk => ?_, fun k hk => ?_⟩
  · by_cases hk2 : k < j - i
    · rw [hl k hk2, g, if_neg (by omega), if_neg (by omega)]
    · have := hr (k - (j - i)) (by omega)
      rw [show m - i + k = m - i + (j - i) + (k - (j - i)) by omega, this, g, if_pos (by omega)]; congr 1; omega
  · rw [hp.2.1 _ (by omega), g, if_neg (by omega), if_pos (by omega)]; congr 1; omega
end

section
variable {n : Nat} [NeZero n] {key : Fin n → Int} {w0 : World} {blk off cap : Nat} {d0 : Array (Fin n)}
set_option maxRecDepth 100000 in
set_option maxHeartbeats 4000000 in
theorem rotate_any {w : World} {a m b : Nat} {v : Value} {d : Array (Fin n)} (R : Row1 encF w0 blk off d0) (hs : d0.size = d.size) (S : SW encF w0 blk off d w) (h1 : a < m) (h2 : m < b) (h3 : b ≤ d.size) (hsz : d.size < 2305843009213693952) :
    Calls Try.prog 30 #[.slice (some ⟨blk, off, none⟩) d.size cap, .int .i64 a, .int .i64 m, .int .i64 b, v] w fun e w' => e = .returned (.tuple #[]) ∧ ∃ d', d'.size = d.size ∧ Rot d d' a m b ∧ SW encF w0 blk off d' w' := by
  have HR := Lib.hid R
  have HS := Lib.hid S
  clear R S
  obtain ⟨N, hN⟩ : ∃ N, N = d.size := ⟨_, rfl⟩
  have hsw : ∀ (e : Array (Fin n)) (x y q : Nat) (w : World), e.size = N → SW encF w0 blk off e w → x + q ≤ N → y + q ≤ N →
      Calls Try.prog 31 #[.slice (some ⟨blk, off, none⟩) N cap, .int .i64 x, .int .i64 y, .int .i64 q, v] w fun e' w' => e' = .returned (.tuple #[]) ∧ SW encF w0 blk off (swpN e x y q) w' := by
    intro e x y q w he hS hx hy
    have := swaprange_any (cap := cap) (v := v) (a := x) (b := y) (m := q) HR.out (by omega) hS (by omega) (by omega) (by omega)
    rw [he] at this
    exact this
  have HW := Lib.hid hsw
  clear hsw
  rw [← hN]
  have h3N : b ≤ N := by omega
  have hszN : N < 2305843009213693952 := by omega
  have HN := Lib.hid hN
  clear hs hN h3 hsz
  have k1 : IntKind.i64.wrap ((m : Int) - (a : Int)) = ((m - a : Nat) : Int) := by rw [IntKind.wrap_i64]; omega
  have k2 : IntKind.i64.wrap ((b : Int) - (m : Int)) = ((b - m : Nat) : Int) := by rw [IntKind.wrap_i64]; omega
  obtain ⟨i0, hi0⟩ : ∃ i0, i0 = m - a := ⟨_, rfl⟩
  obtain ⟨j0, hj0⟩ : ∃ j0, j0 = b - m := ⟨_, rfl⟩
  rw [← hi0] at k1
  rw [← hj0] at k2
  have HI0 := Lib.hid hi0
  have HJ0 := Lib.hid hj0
  clear hi0 hj0
  go_enter Try.func30, Try.ntmps30
  go_wp2_with fail
  clear k1 k2
  go_loopw [10, 11] (fun s t wr => ∃ (i j : Nat) (e : Array (Fin n)), s = .int .i64 (i : Int) ∧ t = .int .i64 (j : Int) ∧ 1 ≤ i ∧ 1 ≤ j ∧ i ≤ m ∧ m + j ≤ N ∧ e.size = N ∧ Hid (SW encF w0 blk off e wr) ∧ Hid (∀ d', d'.size = N → Rot e d' (m - i) m (m + j) → Rot d d' a m b)) (fun s t _ => (intOf s).toNat + (intOf t).toNat)
  case atStart =>
    have := HI0.out
    have := HJ0.out
    exact ⟨i0, j0, d, rfl, rfl, by omega, by omega, by omega, by omega, HN.out.symm, HS, Lib.hid (fun d' _ h => by rw [show m - i0 = a by omega, show m + j0 = b by omega] at h; exact h)⟩
  case round =>
    clear HS HI0 HJ0
    obtain ⟨i, j, e, rfl, rfl, hi1, hj1, him, hjm, he, HS, HG⟩ := hrel
    have hz : e.size = N := he
    have HE := Lib.hid he
    clear he hz
    have hmi : m - i + i = m := by omega
    have f1 : IntKind.i64.wrap ((m : Int) - (i : Int)) = ((m - i : Nat) : Int) := by rw [IntKind.wrap_i64]; omega
    by_cases heq : i = j
    · subst heq
      have hc := HW.out e (m - i) m i wr HE.out HS.out (by omega) (by omega)
      have hg := rot_same e m i him (by rw [HE.out]; exact hjm)
      have HF : Hid ((swpN e (m - i) m i).size = N ∧ Rot d (swpN e (m - i) m i) a m b) := Lib.hid ⟨by rw [swpN_size]; exact HE.out, HG.out _ (by rw [swpN_size]; exact HE.out) hg⟩
      clear hg HG HS
      generalize swpN e (m - i) m i = e2 at *
      generalize hq : m - i = q at *
      have HC := Lib.hid hc
      clear hc
      go_wp2_with fail
      refine HC.out.mono ?_
      rintro e3 w3 ⟨rfl, hS3⟩
      have HS3 := Lib.hid hS3
      clear hS3 HC
      go_wp2_with fail
      go_end0
      exact ⟨rfl, e2, HF.out.1, HF.out.2, HS3.out⟩
    · have hne : ((i : Int) == (j : Int)) = false := by simp; omega
      by_cases hlt : j < i
      · have hlti : (j : Int) < (i : Int) := by omega
        have hc := HW.out e (m - i) m j wr HE.out HS.out (by omega) (by omega)
        have HF : Hid ((swpN e (m - i) m j).size = N ∧ ∀ d', d'.size = N → Rot (swpN e (m - i) m j) d' (m - (i - j)) m (m + j) → Rot d d' a m b) :=
          Lib.hid ⟨by rw [swpN_size]; exact HE.out, fun d' hd h => HG.out d' hd (rot_left e d' m i j hlt him (by rw [HE.out]; exact hjm) h)⟩
        clear HG HS
        generalize swpN e (m - i) m j = e2 at *
        generalize hq : m - i = q at *
        have HC := Lib.hid hc
        clear hc
        go_wp2_with fail
        refine HC.out.mono ?_
        rintro e3 w3 ⟨rfl, hS3⟩
        have HS3 := Lib.hid hS3
        clear hS3 HC
        have f2 : IntKind.i64.wrap ((i : Int) - (j : Int)) = ((i - j : Nat) : Int) := by rw [IntKind.wrap_i64]; omega
        go_wp2_with fail
        go_roundw
        case measure => simp [intOf]; omega
        case rel => exact ⟨i - j, j, e2, rfl, rfl, by omega, hj1, by omega, hjm, HF.out.1, HS3, Lib.hid HF.out.2⟩
      · have hlti : ¬ (j : Int) < (i : Int) := by omega
        have hc := HW.out e (m - i) (m + j - i) i wr HE.out HS.out (by omega) (by omega)
        have HF : Hid ((swpN e (m - i) (m + j - i) i).size = N ∧ ∀ d', d'.size = N → Rot (swpN e (m - i) (m + j - i) i) d' (m - i) m (m + (j - i)) → Rot d d' a m b) :=
          Lib.hid ⟨by rw [swpN_size]; exact HE.out, fun d' hd h => HG.out d' hd (rot_right e d' m i j (by omega) him (by rw [HE.out]; exact hjm) h)⟩
        clear HG HS
        generalize swpN e (m - i) (m + j - i) i = e2 at *
        have f3 : IntKind.i64.wrap ((m : Int) + (j : Int)) = ((m + j : Nat) : Int) := by rw [IntKind.wrap_i64]; omega
        have f4 : IntKind.i64.wrap (((m + j : Nat) : Int) - (i : Int)) = ((m + j - i : Nat) : Int) := by rw [IntKind.wrap_i64]; omega
        have HC := Lib.hid hc
        clear hc
        generalize hq2 : m + j - i = q2 at *
        generalize hq3 : m + j = q3 at *
        generalize hq : m - i = q at *
        go_wp2_with fail
        refine HC.out.mono ?_
        rintro e3 w3 ⟨rfl, hS3⟩
        have HS3 := Lib.hid hS3
        clear hS3 HC
        have f2 : IntKind.i64.wrap ((j : Int) - (i : Int)) = ((j - i : Nat) : Int) := by rw [IntKind.wrap_i64]; omega
        go_wp2_with fail
        go_roundw
        case measure => simp [intOf]; omega
        case rel => exact ⟨i, j - i, e2, rfl, rfl, hi1, by omega, him, by omega, HF.out.1, HS3, Lib.hid (by rw [hq]; exact HF.out.2)⟩
end
end Go.Proofs.Ytmfnncachaejgaa.PkC
