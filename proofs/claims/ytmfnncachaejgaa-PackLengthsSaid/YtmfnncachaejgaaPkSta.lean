/-
  slices.stableCmpFunc, SortStableFunc: a row of symbols rises behind them.
-/
import Derived.Test.YtmfnncachaejgaaPkSy2
namespace Go.Proofs.Ytmfnncachaejgaa.PkC
open Go.Shelf Go.RowKit Go.Lib Go.Sort Go.My

section
variable {n : Nat} [NeZero n] {key : Fin n → Int} {w0 : World} {blk off cap c cb co len cc : Nat} {d0 : Array (Fin n)}
/-- Each block of B places rises, as far as place u. -/
def Bs (key : Fin n → Int) (B u : Nat) (d : Array (Fin n)) : Prop := ∀ q, Rise key (q * B) (min (q * B + B) u) d
theorem bs_zero (B : Nat) (d : Array (Fin n)) : Bs key B 0 d := fun q i j h1 h2 h3 => by omega
theorem bs_more (B k e : Nat) (d d' : Array (Fin n)) (h : Bs key B (k * B) d) (hp : PermIn (k * B) e d d') (hr : Rise key (k * B) e d') (he : e ≤ k * B + B) : Bs key B e d' := by
  intro q i j h1 h2 h3
  rcases Nat.lt_trichotomy q k with hq | rfl | hq
  · have : (q + 1) * B ≤ k * B := Nat.mul_le_mul_right B hq
    rw [Nat.add_mul, Nat.one_mul] at this
    rw [hp.2.1 i (.inl (by omega)), hp.2.1 j (.inl (by omega))]
    exact h q i j h1 h2 (by omega)
  · exact hr i j h1 h2 (by omega)
  · have : (k + 1) * B ≤ q * B := Nat.mul_le_mul_right B hq
    rw [Nat.add_mul, Nat.one_mul] at this
    omega
/-- The blocks from place a on. -/
def Rest (key : Fin n → Int) (B a N : Nat) (d : Array (Fin n)) : Prop := ∀ q, a ≤ q * B → Rise key (q * B) (min (q * B + B) N) d
theorem Rest.next {B a b N : Nat} {d d' : Array (Fin n)} (h : Rest key B a N d) (hab : a ≤ b) (hp : PermIn a b d d') : Rest key B b N d' := by
  intro q hq i j h1 h2 h3
  rw [hp.2.1 i (.inr (by omega)), hp.2.1 j (.inr (by omega))]
  exact h q (by omega) i j h1 h2 h3
theorem Rest.left {B k N : Nat} {d : Array (Fin n)} (h : Rest key B (k * (2 * B)) N d) : Rise key (k * (2 * B)) (min (k * (2 * B) + B) N) d := by
  have := h (k * 2) (by rw [Nat.mul_assoc]; exact Nat.le_refl _)
  rwa [Nat.mul_assoc] at this
theorem Rest.right {B k N : Nat} {d : Array (Fin n)} (h : Rest key B (k * (2 * B)) N d) : Rise key (k * (2 * B) + B) (min (k * (2 * B) + B + B) N) d := by
  have := h (k * 2 + 1) (by rw [Nat.add_mul, Nat.mul_assoc]; omega)
  rwa [Nat.add_mul, Nat.mul_assoc, Nat.one_mul] at this

theorem ins_sorts (d : Array (Fin n)) (a b : Nat) (hab : a ≤ b) (hb : b ≤ d.size) : PermIn a b d (Sort.insertionSort (ltOf (cf key)) d a b) ∧ Rise key a b (Sort.insertionSort (ltOf (cf key)) d a b) := by
  obtain ⟨h1, h2⟩ := insertionSort_holds (swo_key key) d a b hab hb
  exact ⟨h1, (rise_iff _ _ _).1 h2⟩

set_option maxRecDepth 100000 in
set_option maxHeartbeats 8000000 in
theorem stable_any {N : Nat} {w : World} {d : Array (Fin n)} (hB : Box w0 blk c cb co len cc n key) (R : Row1 encF w0 blk off d0) (hs : d0.size = N) (hd : d.size = N) (S : SW encF w0 blk off d w) (hsz : N < 576460752303423488) :
    Calls Try.prog 25 #[.slice (some ⟨blk, off, none⟩) N cap, .int .i64 N, .func (.func 20) #[] #[.pointer (some ⟨c, 0, none⟩)]] w fun e w' => e = .returned (.tuple #[]) ∧ ∃ d', d'.size = N ∧ PermIn 0 N d d' ∧ Rise key 0 N d' ∧ SW encF w0 blk off d' w' := by
  have HS := Lib.hid S
  have HD := Lib.hid hd
  have hins : ∀ (a b : Nat) (d : Array (Fin n)) (w : World), d.size = N → SW encF w0 blk off d w → a ≤ b → b ≤ N →
      Calls Try.prog 28 #[.slice (some ⟨blk, off, none⟩) N cap, .int .i64 a, .int .i64 b, .func (.func 20) #[] #[.pointer (some ⟨c, 0, none⟩)]] w fun e w' => e = .returned (.tuple #[]) ∧ ∃ d', d'.size = N ∧ PermIn a b d d' ∧ Rise key a b d' ∧ SW encF w0 blk off d' w' := by
    intro a b d w h1 h2 h3 h4
    have h := ins_any (cap := cap) (a := a) (b := b) hB R (by omega) h2 h3 (by omega) (by omega)
    rw [h1] at h
    refine h.mono ?_
    rintro e w' ⟨rfl, h5⟩
    have h6 := ins_sorts (key := key) d a b h3 (by omega)
    exact ⟨rfl, _, by rw [h6.1.1]; exact h1, h6.1, h6.2, h5⟩
  have HINS := Lib.hid hins
  have HSYM := Lib.hid (fun s a m b d w => sym_any (cap := cap) hB R hs (by omega) s a m b d w)
  clear hB R S hs hd hins
  go_enter Try.func25, Try.ntmps25
  go_wp2_with fail
  go_loopw [7, 8] (fun s t wr => ∃ (k a b : Nat) (e : Array (Fin n)), s = .int .i64 (a : Int) ∧ t = .int .i64 (b : Int) ∧ a ≤ N ∧ b = a + 20 ∧ Hid (a = k * 20 ∧ e.size = N ∧ PermIn 0 N d e ∧ Bs key 20 a e ∧ SW encF w0 blk off e wr)) (fun s _ _ => N - (intOf s).toNat)
  case atStart => exact ⟨0, 0, 20, d, rfl, rfl, Nat.zero_le _, rfl, Lib.hid ⟨rfl, HD.out, permIn_refl _ _ _, bs_zero _ _, HS.out⟩⟩
  case round =>
    clear HS
    obtain ⟨k, a, b, e, rfl, rfl, haN, hba, HQ⟩ := hrel
    by_cases hle : b ≤ N
    · as_aux_lemma =>
      have hlei : (b : Int) ≤ (N : Int) := by omega
      have HC := Lib.hid (HINS.out a b e wr HQ.out.2.1 HQ.out.2.2.2.2 (by omega) hle)
      have HBA := Lib.hid hba
      clear hba hle
      go_wp2_with fail
      refine HC.out.mono ?_
      rintro e3 w3 ⟨rfl, d1, hz, hr, hr2, hS⟩
      have HG : Hid (b = (k + 1) * 20 ∧ d1.size = N ∧ PermIn 0 N d d1 ∧ Bs key 20 b d1 ∧ SW encF w0 blk off d1 w3) := Lib.hid (by
        have h1 := HQ.out
        have h2 := HBA.out
        refine ⟨by omega, hz, permIn_trans _ _ _ _ _ h1.2.2.1 (perm_wide hr (Nat.zero_le _) (by omega) (by omega)), ?_, hS⟩
        rw [h1.1] at hr hr2
        have h3 := h1.2.2.2.1
        rw [h1.1] at h3
        exact bs_more 20 k b e d1 h3 hr hr2 (by omega))
      have e1 : IntKind.i64.wrap ((b : Int) + 20) = ((b + 20 : Nat) : Int) := by rw [IntKind.wrap_i64]; omega
      clear hz hr hr2 hS HC HQ
      go_wp2_with fail
      go_roundw
      case measure => have := HBA.out; simp [intOf]; omega
      case rel => exact ⟨k + 1, b, b + 20, d1, rfl, by simp, by omega, rfl, HG⟩
    · have hlei : ¬ (b : Int) ≤ (N : Int) := by omega
      have HC := Lib.hid (HINS.out a N e wr HQ.out.2.1 HQ.out.2.2.2.2 haN (Nat.le_refl _))
      have HBA : Hid (N ≤ a + 20) := Lib.hid (by omega)
      clear hba hle
      go_wp2_with fail
      refine HC.out.mono ?_
      rintro e3 w3 ⟨rfl, d1, hz, hr, hr2, hS⟩
      have HG : Hid (d1.size = N ∧ PermIn 0 N d d1 ∧ Bs key 20 N d1 ∧ SW encF w0 blk off d1 w3) := Lib.hid (by
        have h1 := HQ.out
        have h2 := HBA.out
        refine ⟨hz, permIn_trans _ _ _ _ _ h1.2.2.1 (perm_wide hr (Nat.zero_le _) (Nat.le_refl _) (by omega)), ?_, hS⟩
        rw [h1.1] at hr hr2
        have h3 := h1.2.2.2.1
        rw [h1.1] at h3
        exact bs_more 20 k N e d1 h3 hr hr2 (by omega))
      clear hz hr hr2 hS HC HQ HBA haN hlei HINS
      go_wp2_with fail
      go_loopw [6, 7, 8, 9] (fun s6 s7 s8 s9 wr => ∃ (B : Nat) (e : Array (Fin n)), s6 = .int .i64 (B : Int) ∧ 1 ≤ B ∧ B < 1152921504606846976 ∧ Hid (e.size = N ∧ PermIn 0 N d e ∧ Bs key B N e ∧ SW encF w0 blk off e wr)) (fun s _ _ _ _ => N - (intOf s).toNat)
      case atStart => exact ⟨20, d1, rfl, by omega, by omega, HG⟩
      case round =>
        clear HG
        obtain ⟨B, e, rfl, hB1, hB2, HQ⟩ := hrel
        by_cases hlt : B < N
        · have hlti : (B : Int) < (N : Int) := by omega
          obtain ⟨B2, hB2e⟩ : ∃ B2, B2 = 2 * B := ⟨_, rfl⟩
          have e1 : IntKind.i64.wrap (2 * (B : Int)) = (B2 : Int) := by rw [IntKind.wrap_i64]; omega
          have e2 : IntKind.i64.wrap ((B : Int) * 2) = (B2 : Int) := by rw [IntKind.wrap_i64]; omega
          have HBB := Lib.hid hB2e
          have hbb : B < B2 ∧ B2 < 1152921504606846976 := by omega
          obtain ⟨hbb1, hbb2⟩ := hbb
          clear hB2e hB2
          go_wp2_with fail
          go_loopw [7, 8] (fun s t wr => ∃ (k a b : Nat) (e : Array (Fin n)), s = .int .i64 (a : Int) ∧ t = .int .i64 (b : Int) ∧ a ≤ N ∧ b = a + B2 ∧ Hid (a = k * (2 * B) ∧ e.size = N ∧ PermIn 0 N d e ∧ Bs key (2 * B) a e ∧ Rest key B a N e ∧ SW encF w0 blk off e wr)) (fun s _ _ => N - (intOf s).toNat)
          case atStart => exact ⟨0, 0, B2, e, rfl, rfl, Nat.zero_le _, by omega, Lib.hid ⟨by omega, HQ.out.1, HQ.out.2.1, bs_zero _ _, fun q _ => HQ.out.2.2.1 q, HQ.out.2.2.2⟩⟩
          case round =>
            clear HQ
            obtain ⟨k, a, b, e, rfl, rfl, haN, hba, HQ⟩ := hrel
            obtain ⟨m, hm⟩ : ∃ m, m = a + B := ⟨_, rfl⟩
            have e3 : IntKind.i64.wrap ((a : Int) + (B : Int)) = (m : Int) := by rw [IntKind.wrap_i64]; omega
            by_cases hle : b ≤ N
            · as_aux_lemma =>
              have hlei : (b : Int) ≤ (N : Int) := by omega
              have e4 : IntKind.i64.wrap ((b : Int) + (B2 : Int)) = ((b + B2 : Nat) : Int) := by rw [IntKind.wrap_i64]; omega
              have HC := Lib.hid (HSYM.out (b - a) a m b e wr (Nat.le_refl _) HQ.out.2.1 HQ.out.2.2.2.2.2 (by omega) (by omega) hle
                (by have h := HQ.out.2.2.2.2.1; rw [HQ.out.1] at h; have h := h.left; rw [← HQ.out.1, ← hm] at h; exact h.sub (Nat.le_refl _) (by omega))
                (by have h := HQ.out.2.2.2.2.1; rw [HQ.out.1] at h; have h := h.right; rw [← HQ.out.1, ← hm] at h; have := HBB.out; exact h.sub (Nat.le_refl _) (by omega)))
              have HBA := Lib.hid hba
              clear hba hle hm
              unfold SymDone at HC
              go_wp2_with fail
              refine HC.out.mono ?_
              rintro e3 w3 ⟨rfl, d1, hz, hr, hr2, hS⟩
              have HG : Hid (b = (k + 1) * (2 * B) ∧ d1.size = N ∧ PermIn 0 N d d1 ∧ Bs key (2 * B) b d1 ∧ Rest key B b N d1 ∧ SW encF w0 blk off d1 w3) := Lib.hid (by
                have h1 := HQ.out
                have h2 := HBA.out
                have h4 := HBB.out
                refine ⟨by rw [Nat.add_mul, ← h1.1]; omega, hz, permIn_trans _ _ _ _ _ h1.2.2.1 (perm_wide hr (Nat.zero_le _) (by omega) (by omega)), ?_, h1.2.2.2.2.1.next (by omega) hr, hS⟩
                rw [h1.1] at hr hr2
                have h3 := h1.2.2.2.1
                rw [h1.1] at h3
                exact bs_more (2 * B) k b _ d1 h3 hr hr2 (by omega))
              clear hz hr hr2 hS HC HQ
              go_wp2_with fail
              go_roundw
              case measure => have := HBA.out; simp [intOf]; omega
              case rel => exact ⟨k + 1, b, b + B2, d1, rfl, by simp, by omega, rfl, HG⟩
            · have hlei : ¬ (b : Int) ≤ (N : Int) := by omega
              by_cases hmN : m < N
              · as_aux_lemma =>
                have hmNi : (m : Int) < (N : Int) := by omega
                have HC := Lib.hid (HSYM.out (N - a) a m N e wr (Nat.le_refl _) HQ.out.2.1 HQ.out.2.2.2.2.2 (by omega) (by omega) (Nat.le_refl _)
                  (by have h := HQ.out.2.2.2.2.1; rw [HQ.out.1] at h; have h := h.left; rw [← HQ.out.1, ← hm] at h; exact h.sub (Nat.le_refl _) (by omega))
                  (by have h := HQ.out.2.2.2.2.1; rw [HQ.out.1] at h; have h := h.right; rw [← HQ.out.1, ← hm] at h; have := HBB.out; exact h.sub (Nat.le_refl _) (by omega)))
                have HBA : Hid (N ≤ a + B2) := Lib.hid (by omega)
                clear hba hle hm
                unfold SymDone at HC
                go_wp2_with fail
                refine HC.out.mono ?_
                rintro e3 w3 ⟨rfl, d1, hz, hr, hr2, hS⟩
                have HG : Hid (d1.size = N ∧ PermIn 0 N d d1 ∧ Bs key B2 N d1 ∧ SW encF w0 blk off d1 w3) := Lib.hid (by
                  have h1 := HQ.out
                  have h2 := HBA.out
                  have h4 := HBB.out
                  refine ⟨hz, permIn_trans _ _ _ _ _ h1.2.2.1 (perm_wide hr (Nat.zero_le _) (by omega) (by omega)), ?_, hS⟩
                  rw [h1.1] at hr hr2
                  have h3 := h1.2.2.2.1
                  rw [h1.1] at h3
                  rw [h4]
                  exact bs_more (2 * B) k N _ d1 h3 hr hr2 (by omega))
                clear hz hr hr2 hS HC HQ
                go_wp2_with fail
                go_roundw
                case measure => simp [intOf]; omega
                case rel => exact ⟨B2, d1, rfl, by omega, by omega, HG⟩
              · as_aux_lemma =>
                have hmNi : ¬ (m : Int) < (N : Int) := by omega
                have HG : Hid (e.size = N ∧ PermIn 0 N d e ∧ Bs key B2 N e ∧ SW encF w0 blk off e wr) := Lib.hid (by
                  have h1 := HQ.out
                  have h4 := HBB.out
                  refine ⟨h1.2.1, h1.2.2.1, ?_, h1.2.2.2.2.2⟩
                  have h := h1.2.2.2.2.1
                  rw [h1.1] at h
                  have h := h.left
                  have h3 := h1.2.2.2.1
                  rw [h1.1] at h3
                  rw [h4]
                  exact bs_more (2 * B) k N _ _ h3 (permIn_refl _ _ _) (h.sub (Nat.le_refl _) (by rw [← h1.1]; omega)) (by rw [← h1.1]; omega))
                clear hba hle hm HQ
                go_wp2_with fail
                go_roundw
                case measure => simp [intOf]; omega
                case rel => exact ⟨B2, e, rfl, by omega, by omega, HG⟩
        · have hlti : ¬ (B : Int) < (N : Int) := by omega
          have HF : Hid (Rise key 0 N e) := Lib.hid (by
            have h := HQ.out.2.2.1 0
            rw [Nat.zero_mul] at h
            exact h.sub (Nat.le_refl _) (by omega))
          clear hlt
          go_wp2_with fail
          go_end0
          exact ⟨rfl, e, HQ.out.1, HQ.out.2.1, HF.out, HQ.out.2.2.2⟩

/-- A world of a sort, from the world ahead of it. -/
theorem sort_any {N : Nat} {w : World} {d : Array (Fin n)} (hB : Box w blk c cb co len cc n key) (hH : Holds encF w blk off d) (hb : blk < w.heap.size) (hd : d.size = N) (hsz : N < 576460752303423488) :
    Calls Try.prog 19 #[.slice (some ⟨blk, off, none⟩) N cap, .func (.func 20) #[] #[.pointer (some ⟨c, 0, none⟩)]] w fun e w' => e = .returned (.tuple #[]) ∧ ∃ d', d'.size = N ∧ PermIn 0 N d d' ∧ Rise key 0 N d' ∧ ∃ m os, w' = sortWorld encF w blk off m d' os := by
  have HC := Lib.hid (stable_any (cap := cap) hB ⟨one_enc n, hH, hb⟩ hd hd (SW.start hH) hsz)
  clear hB hH hd
  go_enter Try.func19, Try.ntmps19
  go_wp2_with fail
  refine HC.out.mono ?_
  rintro e w' ⟨rfl, d', h1, h2, h3, h4⟩
  have HG := Lib.hid (And.intro h1 (And.intro h2 (And.intro h3 h4)))
  clear h1 h2 h3 h4 HC
  go_wp2_with fail
  go_end0
  exact ⟨rfl, d', HG.out⟩
end

/-- .. of a row of nothing. -/
theorem ins_none (p : Option Addr) (cap : Nat) (v : Value) (w : World) : Calls Try.prog 28 #[.slice p 0 cap, .int .i64 0, .int .i64 0, v] w fun e w' => e = .returned (.tuple #[]) ∧ w = w' := by
  go_enter Try.func28, Try.ntmps28
  go_wp2_with fail
  go_loopw [8] (fun s wr => s = .int .i64 1 ∧ wr = w) (fun _ _ => 0)
  case atStart => exact ⟨rfl, rfl⟩
  case round =>
    obtain ⟨rfl, rfl⟩ := hrel
    go_wp2_with fail
    go_end0
    exact ⟨rfl, rfl⟩
theorem stable_none (p : Option Addr) (cap : Nat) (v : Value) (w : World) : Calls Try.prog 25 #[.slice p 0 cap, .int .i64 0, v] w fun e w' => e = .returned (.tuple #[]) ∧ w = w' := by
  have HC := Lib.hid (fun w => ins_none p cap v w)
  go_enter Try.func25, Try.ntmps25
  go_wp2_with fail
  go_loopw [7, 8] (fun s t wr => s = .int .i64 0 ∧ t = .int .i64 20 ∧ wr = w) (fun _ _ _ => 0)
  case atStart => exact ⟨rfl, rfl, rfl⟩
  case round =>
    obtain ⟨rfl, rfl, rfl⟩ := hrel
    go_wp2_with fail
    refine (HC.out _).mono ?_
    rintro e w' ⟨rfl, rfl⟩
    go_wp2_with fail
    go_loopw [6] (fun s wr2 => s = .int .i64 20 ∧ wr2 = wr) (fun _ _ => 0)
    case atStart => exact ⟨rfl, rfl⟩
    case round =>
      obtain ⟨rfl, rfl⟩ := hrel
      go_wp2_with fail
      go_end0
      exact ⟨rfl, rfl⟩
theorem sort_none (p : Option Addr) (cap : Nat) (v : Value) (w : World) : Calls Try.prog 19 #[.slice p 0 cap, v] w fun e w' => e = .returned (.tuple #[]) ∧ w = w' := by
  have HC := Lib.hid (fun w => stable_none p cap v w)
  go_enter Try.func19, Try.ntmps19
  go_wp2_with fail
  refine (HC.out _).mono ?_
  rintro e w' ⟨rfl, rfl⟩
  go_wp2_with fail
  go_end0
  exact ⟨rfl, rfl⟩
end Go.Proofs.Ytmfnncachaejgaa.PkC
