import Derived.Test.YtbjjkhlebdaoaaaGreatDoorMgS
import Derived.Test.YtbjjkhlebdaoaaaGreatDoorMgK
import Derived.Test.YtbjjkhlebdaoaaaGreatDoorMgN

section
/-
  slices.stableCmpFunc, SortStableFunc: a row of symbols rises behind them.
-/
namespace Go.Proofs.YtbjjkhlebdaoaaaGreatDoor.PkC
open Go.Shelf Go.RowKit Go.Lib Go.Sort Go.My

section
variable {n : Nat} [NeZero n] {raw key : Fin n → Int} {w0 : World} {blk off cap c cb co len cc : Nat} {d0 : Array (Fin n)}
/-- Each block of B places rises, as far as place u. -/
def Bs (key : Fin n → Int) (B u : Nat) (d : Array (Fin n)) : Prop := ∀ q, Rise key (q * B) (min (q * B + B) u) d
theorem bs_zero (B : Nat) (d : Array (Fin n)) : Bs key B 0 d := fun q i j h1 h2 h3 => by omega
theorem bs_more (B k e : Nat) (d d' : Array (Fin n)) (h : Bs key B (k * B) d) (hp : PermIn (k * B) e d d') (hr : Rise key (k * B) e d') (he : e ≤ k * B + B) : Bs key B e d' := by
  intro q i j h1 h2 h3
  rcases Nat.lt_trichotomy q k with hq | rfl | hq
  · have : (q + 1) * B ≤ k * B := Nat.mul_le_mul_right B hq
    rw [Nat.add_mul, Nat.one_mul] at this
    rw [hp.2.1 i (.inl (by omega)), hp.2.1 j (.inl (by omega))]
    exact h q i j h1 h2 (by omega)
  · exact hr i j h1 h2 (by omega)
  · have : (k + 1) * B ≤ q * B := Nat.mul_le_mul_right B hq
    rw [Nat.add_mul, Nat.one_mul] at this
    omega
/-- The blocks from place a on. -/
def Rest (key : Fin n → Int) (B a N : Nat) (d : Array (Fin n)) : Prop := ∀ q, a ≤ q * B → Rise key (q * B) (min (q * B + B) N) d
theorem Rest.next {B a b N : Nat} {d d' : Array (Fin n)} (h : Rest key B a N d) (hab : a ≤ b) (hp : PermIn a b d d') : Rest key B b N d' := by
  intro q hq i j h1 h2 h3
  rw [hp.2.1 i (.inr (by omega)), hp.2.1 j (.inr (by omega))]
  exact h q (by omega) i j h1 h2 h3
theorem Rest.left {B k N : Nat} {d : Array (Fin n)} (h : Rest key B (k * (2 * B)) N d) : Rise key (k * (2 * B)) (min (k * (2 * B) + B) N) d := by
  have := h (k * 2) (by rw [Nat.mul_assoc]; exact Nat.le_refl _)
  rwa [Nat.mul_assoc] at this
theorem Rest.right {B k N : Nat} {d : Array (Fin n)} (h : Rest key B (k * (2 * B)) N d) : Rise key (k * (2 * B) + B) (min (k * (2 * B) + B + B) N) d := by
  have := h (k * 2 + 1) (by rw [Nat.add_mul, Nat.mul_assoc]; omega)
  rwa [Nat.add_mul, Nat.mul_assoc, Nat.one_mul] at this

/-- From place a on all stands as it came. -/
def Inc (a b : Nat) (d : Array (Fin n)) : Prop := ∀ i j, a ≤ i → i < j → j < b → d[i]!.val < d[j]!.val
theorem ins_perm (lt : Fin n → Fin n → Bool) (a b : Nat) : ∀ (j : Nat) (d : Array (Fin n)), a ≤ j → j < b → b ≤ d.size → PermIn a b d (Sort.insInner lt a j d)
  | 0, d, _, _, _ => permIn_refl _ _ _
  | j + 1, d, h1, h2, h3 => by
    unfold Sort.insInner
    split
    · rename_i hc
      simp only [Bool.and_eq_true, decide_eq_true_eq] at hc
      exact permIn_trans _ _ _ _ _ (swp_permIn _ _ _ _ _ (by omega) (by omega) (by omega) (by omega) h3) (ins_perm lt a b j _ (by omega) (by omega) (by rw [size_swp]; exact h3))
    · exact permIn_refl _ _ _
theorem ins_inner (hT : Tie raw key) (a : Nat) : ∀ (j : Nat) (d : Array (Fin n)), j < d.size → (∀ i, a ≤ i → i < j → d[i]!.val < d[j]!.val) → Sort.insInner (ltOf (cf raw)) a j d = Sort.insInner (ltOf (cf key)) a j d
  | 0, d, _, _ => rfl
  | j + 1, d, hj, h => by
    unfold Sort.insInner
    by_cases hja : j + 1 > a
    · have e : ltOf (cf raw) d[j + 1]! d[j]! = ltOf (cf key) d[j + 1]! d[j]! := by
        rw [lt_key, lt_key]
        exact decide_eq_decide.2 (hT _ _ (h j (by omega) (by omega)))
      rw [e]
      split
      · refine ins_inner hT a j (swp d (j + 1) j) (by rw [size_swp]; omega) fun i h1 h2 => ?_
        rw [swp_other _ _ _ _ (by omega) (by omega), swp_right _ _ _ (by omega)]
        exact h i h1 (by omega)
      · rfl
    · have e : decide (j + 1 > a) = false := decide_eq_false hja
      simp only [e, Bool.false_and, Bool.false_eq_true, if_false]
theorem ins_same (hT : Tie raw key) (a b : Nat) : ∀ (k i : Nat) (d : Array (Fin n)), b - i = k → a < i → b ≤ d.size → Sep a i b d → Inc i b d → Sort.insOuter (ltOf (cf raw)) a b i d = Sort.insOuter (ltOf (cf key)) a b i d
  | 0, i, d, hk, _, _, _, _ => by
    rw [Sort.insOuter, if_neg (by omega), Sort.insOuter, if_neg (by omega)]
  | k + 1, i, d, hk, hai, hb, hS, hI => by
    have hlt : i < b := by omega
    rw [Sort.insOuter, if_pos hlt]
    conv => rhs; rw [Sort.insOuter, if_pos hlt]
    rw [ins_inner hT a i d (by omega) fun j h1 h2 => hS j i h1 h2 (Nat.le_refl _) hlt]
    have hp : PermIn a (i + 1) d (Sort.insInner (ltOf (cf key)) a i d) := ins_perm _ a (i + 1) i d (by omega) (by omega) (by omega)
    refine ins_same hT a b k (i + 1) _ (by omega) (by omega) (by rw [hp.1]; exact hb) (fun x y h1 h2 h3 h4 => ?_) fun x y h1 h2 h3 => ?_
    · rw [hp.2.1 y (.inr h3)]
      refine permIn_all _ _ a (i + 1) (fun z => z.val < d[y]!.val) (by omega) hp (fun x h1 h2 => ?_) x h1 h2
      by_cases e : x = i
      · rw [e]; exact hI _ _ (Nat.le_refl _) (by omega) h4
      · exact hS _ _ h1 (by omega) (by omega) h4
    · rw [hp.2.1 x (.inr h1), hp.2.1 y (.inr (by omega))]
      exact hI _ _ (by omega) h2 h3
theorem ins_sorts (hT : Tie raw key) (d : Array (Fin n)) (a b : Nat) (hab : a ≤ b) (hb : b ≤ d.size) (hI : Inc a b d) : PermIn a b d (Sort.insertionSort (ltOf (cf raw)) d a b) ∧ Rise key a b (Sort.insertionSort (ltOf (cf raw)) d a b) := by
  have e : Sort.insertionSort (ltOf (cf raw)) d a b = Sort.insertionSort (ltOf (cf key)) d a b := by
    unfold Sort.insertionSort
    refine ins_same hT a b _ (a + 1) d rfl (by omega) hb (fun x y h1 h2 h3 h4 => hI x y h1 (by omega) h4) fun x y h1 h2 h3 => hI x y (by omega) h2 h3
  rw [e]
  obtain ⟨h1, h2⟩ := insertionSort_holds (swo_key key) d a b hab hb
  exact ⟨h1, (rise_iff _ _ _).1 h2⟩
/-- Of the places below N: each multiple of B parts what stood ahead from what stood behind. -/
def Gr (B N : Nat) (d : Array (Fin n)) : Prop := ∀ q i j, i < q * B → q * B ≤ j → j < N → d[i]!.val < d[j]!.val
theorem Gr.perm {B N lo hi k : Nat} {d d' : Array (Fin n)} (h : Gr B N d) (hp : PermIn lo hi d d') (hl : lo = k * B) (hh : hi ≤ lo + B) (hN : hi ≤ N) (hs : N ≤ d.size) : Gr B N d' := by
  intro q i j h1 h2 h3
  have side : hi ≤ q * B ∨ q * B ≤ lo := by
    rcases Nat.lt_or_ge k q with hq | hq
    · left
      have : (k + 1) * B ≤ q * B := Nat.mul_le_mul_right B hq
      rw [Nat.add_mul, Nat.one_mul] at this
      omega
    · right; rw [hl]; exact Nat.mul_le_mul_right B hq
  have left : ∀ i, i < q * B → ∀ j, q * B ≤ j → j < N → d'[i]!.val < d[j]!.val := by
    intro i h1
    by_cases c : lo ≤ i ∧ i < hi
    · rcases side with s | s
      · exact permIn_all d d' lo hi (fun z => ∀ j, q * B ≤ j → j < N → z.val < d[j]!.val) (by omega) hp (fun x q1 q2 j h2 h3 => h q x j (by omega) h2 h3) i c.1 c.2
      · omega
    · rw [hp.2.1 i (by omega)]; exact fun j h2 h3 => h q i j h1 h2 h3
  by_cases c : lo ≤ j ∧ j < hi
  · rcases side with s | s
    · omega
    · exact permIn_all d d' lo hi (fun z => d'[i]!.val < z.val) (by omega) hp (fun x q1 q2 => left i h1 x (by omega) (by omega)) j c.1 c.2
  · rw [hp.2.1 j (by omega)]; exact left i h1 j h2 h3
theorem Gr.two {B N : Nat} {d : Array (Fin n)} (h : Gr B N d) : Gr (2 * B) N d := fun q i j h1 h2 h3 => h (q * 2) i j (by rw [Nat.mul_assoc]; exact h1) (by rw [Nat.mul_assoc]; exact h2) h3
/-- .. each multiple from place a on. -/
def GrF (B a N : Nat) (d : Array (Fin n)) : Prop := ∀ q i j, a ≤ q * B → i < q * B → q * B ≤ j → j < N → d[i]!.val < d[j]!.val
theorem GrF.next {B a b N : Nat} {d d' : Array (Fin n)} (h : GrF B a N d) (hab : a ≤ b) (hp : PermIn a b d d') (hb : b ≤ d.size) : GrF B b N d' := by
  intro q i j h0 h1 h2 h3
  rw [hp.2.1 j (.inr (by omega))]
  by_cases c : a ≤ i ∧ i < b
  · exact permIn_all d d' a b (fun z => z.val < d[j]!.val) hb hp (fun x q1 q2 => h q x j (by omega) (by omega) h2 h3) i c.1 c.2
  · rw [hp.2.1 i (by omega)]; exact h q i j (by omega) h1 h2 h3
theorem GrF.sep {B N k a m b : Nat} {d : Array (Fin n)} (h : GrF B a N d) (ha : a = k * (2 * B)) (hm : m = a + B) (hb : b ≤ N) : Sep a m b d := fun i j h1 h2 h3 h4 => by
  have e : (k * 2 + 1) * B = m := by rw [Nat.add_mul, Nat.mul_assoc, Nat.one_mul, hm, ha]
  exact h (k * 2 + 1) i j (by omega) (by omega) (by omega) (by omega)
theorem Inc.gr {N : Nat} {d : Array (Fin n)} (h : Inc 0 N d) (B : Nat) : Gr B N d := fun q i j h1 h2 h3 => h i j (Nat.zero_le _) (by omega) h3
theorem Inc.next {a b N : Nat} {d d' : Array (Fin n)} (h : Inc a N d) (hab : a ≤ b) (hp : PermIn a b d d') : Inc b N d' := fun i j h1 h2 h3 => by
  rw [hp.2.1 i (.inr h1), hp.2.1 j (.inr (by omega))]
  exact h i j (by omega) h2 h3

set_option maxRecDepth 100000 in
set_option maxHeartbeats 8000000 in
theorem stable_any {N : Nat} {w : World} {d : Array (Fin n)} (hB : Box w0 blk c cb co len cc n raw) (R : Row1 encF w0 blk off d0) (hs : d0.size = N) (hd : d.size = N) (S : SW encF w0 blk off d w) (hsz : N < 576460752303423488) (hT : Tie raw key) (hI : Inc 0 N d) :
    Calls Tryz.prog 114 #[.slice (some ⟨blk, off, none⟩) N cap, .int .i64 N, .func (.func 110) #[] #[.pointer (some ⟨c, 0, none⟩)]] w fun e w' => e = .returned (.tuple #[]) ∧ ∃ d', d'.size = N ∧ PermIn 0 N d d' ∧ Rise key 0 N d' ∧ SW encF w0 blk off d' w' := by
  have HS := Lib.hid S
  have HD := Lib.hid hd
  have hins : ∀ (a b : Nat) (d : Array (Fin n)) (w : World), d.size = N → SW encF w0 blk off d w → a ≤ b → b ≤ N → Inc a N d →
      Calls Tryz.prog 117 #[.slice (some ⟨blk, off, none⟩) N cap, .int .i64 a, .int .i64 b, .func (.func 110) #[] #[.pointer (some ⟨c, 0, none⟩)]] w fun e w' => e = .returned (.tuple #[]) ∧ ∃ d', d'.size = N ∧ PermIn a b d d' ∧ Rise key a b d' ∧ SW encF w0 blk off d' w' := by
    intro a b d w h1 h2 h3 h4 hI
    have h := ins_any (cap := cap) (a := a) (b := b) hB R (by omega) h2 h3 (by omega) (by omega)
    rw [h1] at h
    refine h.mono ?_
    rintro e w' ⟨rfl, h5⟩
    have h6 := ins_sorts hT d a b h3 (by omega) fun i j q1 q2 q3 => hI i j q1 q2 (by omega)
    exact ⟨rfl, _, by rw [h6.1.1]; exact h1, h6.1, h6.2, h5⟩
  have HINS := Lib.hid hins
  have HSYM := Lib.hid (fun s a m b d w => sym_any (cap := cap) hB R hs (by omega) hT s a m b d w)
  have HII := Lib.hid hI
  clear hB R S hs hd hins hT hI
  go_enter Tryz.func114, Tryz.ntmps114
  go_wp2_with fail
  go_loopw [7, 8] (fun s t wr => ∃ (k a b : Nat) (e : Array (Fin n)), s = .int .i64 (a : Int) ∧ t = .int .i64 (b : Int) ∧ a ≤ N ∧ b = a + 20 ∧ Hid (a = k * 20 ∧ e.size = N ∧ PermIn 0 N d e ∧ Bs key 20 a e ∧ SW encF w0 blk off e wr) ∧ Hid (Gr 20 N e ∧ Inc a N e)) (fun s _ _ => N - (intOf s).toNat)
  case atStart => exact ⟨0, 0, 20, d, rfl, rfl, Nat.zero_le _, rfl, Lib.hid ⟨rfl, HD.out, permIn_refl _ _ _, bs_zero _ _, HS.out⟩, Lib.hid ⟨HII.out.gr 20, HII.out⟩⟩
  case round =>
    clear HS
    obtain ⟨k, a, b, e, rfl, rfl, haN, hba, HQ, HGR⟩ := hrel
    by_cases hle : b ≤ N
    · as_aux_lemma =>
      have hlei : (b : Int) ≤ (N : Int) := by omega
      have HC := Lib.hid (HINS.out a b e wr HQ.out.2.1 HQ.out.2.2.2.2 (by omega) hle HGR.out.2)
      have HBA := Lib.hid hba
      clear hba hle
      go_wp2_with fail
      refine HC.out.mono ?_
      rintro e3 w3 ⟨rfl, d1, hz, hr, hr2, hS⟩
      have HG : Hid (b = (k + 1) * 20 ∧ d1.size = N ∧ PermIn 0 N d d1 ∧ Bs key 20 b d1 ∧ SW encF w0 blk off d1 w3) := Lib.hid (by
        have h1 := HQ.out
        have h2 := HBA.out
        refine ⟨by omega, hz, permIn_trans _ _ _ _ _ h1.2.2.1 (perm_wide hr (Nat.zero_le _) (by omega) (by omega)), ?_, hS⟩
        rw [h1.1] at hr hr2
        have h3 := h1.2.2.2.1
        rw [h1.1] at h3
        exact bs_more 20 k b e d1 h3 hr hr2 (by omega))
      have HG2 : Hid (Gr 20 N d1 ∧ Inc b N d1) := Lib.hid ⟨HGR.out.1.perm hr HQ.out.1 (by have := HBA.out; omega) (by omega) (by have := HQ.out.2.1; omega), HGR.out.2.next (by have := HBA.out; omega) hr⟩
      have e1 : IntKind.i64.wrap ((b : Int) + 20) = ((b + 20 : Nat) : Int) := by rw [IntKind.wrap_i64]; omega
      clear hz hr hr2 hS HC HQ HGR
      go_wp2_with fail
      go_roundw
      case measure => have := HBA.out; simp [intOf]; omega
      case rel => exact ⟨k + 1, b, b + 20, d1, rfl, by simp, by omega, rfl, HG, HG2⟩
    · have hlei : ¬ (b : Int) ≤ (N : Int) := by omega
      have HC := Lib.hid (HINS.out a N e wr HQ.out.2.1 HQ.out.2.2.2.2 haN (Nat.le_refl _) HGR.out.2)
      have HBA : Hid (N ≤ a + 20) := Lib.hid (by omega)
      clear hba hle
      go_wp2_with fail
      refine HC.out.mono ?_
      rintro e3 w3 ⟨rfl, d1, hz, hr, hr2, hS⟩
      have HG : Hid (d1.size = N ∧ PermIn 0 N d d1 ∧ Bs key 20 N d1 ∧ SW encF w0 blk off d1 w3) := Lib.hid (by
        have h1 := HQ.out
        have h2 := HBA.out
        refine ⟨hz, permIn_trans _ _ _ _ _ h1.2.2.1 (perm_wide hr (Nat.zero_le _) (Nat.le_refl _) (by omega)), ?_, hS⟩
        rw [h1.1] at hr hr2
        have h3 := h1.2.2.2.1
        rw [h1.1] at h3
        exact bs_more 20 k N e d1 h3 hr hr2 (by omega))
      have HG2 : Hid (Gr 20 N d1) := Lib.hid (HGR.out.1.perm hr HQ.out.1 (by have := HBA.out; omega) (Nat.le_refl _) (by have := HQ.out.2.1; omega))
      clear hz hr hr2 hS HC HQ HBA haN hlei HINS HGR
      go_wp2_with fail
      go_loopw [6, 7, 8, 9] (fun s6 s7 s8 s9 wr => ∃ (B : Nat) (e : Array (Fin n)), s6 = .int .i64 (B : Int) ∧ 1 ≤ B ∧ B < 1152921504606846976 ∧ Hid (e.size = N ∧ PermIn 0 N d e ∧ Bs key B N e ∧ SW encF w0 blk off e wr) ∧ Hid (Gr B N e)) (fun s _ _ _ _ => N - (intOf s).toNat)
      case atStart => exact ⟨20, d1, rfl, by omega, by omega, HG, HG2⟩
      case round =>
        clear HG HG2
        obtain ⟨B, e, rfl, hB1, hB2, HQ, HGB⟩ := hrel
        by_cases hlt : B < N
        · have hlti : (B : Int) < (N : Int) := by omega
          obtain ⟨B2, hB2e⟩ : ∃ B2, B2 = 2 * B := ⟨_, rfl⟩
          have e1 : IntKind.i64.wrap (2 * (B : Int)) = (B2 : Int) := by rw [IntKind.wrap_i64]; omega
          have e2 : IntKind.i64.wrap ((B : Int) * 2) = (B2 : Int) := by rw [IntKind.wrap_i64]; omega
          have HBB := Lib.hid hB2e
          have hbb : B < B2 ∧ B2 < 1152921504606846976 := by omega
          obtain ⟨hbb1, hbb2⟩ := hbb
          clear hB2e hB2
          go_wp2_with fail
          go_loopw [7, 8] (fun s t wr => ∃ (k a b : Nat) (e : Array (Fin n)), s = .int .i64 (a : Int) ∧ t = .int .i64 (b : Int) ∧ a ≤ N ∧ b = a + B2 ∧ Hid (a = k * (2 * B) ∧ e.size = N ∧ PermIn 0 N d e ∧ Bs key (2 * B) a e ∧ Rest key B a N e ∧ SW encF w0 blk off e wr) ∧ Hid (GrF B a N e ∧ Gr (2 * B) N e)) (fun s _ _ => N - (intOf s).toNat)
          case atStart => exact ⟨0, 0, B2, e, rfl, rfl, Nat.zero_le _, by omega, Lib.hid ⟨by omega, HQ.out.1, HQ.out.2.1, bs_zero _ _, fun q _ => HQ.out.2.2.1 q, HQ.out.2.2.2⟩, Lib.hid ⟨fun q i j _ => HGB.out q i j, HGB.out.two⟩⟩
          case round =>
            clear HQ HGB
            obtain ⟨k, a, b, e, rfl, rfl, haN, hba, HQ, HGR⟩ := hrel
            obtain ⟨m, hm⟩ : ∃ m, m = a + B := ⟨_, rfl⟩
            have e3 : IntKind.i64.wrap ((a : Int) + (B : Int)) = (m : Int) := by rw [IntKind.wrap_i64]; omega
            by_cases hle : b ≤ N
            · as_aux_lemma =>
              have hlei : (b : Int) ≤ (N : Int) := by omega
              have e4 : IntKind.i64.wrap ((b : Int) + (B2 : Int)) = ((b + B2 : Nat) : Int) := by rw [IntKind.wrap_i64]; omega
              have HC := Lib.hid (HSYM.out (b - a) a m b e wr (Nat.le_refl _) HQ.out.2.1 HQ.out.2.2.2.2.2 (by omega) (by omega) hle
                (by have h := HQ.out.2.2.2.2.1; rw [HQ.out.1] at h; have h := h.left; rw [← HQ.out.1, ← hm] at h; exact h.sub (Nat.le_refl _) (by omega))
                (by have h := HQ.out.2.2.2.2.1; rw [HQ.out.1] at h; have h := h.right; rw [← HQ.out.1, ← hm] at h; have := HBB.out; exact h.sub (Nat.le_refl _) (by omega))
                (HGR.out.1.sep HQ.out.1 hm hle))
              have HBA := Lib.hid hba
              clear hba hle hm
              unfold SymDone at HC
              go_wp2_with fail
              refine HC.out.mono ?_
              rintro e3 w3 ⟨rfl, d1, hz, hr, hr2, hS⟩
              have HG : Hid (b = (k + 1) * (2 * B) ∧ d1.size = N ∧ PermIn 0 N d d1 ∧ Bs key (2 * B) b d1 ∧ Rest key B b N d1 ∧ SW encF w0 blk off d1 w3) := Lib.hid (by
                have h1 := HQ.out
                have h2 := HBA.out
                have h4 := HBB.out
                refine ⟨by rw [Nat.add_mul, ← h1.1]; omega, hz, permIn_trans _ _ _ _ _ h1.2.2.1 (perm_wide hr (Nat.zero_le _) (by omega) (by omega)), ?_, h1.2.2.2.2.1.next (by omega) hr, hS⟩
                rw [h1.1] at hr hr2
                have h3 := h1.2.2.2.1
                rw [h1.1] at h3
                exact bs_more (2 * B) k b _ d1 h3 hr hr2 (by omega))
              have HG2 : Hid (GrF B b N d1 ∧ Gr (2 * B) N d1) := Lib.hid ⟨HGR.out.1.next (by have := HBA.out; omega) hr (by have := HQ.out.2.1; omega), HGR.out.2.perm hr HQ.out.1 (by have := HBA.out; have := HBB.out; omega) (by omega) (by have := HQ.out.2.1; omega)⟩
              clear hz hr hr2 hS HC HQ HGR
              go_wp2_with fail
              go_roundw
              case measure => have := HBA.out; simp [intOf]; omega
              case rel => exact ⟨k + 1, b, b + B2, d1, rfl, by simp, by omega, rfl, HG, HG2⟩
            · have hlei : ¬ (b : Int) ≤ (N : Int) := by omega
              by_cases hmN : m < N
              · as_aux_lemma =>
                have hmNi : (m : Int) < (N : Int) := by omega
                have HC := Lib.hid (HSYM.out (N - a) a m N e wr (Nat.le_refl _) HQ.out.2.1 HQ.out.2.2.2.2.2 (by omega) (by omega) (Nat.le_refl _)
                  (by have h := HQ.out.2.2.2.2.1; rw [HQ.out.1] at h; have h := h.left; rw [← HQ.out.1, ← hm] at h; exact h.sub (Nat.le_refl _) (by omega))
                  (by have h := HQ.out.2.2.2.2.1; rw [HQ.out.1] at h; have h := h.right; rw [← HQ.out.1, ← hm] at h; have := HBB.out; exact h.sub (Nat.le_refl _) (by omega))
                  (HGR.out.1.sep HQ.out.1 hm (Nat.le_refl _)))
                have HBA : Hid (N ≤ a + B2) := Lib.hid (by omega)
                clear hba hle hm
                unfold SymDone at HC
                go_wp2_with fail
                refine HC.out.mono ?_
                rintro e3 w3 ⟨rfl, d1, hz, hr, hr2, hS⟩
                have HG : Hid (d1.size = N ∧ PermIn 0 N d d1 ∧ Bs key B2 N d1 ∧ SW encF w0 blk off d1 w3) := Lib.hid (by
                  have h1 := HQ.out
                  have h2 := HBA.out
                  have h4 := HBB.out
                  refine ⟨hz, permIn_trans _ _ _ _ _ h1.2.2.1 (perm_wide hr (Nat.zero_le _) (by omega) (by omega)), ?_, hS⟩
                  rw [h1.1] at hr hr2
                  have h3 := h1.2.2.2.1
                  rw [h1.1] at h3
                  rw [h4]
                  exact bs_more (2 * B) k N _ d1 h3 hr hr2 (by omega))
                have HG2 : Hid (Gr B2 N d1) := Lib.hid (by rw [HBB.out]; exact HGR.out.2.perm hr HQ.out.1 (by have := HBA.out; have := HBB.out; omega) (Nat.le_refl _) (by have := HQ.out.2.1; omega))
                clear hz hr hr2 hS HC HQ HGR
                go_wp2_with fail
                go_roundw
                case measure => simp [intOf]; omega
                case rel => exact ⟨B2, d1, rfl, by omega, by omega, HG, HG2⟩
              · as_aux_lemma =>
                have hmNi : ¬ (m : Int) < (N : Int) := by omega
                have HG : Hid (e.size = N ∧ PermIn 0 N d e ∧ Bs key B2 N e ∧ SW encF w0 blk off e wr) := Lib.hid (by
                  have h1 := HQ.out
                  have h4 := HBB.out
                  refine ⟨h1.2.1, h1.2.2.1, ?_, h1.2.2.2.2.2⟩
                  have h := h1.2.2.2.2.1
                  rw [h1.1] at h
                  have h := h.left
                  have h3 := h1.2.2.2.1
                  rw [h1.1] at h3
                  rw [h4]
                  exact bs_more (2 * B) k N _ _ h3 (permIn_refl _ _ _) (h.sub (Nat.le_refl _) (by rw [← h1.1]; omega)) (by rw [← h1.1]; omega))
                have HG2 : Hid (Gr B2 N e) := Lib.hid (by rw [HBB.out]; exact HGR.out.2)
                clear hba hle hm HQ HGR
                go_wp2_with fail
                go_roundw
                case measure => simp [intOf]; omega
                case rel => exact ⟨B2, e, rfl, by omega, by omega, HG, HG2⟩
        · have hlti : ¬ (B : Int) < (N : Int) := by omega
          have HF : Hid (Rise key 0 N e) := Lib.hid (by
            have h := HQ.out.2.2.1 0
            rw [Nat.zero_mul] at h
            exact h.sub (Nat.le_refl _) (by omega))
          clear hlt
          go_wp2_with fail
          go_end0
          exact ⟨rfl, e, HQ.out.1, HQ.out.2.1, HF.out, HQ.out.2.2.2⟩

/-- A world of a sort, from the world ahead of it. -/
theorem sort_any {N : Nat} {w : World} {d : Array (Fin n)} (hB : Box w blk c cb co len cc n raw) (hH : Holds encF w blk off d) (hb : blk < w.heap.size) (hd : d.size = N) (hsz : N < 576460752303423488) (hT : Tie raw key) (hI : Inc 0 N d) :
    Calls Tryz.prog 109 #[.slice (some ⟨blk, off, none⟩) N cap, .func (.func 110) #[] #[.pointer (some ⟨c, 0, none⟩)]] w fun e w' => e = .returned (.tuple #[]) ∧ ∃ d', d'.size = N ∧ PermIn 0 N d d' ∧ Rise key 0 N d' ∧ ∃ m os, w' = sortWorld encF w blk off m d' os := by
  have HC := Lib.hid (stable_any (cap := cap) hB ⟨one_enc n, hH, hb⟩ hd hd (SW.start hH) hsz hT hI)
  clear hB hH hd hT hI
  go_enter Tryz.func109, Tryz.ntmps109
  go_wp2_with fail
  refine HC.out.mono ?_
  rintro e w' ⟨rfl, d', h1, h2, h3, h4⟩
  have HG := Lib.hid (And.intro h1 (And.intro h2 (And.intro h3 h4)))
  clear h1 h2 h3 h4 HC
  go_wp2_with fail
  go_end0
  exact ⟨rfl, d', HG.out⟩
end

/-- .. of a row of nothing. -/
theorem ins_none (p : Option Addr) (cap : Nat) (v : Value) (w : World) : Calls Tryz.prog 117 #[.slice p 0 cap, .int .i64 0, .int .i64 0, v] w fun e w' => e = .returned (.tuple #[]) ∧ w = w' := by
  go_enter Tryz.func117, Tryz.ntmps117
  go_wp2_with fail
  go_loopw [8] (fun s wr => s = .int .i64 1 ∧ wr = w) (fun _ _ => 0)
  case atStart => exact ⟨rfl, rfl⟩
  case round =>
    obtain ⟨rfl, rfl⟩ := hrel
    go_wp2_with fail
    go_end0
    exact ⟨rfl, rfl⟩
theorem stable_none (p : Option Addr) (cap : Nat) (v : Value) (w : World) : Calls Tryz.prog 114 #[.slice p 0 cap, .int .i64 0, v] w fun e w' => e = .returned (.tuple #[]) ∧ w = w' := by
  have HC := Lib.hid (fun w => ins_none p cap v w)
  go_enter Tryz.func114, Tryz.ntmps114
  go_wp2_with fail
  go_loopw [7, 8] (fun s t wr => s = .int .i64 0 ∧ t = .int .i64 20 ∧ wr = w) (fun _ _ _ => 0)
  case atStart => exact ⟨rfl, rfl, rfl⟩
  case round =>
    obtain ⟨rfl, rfl, rfl⟩ := hrel
    go_wp2_with fail
    refine (HC.out _).mono ?_
    rintro e w' ⟨rfl, rfl⟩
    go_wp2_with fail
    go_loopw [6] (fun s wr2 => s = .int .i64 20 ∧ wr2 = wr) (fun _ _ => 0)
    case atStart => exact ⟨rfl, rfl⟩
    case round =>
      obtain ⟨rfl, rfl⟩ := hrel
      go_wp2_with fail
      go_end0
      exact ⟨rfl, rfl⟩
theorem sort_none (p : Option Addr) (cap : Nat) (v : Value) (w : World) : Calls Tryz.prog 109 #[.slice p 0 cap, v] w fun e w' => e = .returned (.tuple #[]) ∧ w = w' := by
  have HC := Lib.hid (fun w => stable_none p cap v w)
  go_enter Tryz.func109, Tryz.ntmps109
  go_wp2_with fail
  refine (HC.out _).mono ?_
  rintro e w' ⟨rfl, rfl⟩
  go_wp2_with fail
  go_end0
  exact ⟨rfl, rfl⟩
end Go.Proofs.YtbjjkhlebdaoaaaGreatDoor.PkC
end

section
/-
  pack.rising: the symbols that occur, the rarest first.
-/
namespace Go.Proofs.YtbjjkhlebdaoaaaGreatDoor.PkC
open Go.Shelf Go.RowKit Go.Lib Go.Sort Go.My PackMath

/-! ### plain -/
/-- The symbols that occur, of the first k. -/
def pos (cs : List Nat) (k : Nat) : List Nat := (List.range k).filter fun i => decide (0 < cs.getD i 0)
theorem pos_yes (cs : List Nat) (k : Nat) (h : 0 < cs.getD k 0) : pos cs (k + 1) = pos cs k ++ [k] := by
  simp only [pos, List.range_succ, List.filter_append, List.filter_cons, List.filter_nil]
  rw [if_pos (decide_eq_true h)]
theorem pos_no (cs : List Nat) (k : Nat) (h : ¬ 0 < cs.getD k 0) : pos cs (k + 1) = pos cs k := by
  simp only [pos, List.range_succ, List.filter_append, List.filter_cons, List.filter_nil]
  rw [if_neg (by rw [decide_eq_false h]; simp), List.append_nil]
theorem pos_len (cs : List Nat) (k : Nat) : (pos cs k).length ≤ k := by
  have := List.length_filter_le (fun i => decide (0 < cs.getD i 0)) (List.range k)
  simpa [pos] using this
theorem pos_lt (cs : List Nat) (k i : Nat) (h : i ∈ pos cs k) : i < k ∧ 0 < cs.getD i 0 := by
  simpa [pos] using h

/-! ### a row behind a sort -/
section
variable {α : Type} [Inhabited α] {enc : α → Value} {w : World} {g m : Nat} {os : Array Obj} {cur : Array Value} {e : TypeId} {d : Array α}
theorem sort_heap (hb : w.heap[g]? = some (.cells cur e (0, 0))) : (sortWorld enc w g 0 m d os).heap[g]? = some (.cells (putCells enc 0 d cur) e (0, 0)) := by
  have hg : g < w.heap.size := (Array.getElem?_eq_some_iff.1 hb).1
  unfold sortWorld
  rw [heap_grow_old _ _ (by rw [size_putRow]; exact hg)]
  simp [putRow, mapBlock, Sort.ahead, Array.getElem?_modify, hb, onCells]
theorem sort_grown : w.grownBy (sortWorld enc w g 0 m d os) (some g) := by
  unfold sortWorld
  refine ⟨rfl, rfl, rfl, by rw [size_grow, size_putRow]; show w.heap.size ≤ w.heap.size + _; omega, fun k hk hne => ?_⟩
  rw [heap_grow_old _ _ (by rw [size_putRow]; exact hk)]
  have : g ≠ k := fun e => hne (by rw [e])
  simp [putRow, mapBlock, Sort.ahead, Array.getElem?_modify, this]
theorem sort_take (h : d.size ≤ cur.size) : (putCells enc 0 d cur).toList.take d.size = d.toList.map enc := by
  apply List.ext_getElem?
  intro j
  by_cases hj : j < d.size
  · rw [List.getElem?_take_of_lt hj, Array.getElem?_toList]
    simp [putCells, hj, show j < cur.size by omega]
  · rw [List.getElem?_take_eq_none (by omega), List.getElem?_eq_none (by simp; omega)]
theorem sort_own {base cap : Nat} {vs : List Value} (h : OwnV e base w (.slice (some ⟨g, 0, none⟩) d.size cap) vs) (hv : vs.length = d.size) : OwnV e base (sortWorld enc w g 0 m d os) (.slice (some ⟨g, 0, none⟩) d.size cap) (d.toList.map enc) := by
  rcases h.2 with ⟨h', _⟩ | ⟨g', cap', cur, h', hbs, hg, hle, hm, hs, ht⟩
  · cases h'
  · simp only [Value.slice.injEq, Option.some.injEq, Addr.mk.injEq, and_true] at h'
    obtain ⟨rfl, h1, rfl⟩ := h'
    refine ⟨by simp, .inr ⟨g, cap, _, by simp, hbs, sort_heap hg, by simp; omega, hm, by simp [putCells, hs], ?_⟩⟩
    rw [List.length_map, Array.length_toList, Nat.mul_one]
    exact sort_take (by omega)
theorem sort_holds {base cap : Nat} {vs : List Value} (h : OwnV e base w (.slice (some ⟨g, 0, none⟩) d.size cap) vs) (hv : vs = d.toList.map enc) : Holds enc w g 0 d := by
  intro j hj
  have hl : vs.length = d.size := by rw [hv]; simp
  refine ⟨?_, ?_⟩
  · rw [Nat.zero_add, h.cell hl j (by omega)]
    subst hv
    simp [getElem!_pos d j hj]
  · rw [Nat.zero_add]
    exact h.free hl j
end
theorem perm_list {α : Type} [Inhabited α] {d d' : Array α} (h : PermIn 0 d.size d d') : d'.toList.Perm d.toList := by
  have h3 := h.2.2
  rw [show d.size = d'.size from h.1.symm] at h3
  rw [Array.extract_size] at h3
  rw [show d'.size = d.size from h.1, Array.extract_size] at h3
  exact h3
theorem vals_of (n : Nat) [NeZero n] (l : List Nat) (h : ∀ x ∈ l, x < n) : (l.map (fun i => Fin.ofNat n i)).map (·.val) = l := by
  rw [List.map_map]
  conv => rhs; rw [← List.map_id l]
  refine List.map_congr_left fun x hx => ?_
  simp only [Function.comp, Fin.val_ofNat, id]
  exact Nat.mod_eq_of_lt (h x hx)
theorem enc_lv {n : Nat} (l : List (Fin n)) : l.map encF = lv (l.map (·.val)) := by
  unfold lv encF
  rw [List.map_map]; rfl

theorem lit_row (w : World) (i : Nat) : RowIn (w.alloc (.cells #[.int .i64 (i : Int)] 3)) (some ⟨w.heap.size, 0, none⟩) 1 1 (lv [i]) := by
  have := OwnV.lit (base := 0) 3 w #[.int .i64 (i : Int)] (Nat.zero_le _) (by simp)
  exact this.rowIn rfl
theorem lv_one (l : List Nat) : ∀ u ∈ lv l, u.oneCell' = true := by
  intro u hu
  obtain ⟨x, _, rfl⟩ := List.mem_map.1 hu
  rfl
theorem lv_len (l : List Nat) : (lv l).length = l.length := by simp [lv]
theorem lv_append (a b : List Nat) : lv (a ++ b) = lv a ++ lv b := by simp [lv]
theorem info_int' : (Tryz.prog.info? 3).map (fun i => (i.zero, i.size, i.bytes)) = some (some (.int .i64 0), 1, 8) := by kernel_rfl
/-- The order of a sort: by counts, and by place where they are alike. -/
def Stl (cs ord : List Nat) : Prop := (ord.map fun x => cs.getD x 0 * cs.length + x).Pairwise (· ≤ ·)
theorem stl_srt {cs ord : List Nat} (h : Stl cs ord) (hl : ∀ x ∈ ord, x < cs.length) : Srt (ord.map (cs.getD · 0)) := by
  unfold Srt
  rw [List.pairwise_map]
  unfold Stl at h
  rw [List.pairwise_map] at h
  refine h.imp_of_mem fun {x y} hx hy e => ?_
  rcases Nat.lt_or_ge (cs.getD y 0) (cs.getD x 0) with c | c
  · have h1 : (cs.getD y 0 + 1) * cs.length ≤ cs.getD x 0 * cs.length := Nat.mul_le_mul_right _ c
    rw [Nat.add_mul, Nat.one_mul] at h1
    have := hl y hy
    omega
  · exact c
theorem ord_back {cs ord : List Nat} (hl : ∀ x ∈ ord, x < cs.length) : ord = (ord.map fun x => cs.getD x 0 * cs.length + x).map (· % cs.length) := by
  rw [List.map_map]
  conv => lhs; rw [← List.map_id ord]
  refine List.map_congr_left fun x hx => ?_
  simp only [Function.comp, id]
  rw [Nat.mul_comm, Nat.mul_add_mod]
  exact (Nat.mod_eq_of_lt (hl x hx)).symm
/-- There is one such order. -/
theorem stl_one {cs ord ord' : List Nat} (h : Stl cs ord) (h' : Stl cs ord') (hp : ord.Perm (pos cs cs.length)) (hp' : ord'.Perm (pos cs cs.length)) : ord = ord' := by
  have hl : ∀ x ∈ ord, x < cs.length := fun x hx => (pos_lt _ _ _ (hp.mem_iff.1 hx)).1
  have hl' : ∀ x ∈ ord', x < cs.length := fun x hx => (pos_lt _ _ _ (hp'.mem_iff.1 hx)).1
  rw [ord_back hl, ord_back hl']
  congr 1
  exact List.Perm.eq_of_pairwise (le := (· ≤ ·)) (fun a b _ _ h1 h2 => Nat.le_antisymm h1 h2) h h' ((hp.trans hp'.symm).map _)
theorem stl_rise {n : Nat} [NeZero n] {cs : List Nat} (hn : cs.length = n) {d : Array (Fin n)} (h : Rise (fun x => ((cs.getD x.val 0 * n + x.val : Nat) : Int)) 0 d.size d) : Stl cs (d.toList.map (·.val)) := by
  subst hn
  unfold Stl
  rw [List.pairwise_iff_getElem]
  intro i j hi hj hij
  have hj' : j < d.size := by simpa using hj
  have := h i j (Nat.zero_le _) hij hj'
  rw [getElem!_pos d i (by omega), getElem!_pos d j hj'] at this
  simp only [List.getElem_map, Array.getElem_toList]
  exact Int.ofNat_le.1 this
theorem tie_key {n : Nat} (cs : List Nat) : Tie (fun x : Fin n => ((cs.getD x.val 0 : Nat) : Int)) (fun x => ((cs.getD x.val 0 * n + x.val : Nat) : Int)) := by
  intro x y hxy
  have hx := x.2
  constructor
  · intro h
    have h0 : cs.getD x.val 0 < cs.getD y.val 0 := Int.ofNat_lt.1 h
    have h1 : (cs.getD x.val 0 + 1) * n ≤ cs.getD y.val 0 * n := Nat.mul_le_mul_right _ h0
    rw [Nat.add_mul, Nat.one_mul] at h1
    refine Int.ofNat_lt.2 ?_
    omega
  · intro h
    have h0 := Int.ofNat_lt.1 h
    refine Int.ofNat_lt.2 ?_
    rcases Nat.lt_or_ge (cs.getD x.val 0) (cs.getD y.val 0) with c | c
    · exact c
    · have := Nat.mul_le_mul_right n c
      omega
theorem pos_inc (cs : List Nat) (k : Nat) : (pos cs k).Pairwise (· < ·) := List.Pairwise.filter _ List.pairwise_lt_range
/-- The sort of the symbols that occur, in the world behind the box and the row. -/
theorem sorted_any (cs : List Nat) (cb co len cap B bc g rc : Nat) (w : World) (hC : RowIn w (some ⟨cb, co, none⟩) len cap (lv cs)) (hcb : cb < B) (hbc : bc < B) (hx : Blk w bc 67 #[.slice (some ⟨cb, co, none⟩) len cap])
    (ho : OwnV 3 B w (.slice (some ⟨g, 0, none⟩) (pos cs cs.length).length rc) (lv (pos cs cs.length))) (hn : cs.length ≤ 1000) (h0 : 0 < (pos cs cs.length).length) (hBw : B ≤ w.heap.size) :
    Calls Tryz.prog 109 #[.slice (some ⟨g, 0, none⟩) (pos cs cs.length).length rc, .func (.func 110) #[] #[.pointer (some ⟨bc, 0, none⟩)]] w fun e w' => e = .returned (.tuple #[]) ∧
      ∃ ord : List Nat, (ord.Perm (pos cs cs.length) ∧ Stl cs ord) ∧ Srt (ord.map (cs.getD · 0)) ∧ OwnV 3 B w' (.slice (some ⟨g, 0, none⟩) (pos cs cs.length).length rc) (lv ord) ∧ Below B w w' := by
  have hlen : cs.length = len := by rw [← hC.len_eq, lv_len]
  have hcn : cs.length ≠ 0 := by have := pos_len cs cs.length; omega
  haveI : NeZero cs.length := ⟨hcn⟩
  obtain ⟨d, hd⟩ : ∃ d : Array (Fin cs.length), d = ((pos cs cs.length).map (fun i => Fin.ofNat cs.length i)).toArray := ⟨_, rfl⟩
  have hds : d.size = (pos cs cs.length).length := by rw [hd]; simp
  have hvl : d.toList.map (·.val) = pos cs cs.length := by
    rw [hd]
    exact vals_of _ _ fun x hx => (pos_lt _ _ _ hx).1
  have hen : lv (pos cs cs.length) = d.toList.map encF := by rw [enc_lv, hvl]
  rw [← hds] at ho ⊢
  have hgB : B ≤ g := by
    have := ho.base g rfl
    exact this
  have hbox : Box w g bc cb co len cap cs.length (fun x => ((cs.getD x.val 0 : Nat) : Int)) := by
    refine ⟨by omega, by rw [hx.cell]; rfl, fun x => ?_, by omega, by omega⟩
    have := hC.get x.val (by rw [lv_len]; exact x.2)
    rw [this]
    simp [lv]
  have hinc : Inc 0 d.size d := by
    intro i j _ hij hj
    have hp := List.pairwise_iff_getElem.1 (pos_inc cs cs.length) i j (by omega) (by omega) hij
    have g : ∀ k (hk : k < d.size), d[k]!.val = (pos cs cs.length)[k]'(by omega) := fun k hk => by
      rw [getElem!_pos d k hk]
      have : (d.toList.map (·.val))[k]'(by simpa using hk) = d[k].val := by simp
      rw [← this]
      simp only [hvl]
    rw [g i (by omega), g j hj]
    exact hp
  refine (sort_any (cap := rc) hbox (sort_holds ho hen) (ho.lt g rfl) rfl (by have := pos_len cs cs.length; omega) (tie_key cs) hinc).mono ?_
  rintro e w' ⟨rfl, d', h1, h2, h3, m, os, rfl⟩
  have hpm : (d'.toList.map (·.val)).Perm (pos cs cs.length) := by rw [← hvl]; exact (perm_list h2).map _
  have hst : Stl cs (d'.toList.map (·.val)) := by rw [← h1] at h3; exact stl_rise rfl h3
  refine ⟨rfl, d'.toList.map (·.val), ⟨hpm, hst⟩, ?_, ?_, ?_⟩
  · exact stl_srt hst fun x hx => (pos_lt _ _ _ (hpm.mem_iff.1 hx)).1
  · rw [← enc_lv, ← h1]
    rw [← h1] at ho
    exact sort_own ho (by rw [lv_len, ← hds, h1])
  · exact (Below.refl B w).grown sort_grown hBw (fun k e => by injection e with e; omega)
set_option maxRecDepth 100000 in
set_option maxHeartbeats 8000000 in
theorem rising_any (cs : List Nat) (a : Option Addr) (len cap : Nat) (w : World) (hC : RowIn w a len cap (lv cs)) (hn : cs.length ≤ 1000) :
    Calls Tryz.prog 102 #[.slice a len cap] w fun e w' => ∃ v, e = .returned v ∧ ∃ ord : List Nat, (ord.Perm (pos cs cs.length) ∧ Stl cs ord) ∧ Srt (ord.map (cs.getD · 0)) ∧ OwnV 3 w.heap.size w' v (lv ord) ∧ Below w.heap.size w w' := by
  have HC := Lib.hid hC
  have hlen : cs.length = len := by rw [← hC.len_eq, lv_len]
  have HLE := Lib.hid hlen
  have HN : Hid (len ≤ 1000) := Lib.hid (by omega)
  have hl1000 : len ≤ 1000 := by omega
  clear hC hn hlen
  go_enter Tryz.func102, Tryz.ntmps102
  go_upto_region 1 with (fail)
  obtain ⟨w1, hw1⟩ : ∃ w1, w1 = w.alloc (.cells #[.slice a len cap] 67) := ⟨_, rfl⟩
  obtain ⟨bc, hbc⟩ : ∃ b, b = w.heap.size := ⟨_, rfl⟩
  have HX1 : Hid (Blk w1 bc 67 #[.slice a len cap]) := Lib.hid (by rw [hw1, hbc]; exact Blk.new w _ _)
  have HB1 : Hid (Below w.heap.size w w1) := Lib.hid (by rw [hw1]; exact (Below.refl _ w).alloc (Nat.le_refl _) _)
  have HBC : Hid (bc = w.heap.size ∧ bc < w1.heap.size) := Lib.hid ⟨hbc, HX1.out.lt⟩
  have hc1 : w1.cell? ⟨bc, 0, none⟩ = some (.slice a len cap) := by rw [HX1.out.cell]; rfl
  rw [← hw1, ← hbc]
  clear hw1 hbc
  go_wp2_with fail
  clear hc1
  have HO1 : Hid (OwnV 3 w1.heap.size w1 (.slice none 0 0) (lv (pos cs 0))) := Lib.hid (OwnV.nil _ _ _)
  go_loopw [8, 3, 4, 5] (fun s8 s3 _ _ wr => ∃ (i : Nat) (ad : Option Addr) (n c : Nat), s8 = .int .i64 (i : Int) ∧ s3 = .slice ad n c ∧ i ≤ len ∧ Hid ((pos cs i).length = n) ∧ Hid (OwnV 3 w1.heap.size wr (.slice ad n c) (lv (pos cs i))) ∧ Hid (Below w1.heap.size w1 wr)) (fun s _ _ _ _ => len - (intOf s).toNat)
  case atStart => exact ⟨0, none, 0, 0, rfl, rfl, Nat.zero_le _, Lib.hid rfl, HO1, Lib.hid (Below.refl _ _)⟩
  case round =>
    clear HO1
    obtain ⟨i, ad, n, c, rfl, rfl, hi, HP, HO, HB⟩ := hrel
    by_cases hlt : i < len
    · have hlti : (i : Int) < (len : Int) := by omega
      have hR := (HC.out.below (Nat.le_refl _) HB1.out).below (Nat.le_refl _) HB.out
      obtain ⟨cb, co, rfl⟩ := hR.some_ (by omega)
      obtain ⟨x, hx⟩ : ∃ x, x = cs.getD i 0 := ⟨_, rfl⟩
      have hc1 : wr.cell? ⟨cb, co + i, none⟩ = some (.int .i64 (x : Int)) := by
        have h := hR.get i (by rw [lv_len, HLE.out]; exact hlt)
        rw [h, hx]
        have : i < cs.length := by rw [HLE.out]; exact hlt
        simp [lv, List.getD_eq_getElem?_getD, this]
      clear hR
      by_cases h0 : 0 < x
      · as_aux_lemma =>
        have h0i : (0 : Int) < (x : Int) := by omega
        have HPS : Hid (pos cs (i + 1) = pos cs i ++ [i]) := Lib.hid (pos_yes cs i (by rw [← hx]; exact h0))
        have HR2 : Hid (RowIn (wr.alloc (.cells #[.int .i64 (i : Int)] 3)) (some ⟨wr.heap.size, 0, none⟩) 1 1 (lv [i])) := Lib.hid (lit_row wr i)
        have HO2 : Hid (OwnV 3 w1.heap.size (wr.alloc (.cells #[.int .i64 (i : Int)] 3)) (.slice ad n c) (lv (pos cs i))) := Lib.hid (HO.out.below (Nat.le_refl _) ((Below.refl _ wr).alloc (Nat.le_refl _) _))
        have HB2 : Hid (Below w1.heap.size w1 (wr.alloc (.cells #[.int .i64 (i : Int)] 3))) := Lib.hid (HB.out.alloc HB.out.size _)
        have hpl := pos_len cs i
        have HPL := Lib.hid hpl
        clear hx hpl
        go_wp2_with (at_builtin; refine wpList_append_row (by rfl) (.tmp 15) (.tmp 17) 67 rfl w1.heap.size 3 (.int .i64 0) 8 Tryz.underlying67 info_int' rfl (.slice ad n c) (lv (pos cs i)) rfl HO2.out (some ⟨wr.heap.size, 0, none⟩) 1 1 (lv [i]) rfl HR2.out (lv_one _) (by rw [lv_len]; have := HPL.out; have := HN.out; omega) (by rw [lv_len]; have := HPL.out; have := HN.out; omega) HB2.out.size ?_)
        intro a7 c7 w7 hown hgrow _
        rw [lv_len] at hown
        have HO7 : Hid (OwnV 3 w1.heap.size w7 (.slice a7 ((pos cs i).length + 1) c7) (lv (pos cs (i + 1)))) := Lib.hid (by rw [HPS.out, lv_append]; exact hown)
        have HB7 := Lib.hid (HO2.out.grown HB2.out hgrow HB2.out.size)
        rw [lv_len]
        clear hown hgrow HO2 HB2 HR2 hc1 HO HB
        rw [HP.out] at HO7
        rw [HP.out]
        go_wp2_with fail
        go_roundw
        case measure => simp [intOf]; omega
        case rel => exact ⟨i + 1, a7, n + 1, c7, by simp, by simp, by omega, Lib.hid (by rw [HPS.out, List.length_append, HP.out]; rfl), HO7, HB7⟩
      · as_aux_lemma =>
        have h0i : ¬ (0 : Int) < (x : Int) := by omega
        have HPS : Hid (pos cs (i + 1) = pos cs i) := Lib.hid (pos_no cs i (by rw [← hx]; exact h0))
        clear hx
        go_wp2_with fail
        go_roundw
        case measure => simp [intOf]; omega
        case rel => exact ⟨i + 1, ad, n, c, by simp, rfl, by omega, Lib.hid (by rw [HPS.out]; exact HP.out), Lib.hid (by rw [HPS.out]; exact HO.out), HB⟩
    · have hlti : ¬ (i : Int) < (len : Int) := by omega
      have HI : Hid (i = cs.length) := Lib.hid (by have := HLE.out; omega)
      clear hlt
      by_cases h0 : n = 0
      · as_aux_lemma =>
        have hS := sort_none ad c (.func (.func 110) #[] #[.pointer (some ⟨bc, 0, none⟩)]) wr
        have HS := Lib.hid hS
        clear hS
        subst h0
        go_wp2_with fail
        refine HS.out.mono ?_
        rintro e w' ⟨rfl, rfl⟩
        go_wp2_with fail
        go_ret
        have hp0 : pos cs cs.length = [] := by rw [← HI.out]; exact List.length_eq_zero_iff.1 HP.out
        refine ⟨_, rfl, [], ⟨by rw [hp0], List.Pairwise.nil⟩, List.Pairwise.nil, ?_, HB1.out.trans (HB.out.mono HB1.out.size)⟩
        have := HO.out
        rw [HI.out, hp0] at this
        rcases this.2 with h | ⟨g', cap, cur, h, hb, rest⟩
        · exact ⟨this.1, .inl h⟩
        · exact ⟨this.1, .inr ⟨g', cap, cur, h, by have := HBC.out; have := HB1.out.size; omega, rest⟩⟩
      · have HI2 := HI.out
        subst HI2
        have hlen0 : 0 < len := by have := pos_len cs cs.length; have := HP.out; have := HLE.out; omega
        obtain ⟨cb, co, rfl⟩ := HC.out.some_ hlen0
        obtain ⟨g, cp, hv, hgB, _⟩ := HO.out.form (by have := HP.out; rw [lv_len]; omega)
        rw [lv_len, HP.out] at hv
        simp only [Value.slice.injEq, true_and] at hv
        obtain ⟨rfl, rfl⟩ := hv
        have ho := HO.out
        rw [← HP.out] at ho
        have hS := sorted_any cs cb co len cap w1.heap.size bc g c wr ((HC.out.below (Nat.le_refl _) HB1.out).below (Nat.le_refl _) HB.out) (Nat.lt_of_lt_of_le (HC.out.lt hlen0) HB1.out.size) HBC.out.2 (HX1.out.same (HB.out.block _ HBC.out.2)) ho (by have := HLE.out; omega) (by have := HP.out; omega) HB.out.size
        rw [HP.out] at hS
        have HS := Lib.hid hS
        clear hS ho hgB hlen0
        go_wp2_with fail
        refine HS.out.mono ?_
        rintro e w' ⟨rfl, ord, h1, h2, h3, h4⟩
        have HG : Hid ((ord.Perm (pos cs cs.length) ∧ Stl cs ord) ∧ Srt (ord.map (cs.getD · 0)) ∧ OwnV 3 w1.heap.size w' (.slice (some ⟨g, 0, none⟩) n c) (lv ord) ∧ Below w1.heap.size wr w') := Lib.hid ⟨h1, h2, h3, h4⟩
        clear h1 h2 h3 h4 HS
        go_wp2_with fail
        go_ret
        obtain ⟨h1, h2, h3, h4⟩ := HG.out
        refine ⟨_, rfl, ord, h1, h2, ?_, HB1.out.trans ((HB.out.trans h4).mono HB1.out.size)⟩
        rcases h3.2 with h | ⟨g', cap', cur, h, hb, rest⟩
        · exact ⟨h3.1, .inl h⟩
        · exact ⟨h3.1, .inr ⟨g', cap', cur, h, by have := HB1.out.size; omega, rest⟩⟩
end Go.Proofs.YtbjjkhlebdaoaaaGreatDoor.PkC
end
