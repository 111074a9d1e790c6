import Derived.Test.YtbjjkhlebdaoaaaGreatDoorRows
import Derived.Test.YtbjjkhlebdaoaaaGreatDoorMgA
import Derived.Shelf.SlSortCmp.Insertion1
import Derived.Shelf.SlicesG.Cmp
import Derived.Shelf.Lay
import Derived.Ground.SlsfProg
import Derived.Ground.SlgcProg
import Derived.Lib.SortBridge
import Derived.Laws.Pointers
import Derived.Deep.QuietTactic
import Derived.BigQuiet
import Derived.BigRegion
import Derived.Sort.LotA

section
/-
  pack: the comparison of two symbols by their counts (cmp.Compare, the closure of rising), and what it is in the worlds of a sort.
-/
namespace Go.Proofs
open Go.Shelf
shelf_lay_g SlLaysC2.n5 Slgc 5 at Tryz 111 as Tryz.cmpL
shelf_lay_g SlLaysF.n20 Slsf 20 at Tryz 117 as Tryz.insL
end Go.Proofs
namespace Go.Proofs.YtbjjkhlebdaoaaaGreatDoor.PkC
open Go.Shelf Go.RowKit Go.Lib Go.Sort Go.My

/-- Two symbols by their counts. -/
def cf {n : Nat} (key : Fin n → Int) (x y : Fin n) : Int := Lib.compareInt (key x) (key y)
theorem lt_key {n : Nat} (key : Fin n → Int) (x y : Fin n) : ltOf (cf key) x y = decide (key x < key y) := by
  unfold ltOf cf Lib.compareInt
  by_cases h1 : key x < key y
  · simp [h1]
  · by_cases h2 : key y < key x <;> simp [h1, h2]
theorem swo_key {n : Nat} (key : Fin n → Int) : SWO (ltOf (cf key)) where
  irrefl x := by rw [lt_key]; simp
  trans x y z h1 h2 := by rw [lt_key] at *; simp at *; omega
  ntrans x y z h1 h2 := by rw [lt_key] at *; simp at *; omega
def encF {n : Nat} (x : Fin n) : Value := .int .i64 ((x.val : Nat) : Int)
theorem cmp_any (x y : Int) (w : World) : Calls Tryz.prog 111 #[.int .i64 x, .int .i64 y] w fun e w' => e = .returned (.int .i64 (Lib.compareInt x y)) ∧ w' = w := by
  have h := AnyG.cmp_Compare_int Tryz.cmpL x y w
  change Calls Tryz.prog 111 _ _ _ at h
  exact h
set_option maxHeartbeats 1000000 in
/-- The closure: counts stand in a box. -/
theorem less_any (x y len cap c cb co : Nat) (kx ky : Int) (W : World) (hx : x < len) (hy : y < len)
    (hb : W.cell? ⟨c, 0, none⟩ = some (.slice (some ⟨cb, co, none⟩) len cap)) (h1 : W.cell? ⟨cb, co + x, none⟩ = some (.int .i64 kx)) (h2 : W.cell? ⟨cb, co + y, none⟩ = some (.int .i64 ky)) :
    Calls Tryz.prog 110 #[.int .i64 (x : Int), .int .i64 (y : Int), .pointer (some ⟨c, 0, none⟩)] W fun e w' => e = .returned (.int .i64 (Lib.compareInt kx ky)) ∧ ∃ q, w' = W.drewN q := by
  have hxi : (x : Int) < (len : Int) := by omega
  have hyi : (y : Int) < (len : Int) := by omega
  have hcon := fun W => cmp_any kx ky W
  generalize Lib.compareInt kx ky = r at *
  go_enter Tryz.func110, Tryz.ntmps110
  go_wp2_with fail
  go_quiet ((go_at_call 111; exact Calls.quiet_of_same (hcon _)))
  go_wp2
  go_ret
  exact ⟨rfl, _, rfl⟩

/-- What a sort by counts is told: a box (block c) with the counts, in blocks other than the row's. -/
structure Box (w : World) (blk c cb co len cap n : Nat) (key : Fin n → Int) : Prop where
  nle : n ≤ len
  box : w.cell? ⟨c, 0, none⟩ = some (.slice (some ⟨cb, co, none⟩) len cap)
  at_ : ∀ x : Fin n, w.cell? ⟨cb, co + x.val, none⟩ = some (.int .i64 (key x))
  ne1 : c ≠ blk
  ne2 : cb ≠ blk
theorem lays_any {n : Nat} [NeZero n] {w : World} {blk off c cb co len cap size : Nat} {key : Fin n → Int} (h : Box w blk c cb co len cap n key) :
    CmpLays1 Tryz.prog 110 #[.pointer (some ⟨c, 0, none⟩)] encF (cf key) blk off size w := by
  intro m os dk _ x y
  have hk : ∀ (p : Addr) v, p.block ≠ blk → w.cell? p = some v → (sortWorld encF w blk off m dk os).cell? p = some v := by
    intro p v hp hv
    have hlt : p.block < w.heap.size := block_lt_of_cell hv
    unfold sortWorld
    rw [cell?_grow _ _ _ (by rw [size_putRow]; exact hlt), cell?_putRow_other _ _ _ _ _ _ (Or.inl hp)]
    exact hv
  refine (less_any x.val y.val len cap c cb co (key x) (key y) _ (Nat.lt_of_lt_of_le x.2 h.nle) (Nat.lt_of_lt_of_le y.2 h.nle) (hk _ _ h.ne1 h.box) (hk _ _ h.ne2 (h.at_ x)) (hk _ _ h.ne2 (h.at_ y))).mono ?_
  rintro e w' ⟨rfl, q, rfl⟩
  exact ⟨rfl, q, #[], by rw [grow_empty]⟩
theorem one_enc (n : Nat) : OneCell (encF (n := n)) := fun _ => rfl
theorem enters_less : ∀ args w, (callFunc 110 args).run Tryz.prog w = .ok (.enter 110 args) w := enters_of Tryz.func110 (by kernel_rfl) rfl
/-- slices.insertionSortCmpFunc in the worlds of a sort. -/
theorem ins_any {n : Nat} [NeZero n] {key : Fin n → Int} {w0 w : World} {blk off cap c cb co len cc a b : Nat} {d0 d : Array (Fin n)} (hB : Box w0 blk c cb co len cc n key)
    (R : Row1 encF w0 blk off d0) (hs : d0.size = d.size) (S : SW encF w0 blk off d w) (hab : a ≤ b) (hb : b ≤ d.size) (hsz : d.size < 4611686018427387904) :
    Calls Tryz.prog 117 #[.slice (some ⟨blk, off, none⟩) d.size cap, .int .i64 a, .int .i64 b, .func (.func 110) #[] #[.pointer (some ⟨c, 0, none⟩)]] w fun e w' => e = .returned (.tuple #[]) ∧ SW encF w0 blk off (Sort.insertionSort (ltOf (cf key)) d a b) w' := by
  have h := Any.insertionSortCmpFunc_s Tryz.insL encF (cf key) 110 #[.pointer (some ⟨c, 0, none⟩)] blk off cap a b d0 d w0 w enters_less (lays_any hB) R hs S hab hb hsz
  change Calls Tryz.prog 117 _ _ _ at h
  exact h
end Go.Proofs.YtbjjkhlebdaoaaaGreatDoor.PkC
end

section
/-
  slices.swapRangeCmpFunc, rotateCmpFunc in the worlds of a sort.
-/
namespace Go.Proofs.YtbjjkhlebdaoaaaGreatDoor.PkC
open Go.Shelf Go.RowKit Go.Lib Go.Sort Go.My

/-- i exchanges. -/
def swpN {α : Type} [Inhabited α] (d : Array α) (a b : Nat) : Nat → Array α
  | 0 => d
  | i + 1 => swp (swpN d a b i) (a + i) (b + i)
section
variable {α : Type} [Inhabited α]
theorem swpN_size (d : Array α) (a b i : Nat) : (swpN d a b i).size = d.size := by
  induction i with
  | zero => rfl
  | succ i ih => rw [swpN, size_swp, ih]
theorem swpN_get (d : Array α) (a b : Nat) (i : Nat) (h1 : a + i ≤ b) (h2 : b + i ≤ d.size) (k : Nat) :
    (swpN d a b i)[k]! = if a ≤ k ∧ k < a + i then d[b + (k - a)]! else if b ≤ k ∧ k < b + i then d[a + (k - b)]! else d[k]! := by
  induction i generalizing k with
  | zero => rw [swpN, if_neg (by omega), if_neg (by omega)]
  | succ i ih =>
    rw [swpN]
    have g := fun k => ih (by omega) (by omega) k
    have hs := swpN_size d a b i
    by_cases e1 : k = a + i
    · subst e1
      rw [swp_left _ _ _ (by omega) (by omega), g, if_neg (by omega), if_neg (by omega), if_pos (by omega)]
      congr 1; omega
    · by_cases e2 : k = b + i
      · subst e2
        rw [swp_right _ _ _ (by omega), g, if_neg (by omega), if_neg (by omega), if_neg (by omega), if_pos (by omega)]
        congr 1; omega
      · rw [swp_other _ _ _ _ e1 e2, g]
        by_cases c1 : a ≤ k ∧ k < a + i
        · rw [if_pos c1, if_pos (show a ≤ k ∧ k < a + (i + 1) by omega)]
        · rw [if_neg c1, if_neg (show ¬ (a ≤ k ∧ k < a + (i + 1)) by omega)]
          by_cases c2 : b ≤ k ∧ k < b + i
          · rw [if_pos c2, if_pos (show b ≤ k ∧ k < b + (i + 1) by omega)]
          · rw [if_neg c2, if_neg (show ¬ (b ≤ k ∧ k < b + (i + 1)) by omega)]
theorem swpN_perm (d : Array α) (a b lo hi : Nat) (h0 : lo ≤ a) (h3 : hi ≤ d.size) (i : Nat) (h1 : a + i ≤ hi) (h2 : b + i ≤ hi) (h4 : lo ≤ b) : PermIn lo hi d (swpN d a b i) := by
  induction i with
  | zero => exact permIn_refl _ _ _
  | succ i ih =>
    rw [swpN]
    exact permIn_trans _ _ _ _ _ (ih (by omega) (by omega)) (swp_permIn _ _ _ _ _ (by omega) (by omega) (by omega) (by omega) (by rw [swpN_size]; exact h3))
end

section
variable {n : Nat} [NeZero n] {key : Fin n → Int} {w0 : World} {blk off cap : Nat} {d0 : Array (Fin n)}
/-- What the walk wants of two places. -/
theorem two_cells {w : World} {d : Array (Fin n)} (R : Row1 encF w0 blk off d0) (hs : d0.size = d.size) (S : SW encF w0 blk off d w) (i j : Nat) (hi : i < d.size) (hj : j < d.size) :
    w.cell? ⟨blk, off + i, none⟩ = some (encF d[i]!) ∧ w.cell? ⟨blk, off + j, none⟩ = some (encF d[j]!) ∧ w.frozen? ⟨blk, off + i, none⟩ = false ∧ w.frozen? ⟨blk, off + j, none⟩ = false ∧ (∃ u, (w.setCell ⟨blk, off + i, none⟩ (encF d[j]!)).cell? ⟨blk, off + j, none⟩ = some u) ∧
    SW encF w0 blk off (swp d i j) ((w.setCell ⟨blk, off + i, none⟩ (encF d[j]!)).setCell ⟨blk, off + j, none⟩ (encF d[i]!)).drew :=
  ⟨S.c1 R hs.symm i hi, S.c1 R hs.symm j hj, S.f1 R hs.symm i hi, S.f1 R hs.symm j hj, S.c2 R hs.symm i j hi hj _, S.swapped R i j hi hj⟩
set_option maxRecDepth 100000 in
set_option maxHeartbeats 4000000 in
theorem swaprange_any {w : World} {a b m : Nat} {v : Value} {d : Array (Fin n)} (R : Row1 encF w0 blk off d0) (hs : d0.size = d.size) (S : SW encF w0 blk off d w) (h1 : a + m ≤ d.size) (h2 : b + m ≤ d.size) (hsz : d.size < 4611686018427387904) :
    Calls Tryz.prog 120 #[.slice (some ⟨blk, off, none⟩) d.size cap, .int .i64 a, .int .i64 b, .int .i64 m, v] w fun e w' => e = .returned (.tuple #[]) ∧ SW encF w0 blk off (swpN d a b m) w' := by
  have HR := Lib.hid R
  have HS := Lib.hid S
  clear R S
  go_enter Tryz.func120, Tryz.ntmps120
  go_wp2_with fail
  go_loopw [10] (fun s wr => ∃ i : Nat, s = .int .i64 (i : Int) ∧ i ≤ m ∧ Hid (SW encF w0 blk off (swpN d a b i) wr)) (fun s _ => m - (intOf s).toNat)
  case atStart => exact ⟨0, rfl, Nat.zero_le _, HS⟩
  case round =>
    clear HS
    obtain ⟨i, rfl, him, HS⟩ := hrel
    by_cases hlt : i < m
    · have hlti : (i : Int) < (m : Int) := by omega
      have hsz2 := swpN_size d a b i
      obtain ⟨c1, c2, f1, f2, ⟨u, c3⟩, S2⟩ := two_cells HR.out (by omega) HS.out (a + i) (b + i) (by omega) (by omega)
      have HS2 : Hid (SW encF w0 blk off (swpN d a b (i + 1)) _) := Lib.hid S2
      clear S2 HS
      obtain ⟨x, hx⟩ : ∃ x, x = (((swpN d a b i)[a + i]!).val : Int) := ⟨_, rfl⟩
      obtain ⟨y, hy⟩ : ∃ y, y = (((swpN d a b i)[b + i]!).val : Int) := ⟨_, rfl⟩
      unfold encF at c1 c2 c3
      rw [← hx] at c1
      rw [← hy] at c2 c3
      have HS2 : Hid (SW encF w0 blk off (swpN d a b (i + 1)) ((wr.setCell ⟨blk, off + (a + i), none⟩ (.int .i64 y)).setCell ⟨blk, off + (b + i), none⟩ (.int .i64 x)).drew) := by rw [hx, hy]; exact HS2
      clear hx hy hsz2
      obtain ⟨p, hp⟩ : ∃ p, p = a + i := ⟨_, rfl⟩
      obtain ⟨q, hq⟩ : ∃ q, q = b + i := ⟨_, rfl⟩
      have e1 : IntKind.i64.wrap ((a : Int) + (i : Int)) = (p : Int) := by rw [IntKind.wrap_i64]; omega
      have e2 : IntKind.i64.wrap ((b : Int) + (i : Int)) = (q : Int) := by rw [IntKind.wrap_i64]; omega
      have b1 : (p : Int) < (d.size : Int) := by omega
      have b2 : (q : Int) < (d.size : Int) := by omega
      rw [← hp] at c1 c3 f1 HS2
      rw [← hq] at c2 c3 f2 HS2
      clear hp hq
      go_wp2_with fail
      go_big_region
      clear c1 c2 c3 f1 f2
      generalize ((wr.setCell ⟨blk, off + p, none⟩ (.int .i64 y)).setCell ⟨blk, off + q, none⟩ (.int .i64 x)).drew = w3 at *
      go_wp2_with fail
      go_roundw
      case measure => simp [intOf]; omega
      case rel => exact ⟨i + 1, by simp, by omega, HS2⟩
    · obtain rfl : i = m := by omega
      go_wp2_with fail
      go_end0
      exact ⟨rfl, HS.out⟩
end
end Go.Proofs.YtbjjkhlebdaoaaaGreatDoor.PkC
end

section
/-
  slices.rotateCmpFunc in the worlds of a sort.
-/
namespace Go.Proofs.YtbjjkhlebdaoaaaGreatDoor.PkC
open Go.Shelf Go.RowKit Go.Lib Go.Sort Go.My

/-- d' is d with [a, m) and [m, b) exchanged. -/
structure Rot {α : Type} [Inhabited α] (d d' : Array α) (a m b : Nat) : Prop where
  perm : PermIn a b d d'
  left : ∀ k, k < b - m → d'[a + k]! = d[m + k]!
  right : ∀ k, k < m - a → d'[a + (b - m) + k]! = d[a + k]!
section
variable {α : Type} [Inhabited α]
theorem perm_wide {d d' : Array α} {a b a' b' : Nat} (h : PermIn a b d d') (h1 : a' ≤ a) (h2 : b ≤ b') (h3 : b' ≤ d.size) : PermIn a' b' d d' := permIn_mono _ _ _ _ _ _ h1 h2 h3 h
theorem rot_same (e : Array α) (m i : Nat) (hi : i ≤ m) (hs : m + i ≤ e.size) : Rot e (swpN e (m - i) m i) (m - i) m (m + i) := by
  have g := swpN_get e (m - i) m i (by omega) hs
  refine ⟨swpN_perm _ _ _ _ _ (Nat.le_refl _) hs _ (by omega) (by omega) (by omega), fun k hk => ?_, fun k hk => ?_⟩
  · rw [g, if_pos (by omega)]; congr 1; omega
  · rw [g, if_neg (by omega), if_pos (by omega)]; congr 1; omega
theorem rot_left (e d' : Array α) (m i j : Nat) (hij : j < i) (hi : i ≤ m) (hs : m + j ≤ e.size) (h : Rot (swpN e (m - i) m j) d' (m - (i - j)) m (m + j)) : Rot e d' (m - i) m (m + j) := by
  have g := swpN_get e (m - i) m j (by omega) hs
  have hz := swpN_size e (m - i) m j
  obtain ⟨hp, hl, hr⟩ := h
  have e1 : m + j - m = j := by omega
  have e2 : m - (m - (i - j)) = i - j := by omega
  rw [e1] at hl hr
  rw [e2] at hr
  refine ⟨permIn_trans _ _ _ _ _ (swpN_perm _ _ _ _ _ (Nat.le_refl _) hs _ (by omega) (by omega) (by omega)) (perm_wide hp (by omega) (Nat.le_refl _) (by rw [hz]; exact hs)), fun k hk => ?_, fun k hk => ?_⟩
  · rw [hp.2.1 _ (by omega), g, if_pos (by omega)]; congr 1; omega
  · by_cases hk2 : k < j
    · have := hl k hk2
      rw [show m - i + (m + j - m) + k = m - (i - j) + k by omega, this, g, if_neg (by omega), if_pos (by omega)]; congr 1; omega
    · have := hr (k - j) (by omega)
      rw [show m - i + (m + j - m) + k = m - (i - j) + j + (k - j) by omega, this, g, if_neg (by omega), if_neg (by omega)]; congr 1; omega
theorem rot_right (e d' : Array α) (m i j : Nat) (hij : i < j) (hi : i ≤ m) (hs : m + j ≤ e.size) (h : Rot (swpN e (m - i) (m + j - i) i) d' (m - i) m (m + (j - i))) : Rot e d' (m - i) m (m + j) := by
  have g := swpN_get e (m - i) (m + j - i) i (by omega) (by omega)
  have hz := swpN_size e (m - i) (m + j - i) i
  obtain ⟨hp, hl, hr⟩ := h
  have e1 : m + (j - i) - m = j - i := by omega
  have e2 : m - (m - i) = i := by omega
  rw [e1] at hl hr
  rw [e2] at hr
  refine ⟨permIn_trans _ _ _ _ _ (swpN_perm _ _ _ _ _ (Nat.le_refl _) hs _ (by omega) (by omega) (by omega)) (perm_wide hp (by omega) (by omega) (by rw [hz]; exact hs)), fun k hk => ?_, fun k hk => ?_⟩
  · by_cases hk2 : k < j - i
    · rw [hl k hk2, g, if_neg (by omega), if_neg (by omega)]
    · have := hr (k - (j - i)) (by omega)
      rw [show m - i + k = m - i + (j - i) + (k - (j - i)) by omega, this, g, if_pos (by omega)]; congr 1; omega
  · rw [hp.2.1 _ (by omega), g, if_neg (by omega), if_pos (by omega)]; congr 1; omega
end

section
variable {n : Nat} [NeZero n] {key : Fin n → Int} {w0 : World} {blk off cap : Nat} {d0 : Array (Fin n)}
set_option maxRecDepth 100000 in
set_option maxHeartbeats 4000000 in
theorem rotate_any {w : World} {a m b : Nat} {v : Value} {d : Array (Fin n)} (R : Row1 encF w0 blk off d0) (hs : d0.size = d.size) (S : SW encF w0 blk off d w) (h1 : a < m) (h2 : m < b) (h3 : b ≤ d.size) (hsz : d.size < 2305843009213693952) :
    Calls Tryz.prog 119 #[.slice (some ⟨blk, off, none⟩) d.size cap, .int .i64 a, .int .i64 m, .int .i64 b, v] w fun e w' => e = .returned (.tuple #[]) ∧ ∃ d', d'.size = d.size ∧ Rot d d' a m b ∧ SW encF w0 blk off d' w' := by
  have HR := Lib.hid R
  have HS := Lib.hid S
  clear R S
  obtain ⟨N, hN⟩ : ∃ N, N = d.size := ⟨_, rfl⟩
  have hsw : ∀ (e : Array (Fin n)) (x y q : Nat) (w : World), e.size = N → SW encF w0 blk off e w → x + q ≤ N → y + q ≤ N →
      Calls Tryz.prog 120 #[.slice (some ⟨blk, off, none⟩) N cap, .int .i64 x, .int .i64 y, .int .i64 q, v] w fun e' w' => e' = .returned (.tuple #[]) ∧ SW encF w0 blk off (swpN e x y q) w' := by
    intro e x y q w he hS hx hy
    have := swaprange_any (cap := cap) (v := v) (a := x) (b := y) (m := q) HR.out (by omega) hS (by omega) (by omega) (by omega)
    rw [he] at this
    exact this
  have HW := Lib.hid hsw
  clear hsw
  rw [← hN]
  have h3N : b ≤ N := by omega
  have hszN : N < 2305843009213693952 := by omega
  have HN := Lib.hid hN
  clear hs hN h3 hsz
  have k1 : IntKind.i64.wrap ((m : Int) - (a : Int)) = ((m - a : Nat) : Int) := by rw [IntKind.wrap_i64]; omega
  have k2 : IntKind.i64.wrap ((b : Int) - (m : Int)) = ((b - m : Nat) : Int) := by rw [IntKind.wrap_i64]; omega
  obtain ⟨i0, hi0⟩ : ∃ i0, i0 = m - a := ⟨_, rfl⟩
  obtain ⟨j0, hj0⟩ : ∃ j0, j0 = b - m := ⟨_, rfl⟩
  rw [← hi0] at k1
  rw [← hj0] at k2
  have HI0 := Lib.hid hi0
  have HJ0 := Lib.hid hj0
  clear hi0 hj0
  go_enter Tryz.func119, Tryz.ntmps119
  go_wp2_with fail
  clear k1 k2
  go_loopw [10, 11] (fun s t wr => ∃ (i j : Nat) (e : Array (Fin n)), s = .int .i64 (i : Int) ∧ t = .int .i64 (j : Int) ∧ 1 ≤ i ∧ 1 ≤ j ∧ i ≤ m ∧ m + j ≤ N ∧ e.size = N ∧ Hid (SW encF w0 blk off e wr) ∧ Hid (∀ d', d'.size = N → Rot e d' (m - i) m (m + j) → Rot d d' a m b)) (fun s t _ => (intOf s).toNat + (intOf t).toNat)
  case atStart =>
    have := HI0.out
    have := HJ0.out
    exact ⟨i0, j0, d, rfl, rfl, by omega, by omega, by omega, by omega, HN.out.symm, HS, Lib.hid (fun d' _ h => by rw [show m - i0 = a by omega, show m + j0 = b by omega] at h; exact h)⟩
  case round =>
    clear HS HI0 HJ0
    obtain ⟨i, j, e, rfl, rfl, hi1, hj1, him, hjm, he, HS, HG⟩ := hrel
    have hz : e.size = N := he
    have HE := Lib.hid he
    clear he hz
    have hmi : m - i + i = m := by omega
    have f1 : IntKind.i64.wrap ((m : Int) - (i : Int)) = ((m - i : Nat) : Int) := by rw [IntKind.wrap_i64]; omega
    by_cases heq : i = j
    · subst heq
      have hc := HW.out e (m - i) m i wr HE.out HS.out (by omega) (by omega)
      have hg := rot_same e m i him (by rw [HE.out]; exact hjm)
      have HF : Hid ((swpN e (m - i) m i).size = N ∧ Rot d (swpN e (m - i) m i) a m b) := Lib.hid ⟨by rw [swpN_size]; exact HE.out, HG.out _ (by rw [swpN_size]; exact HE.out) hg⟩
      clear hg HG HS
      generalize swpN e (m - i) m i = e2 at *
      generalize hq : m - i = q at *
      have HC := Lib.hid hc
      clear hc
      go_wp2_with fail
      refine HC.out.mono ?_
      rintro e3 w3 ⟨rfl, hS3⟩
      have HS3 := Lib.hid hS3
      clear hS3 HC
      go_wp2_with fail
      go_end0
      exact ⟨rfl, e2, HF.out.1, HF.out.2, HS3.out⟩
    · have hne : ((i : Int) == (j : Int)) = false := by simp; omega
      by_cases hlt : j < i
      · have hlti : (j : Int) < (i : Int) := by omega
        have hc := HW.out e (m - i) m j wr HE.out HS.out (by omega) (by omega)
        have HF : Hid ((swpN e (m - i) m j).size = N ∧ ∀ d', d'.size = N → Rot (swpN e (m - i) m j) d' (m - (i - j)) m (m + j) → Rot d d' a m b) :=
          Lib.hid ⟨by rw [swpN_size]; exact HE.out, fun d' hd h => HG.out d' hd (rot_left e d' m i j hlt him (by rw [HE.out]; exact hjm) h)⟩
        clear HG HS
        generalize swpN e (m - i) m j = e2 at *
        generalize hq : m - i = q at *
        have HC := Lib.hid hc
        clear hc
        go_wp2_with fail
        refine HC.out.mono ?_
        rintro e3 w3 ⟨rfl, hS3⟩
        have HS3 := Lib.hid hS3
        clear hS3 HC
        have f2 : IntKind.i64.wrap ((i : Int) - (j : Int)) = ((i - j : Nat) : Int) := by rw [IntKind.wrap_i64]; omega
        go_wp2_with fail
        go_roundw
        case measure => simp [intOf]; omega
        case rel => exact ⟨i - j, j, e2, rfl, rfl, by omega, hj1, by omega, hjm, HF.out.1, HS3, Lib.hid HF.out.2⟩
      · have hlti : ¬ (j : Int) < (i : Int) := by omega
        have hc := HW.out e (m - i) (m + j - i) i wr HE.out HS.out (by omega) (by omega)
        have HF : Hid ((swpN e (m - i) (m + j - i) i).size = N ∧ ∀ d', d'.size = N → Rot (swpN e (m - i) (m + j - i) i) d' (m - i) m (m + (j - i)) → Rot d d' a m b) :=
          Lib.hid ⟨by rw [swpN_size]; exact HE.out, fun d' hd h => HG.out d' hd (rot_right e d' m i j (by omega) him (by rw [HE.out]; exact hjm) h)⟩
        clear HG HS
        generalize swpN e (m - i) (m + j - i) i = e2 at *
        have f3 : IntKind.i64.wrap ((m : Int) + (j : Int)) = ((m + j : Nat) : Int) := by rw [IntKind.wrap_i64]; omega
        have f4 : IntKind.i64.wrap (((m + j : Nat) : Int) - (i : Int)) = ((m + j - i : Nat) : Int) := by rw [IntKind.wrap_i64]; omega
        have HC := Lib.hid hc
        clear hc
        generalize hq2 : m + j - i = q2 at *
        generalize hq3 : m + j = q3 at *
        generalize hq : m - i = q at *
        go_wp2_with fail
        refine HC.out.mono ?_
        rintro e3 w3 ⟨rfl, hS3⟩
        have HS3 := Lib.hid hS3
        clear hS3 HC
        have f2 : IntKind.i64.wrap ((j : Int) - (i : Int)) = ((j - i : Nat) : Int) := by rw [IntKind.wrap_i64]; omega
        go_wp2_with fail
        go_roundw
        case measure => simp [intOf]; omega
        case rel => exact ⟨i, j - i, e2, rfl, rfl, hi1, by omega, him, by omega, HF.out.1, HS3, Lib.hid (by rw [hq]; exact HF.out.2)⟩
end
end Go.Proofs.YtbjjkhlebdaoaaaGreatDoor.PkC
end

section
/-
  What slices.symMergeCmpFunc does to a row: plain facts. (A row of symbols, told apart by key.)
-/
namespace Go.Proofs.YtbjjkhlebdaoaaaGreatDoor.PkC
open Go.Shelf Go.RowKit Go.Lib Go.Sort Go.My

section
variable {n : Nat} [NeZero n] {key : Fin n → Int}
/-- [a, b) rises. -/
def Rise (key : Fin n → Int) (a b : Nat) (d : Array (Fin n)) : Prop := ∀ i j, a ≤ i → i < j → j < b → key d[i]! ≤ key d[j]!
theorem rise_iff (a b : Nat) (d : Array (Fin n)) : SortedIn (ltOf (cf key)) a b d ↔ Rise key a b d := by
  constructor
  · intro h i j h1 h2 h3
    have := h i j h1 h2 h3
    rw [lt_key] at this
    have := of_decide_eq_false this
    omega
  · intro h i j h1 h2 h3
    have := h i j h1 h2 h3
    rw [lt_key]
    exact decide_eq_false (by omega)
theorem Rise.le {a b : Nat} {d : Array (Fin n)} (h : Rise key a b d) {i j : Nat} (h1 : a ≤ i) (h2 : i ≤ j) (h3 : j < b) : key d[i]! ≤ key d[j]! := by
  by_cases e : i = j
  · subst e; omega
  · exact h i j h1 (by omega) h3
theorem Rise.sub {a b a' b' : Nat} {d : Array (Fin n)} (h : Rise key a b d) (h1 : a ≤ a') (h2 : b' ≤ b) : Rise key a' b' d := fun i j h3 h4 h5 => h i j (by omega) h4 (by omega)
/-- Where x stood behind y ahead of the sort, raw tells them apart as key does. -/
def Tie (raw key : Fin n → Int) : Prop := ∀ x y : Fin n, y.val < x.val → (raw x < raw y ↔ key x < key y)
/-- All of [a, m) stood ahead of all of [m, b). -/
def Sep (a m b : Nat) (d : Array (Fin n)) : Prop := ∀ i j, a ≤ i → i < m → m ≤ j → j < b → d[i]!.val < d[j]!.val
theorem halves_sep {d d1 : Array (Fin n)} {a m b s e mid : Nat} (h1 : a ≤ s) (h2 : s ≤ m) (h3 : m ≤ e) (h4 : e ≤ b) (hm : s + e = mid + m) (hR : Rot d d1 s m e) (hS : Sep a m b d) : Sep a s mid d1 ∧ Sep mid e b d1 := by
  obtain ⟨hp, hL, hQ⟩ := hR
  refine ⟨fun i j q1 q2 q3 q4 => ?_, fun i j q1 q2 q3 q4 => ?_⟩
  · have := hL (j - s) (by omega)
    rw [show s + (j - s) = j by omega] at this
    rw [hp.2.1 i (.inl q2), this]
    exact hS _ _ q1 (by omega) (by omega) (by omega)
  · have := hQ (i - mid) (by omega)
    rw [show s + (e - m) + (i - mid) = i by omega] at this
    rw [hp.2.1 j (.inr q3), this]
    exact hS _ _ (by omega) (by omega) (by omega) q4
theorem Sep.behind {d1 d2 : Array (Fin n)} {a mid e b : Nat} (h : Sep mid e b d1) (hp : PermIn a mid d1 d2) : Sep mid e b d2 := fun i j q1 q2 q3 q4 => by
  rw [hp.2.1 i (.inr q1), hp.2.1 j (.inr (by omega))]
  exact h i j q1 q2 q3 q4

/-- The first one goes up, c places. -/
def shl (d : Array (Fin n)) (a : Nat) : Nat → Array (Fin n)
  | 0 => d
  | c + 1 => swp (shl d a c) (a + c) (a + c + 1)
theorem shl_size (d : Array (Fin n)) (a c : Nat) : (shl d a c).size = d.size := by
  induction c with
  | zero => rfl
  | succ c ih => rw [shl, size_swp, ih]
theorem shl_get (d : Array (Fin n)) (a c : Nat) (h : a + c < d.size) (x : Nat) : (shl d a c)[x]! = if a ≤ x ∧ x < a + c then d[x + 1]! else if x = a + c then d[a]! else d[x]! := by
  induction c generalizing x with
  | zero =>
    rw [shl, if_neg (by omega)]
    by_cases e : x = a + 0
    · rw [if_pos e, e, Nat.add_zero]
    · rw [if_neg e]
  | succ c ih =>
    have g := fun x => ih (by omega) x
    have hs := shl_size d a c
    rw [shl]
    by_cases e1 : x = a + c
    · rw [e1, swp_left _ _ _ (by omega) (by omega), g, if_neg (show ¬ (a ≤ a + c + 1 ∧ a + c + 1 < a + c) by omega), if_neg (show ¬ (a + c + 1 = a + c) by omega), if_pos (show a ≤ a + c ∧ a + c < a + (c + 1) by omega)]
    · by_cases e2 : x = a + c + 1
      · rw [e2, swp_right _ _ _ (by omega), g, if_neg (show ¬ (a ≤ a + c ∧ a + c < a + c) by omega), if_pos rfl, if_neg (show ¬ (a ≤ a + c + 1 ∧ a + c + 1 < a + (c + 1)) by omega), if_pos (show a + c + 1 = a + (c + 1) by omega)]
      · rw [swp_other _ _ _ _ e1 e2, g]
        by_cases c1 : a ≤ x ∧ x < a + c
        · rw [if_pos c1, if_pos (show a ≤ x ∧ x < a + (c + 1) by omega)]
        · rw [if_neg c1, if_neg e1, if_neg (show ¬ (a ≤ x ∧ x < a + (c + 1)) by omega), if_neg (show ¬ x = a + (c + 1) by omega)]
theorem shl_perm (d : Array (Fin n)) (a c b : Nat) (h : a + c < b) (hb : b ≤ d.size) : PermIn a b d (shl d a c) := by
  induction c with
  | zero => exact permIn_refl _ _ _
  | succ c ih =>
    rw [shl]
    exact permIn_trans _ _ _ _ _ (ih (by omega)) (swp_permIn _ _ _ _ _ (by omega) (by omega) (by omega) (by omega) (by rw [shl_size]; exact hb))
theorem first_up (d : Array (Fin n)) (a b i : Nat) (hb : b ≤ d.size) (hS : Rise key (a + 1) b d) (h1 : a + 1 ≤ i) (h2 : i ≤ b) (hl : i = a + 1 ∨ key d[i - 1]! < key d[a]!) (hr : i = b ∨ key d[a]! ≤ key d[i]!) :
    PermIn a b d (shl d a (i - 1 - a)) ∧ Rise key a b (shl d a (i - 1 - a)) := by
  refine ⟨shl_perm _ _ _ _ (by omega) hb, fun x y hx hxy hy => ?_⟩
  have g := shl_get d a (i - 1 - a) (by omega)
  rw [show a + (i - 1 - a) = i - 1 by omega] at g
  rw [g, g]
  by_cases c1 : x < i - 1
  · rw [if_pos (show a ≤ x ∧ x < i - 1 by omega)]
    by_cases c2 : y < i - 1
    · rw [if_pos (show a ≤ y ∧ y < i - 1 by omega)]
      exact hS.le (by omega) (by omega) (by omega)
    · rw [if_neg (show ¬ (a ≤ y ∧ y < i - 1) by omega)]
      by_cases c3 : y = i - 1
      · rw [if_pos c3]
        have := hS.le (i := x + 1) (j := i - 1) (by omega) (by omega) (by omega)
        rcases hl with h | h <;> omega
      · rw [if_neg c3]
        exact hS.le (by omega) (by omega) (by omega)
  · rw [if_neg (show ¬ (a ≤ x ∧ x < i - 1) by omega), if_neg (show ¬ (a ≤ y ∧ y < i - 1) by omega), if_neg (show ¬ y = i - 1 by omega)]
    by_cases c3 : x = i - 1
    · rw [if_pos c3]
      have := hS.le (i := i) (j := y) (by omega) (by omega) (by omega)
      rcases hr with h | h <;> omega
    · rw [if_neg c3]
      exact hS.le (by omega) (by omega) (by omega)

/-- The last one goes down, c places. -/
def shd (d : Array (Fin n)) (m : Nat) : Nat → Array (Fin n)
  | 0 => d
  | c + 1 => swp (shd d m c) (m - c) (m - c - 1)
theorem shd_size (d : Array (Fin n)) (a c : Nat) : (shd d a c).size = d.size := by
  induction c with
  | zero => rfl
  | succ c ih => rw [shd, size_swp, ih]
theorem shd_get (d : Array (Fin n)) (m c : Nat) (hc : c ≤ m) (h : m < d.size) (x : Nat) : (shd d m c)[x]! = if m - c < x ∧ x ≤ m then d[x - 1]! else if x = m - c then d[m]! else d[x]! := by
  induction c generalizing x with
  | zero =>
    rw [shd, if_neg (by omega)]
    by_cases e : x = m - 0
    · rw [if_pos e, e, Nat.sub_zero]
    · rw [if_neg e]
  | succ c ih =>
    have g := fun x => ih (by omega) x
    have hs := shd_size d m c
    rw [shd]
    by_cases e1 : x = m - c
    · rw [e1, swp_left _ _ _ (by omega) (by omega), g, if_neg (show ¬ (m - c < m - c - 1 ∧ m - c - 1 ≤ m) by omega), if_neg (show ¬ (m - c - 1 = m - c) by omega), if_pos (show m - (c + 1) < m - c ∧ m - c ≤ m by omega)]
    · by_cases e2 : x = m - c - 1
      · rw [e2, swp_right _ _ _ (by omega), g, if_neg (show ¬ (m - c < m - c ∧ m - c ≤ m) by omega), if_pos rfl, if_neg (show ¬ (m - (c + 1) < m - c - 1 ∧ m - c - 1 ≤ m) by omega), if_pos (show m - c - 1 = m - (c + 1) by omega)]
      · rw [swp_other _ _ _ _ e1 e2, g]
        by_cases c1 : m - c < x ∧ x ≤ m
        · rw [if_pos c1, if_pos (show m - (c + 1) < x ∧ x ≤ m by omega)]
        · rw [if_neg c1, if_neg e1, if_neg (show ¬ (m - (c + 1) < x ∧ x ≤ m) by omega), if_neg (show ¬ x = m - (c + 1) by omega)]
theorem shd_perm (d : Array (Fin n)) (a m c : Nat) (h : a + c ≤ m) (hb : m + 1 ≤ d.size) : PermIn a (m + 1) d (shd d m c) := by
  induction c with
  | zero => exact permIn_refl _ _ _
  | succ c ih =>
    rw [shd]
    exact permIn_trans _ _ _ _ _ (ih (by omega)) (swp_permIn _ _ _ _ _ (by omega) (by omega) (by omega) (by omega) (by rw [shd_size]; exact hb))
theorem last_down (d : Array (Fin n)) (a m i : Nat) (hb : m + 1 ≤ d.size) (hS : Rise key a m d) (h1 : a ≤ i) (h2 : i ≤ m) (hl : i = a ∨ key d[i - 1]! ≤ key d[m]!) (hr : i = m ∨ key d[m]! < key d[i]!) :
    PermIn a (m + 1) d (shd d m (m - i)) ∧ Rise key a (m + 1) (shd d m (m - i)) := by
  refine ⟨shd_perm _ _ _ _ (by omega) hb, fun x y hx hxy hy => ?_⟩
  have g := shd_get d m (m - i) (by omega) (by omega)
  rw [show m - (m - i) = i by omega] at g
  rw [g, g]
  by_cases c1 : x < i
  · rw [if_neg (show ¬ (i < x ∧ x ≤ m) by omega), if_neg (show ¬ x = i by omega)]
    by_cases c2 : y < i
    · rw [if_neg (show ¬ (i < y ∧ y ≤ m) by omega), if_neg (show ¬ y = i by omega)]
      exact hS.le (by omega) (by omega) (by omega)
    · by_cases c3 : y = i
      · rw [if_neg (show ¬ (i < y ∧ y ≤ m) by omega), if_pos c3]
        have := hS.le (i := x) (j := i - 1) (by omega) (by omega) (by omega)
        rcases hl with h | h <;> omega
      · rw [if_pos (show i < y ∧ y ≤ m by omega)]
        exact hS.le (by omega) (by omega) (by omega)
  · rw [if_pos (show i < y ∧ y ≤ m by omega)]
    by_cases c3 : x = i
    · rw [if_neg (show ¬ (i < x ∧ x ≤ m) by omega), if_pos c3]
      have := hS.le (i := i) (j := y - 1) (by omega) (by omega) (by omega)
      rcases hr with h | h <;> omega
    · rw [if_pos (show i < x ∧ x ≤ m by omega)]
      exact hS.le (by omega) (by omega) (by omega)

/-- Behind the rotation: both halves, and that nothing of the left one is above the right one. -/
theorem halves (d d1 : Array (Fin n)) (a m b s e mid : Nat) (hb : b ≤ d.size) (hA : Rise key a m d) (hB : Rise key m b d) (h1 : a ≤ s) (h2 : s ≤ m) (h3 : m ≤ e) (h4 : e ≤ b) (hm : s + e = mid + m)
    (hl : s = a ∨ e = b ∨ key d[s - 1]! ≤ key d[e]!) (hr : s = m ∨ e = m ∨ key d[e - 1]! < key d[s]!) (hR : Rot d d1 s m e) :
    PermIn a b d d1 ∧ Rise key a s d1 ∧ Rise key s mid d1 ∧ Rise key mid e d1 ∧ Rise key e b d1 ∧ ∀ i j, a ≤ i → i < mid → mid ≤ j → j < b → key d1[i]! ≤ key d1[j]! := by
  obtain ⟨hp, hL, hQ⟩ := hR
  have g1 : ∀ i, i < s ∨ e ≤ i → d1[i]! = d[i]! := hp.2.1
  have g2 : ∀ i, s ≤ i → i < mid → d1[i]! = d[m + (i - s)]! := fun i q1 q2 => by
    have := hL (i - s) (by omega)
    rwa [show s + (i - s) = i by omega] at this
  have g3 : ∀ i, mid ≤ i → i < e → d1[i]! = d[s + (i - mid)]! := fun i q1 q2 => by
    have := hQ (i - mid) (by omega)
    rwa [show s + (e - m) + (i - mid) = i by omega] at this
  refine ⟨perm_wide hp h1 h4 hb, fun i j q1 q2 q3 => ?_, fun i j q1 q2 q3 => ?_, fun i j q1 q2 q3 => ?_, fun i j q1 q2 q3 => ?_, fun i j q1 q2 q3 q4 => ?_⟩
  · rw [g1 i (.inl (by omega)), g1 j (.inl q3)]
    exact hA.le q1 (by omega) (by omega)
  · rw [g2 i q1 (by omega), g2 j (by omega) q3]
    exact hB.le (by omega) (by omega) (by omega)
  · rw [g3 i q1 (by omega), g3 j (by omega) q3]
    exact hA.le (by omega) (by omega) (by omega)
  · rw [g1 i (.inr q1), g1 j (.inr (by omega))]
    exact hB.le (by omega) (by omega) q3
  · by_cases c1 : i < s
    · rw [g1 i (.inl c1)]
      by_cases c2 : j < e
      · rw [g3 j q3 c2]
        exact hA.le q1 (by omega) (by omega)
      · rw [g1 j (.inr (by omega))]
        have u1 := hA.le (i := i) (j := s - 1) q1 (by omega) (by omega)
        have u2 := hB.le (i := e) (j := j) h3 (by omega) q4
        rcases hl with h | h | h <;> omega
    · rw [g2 i (by omega) q2]
      by_cases c2 : j < e
      · rw [g3 j q3 c2]
        have u1 := hB.le (i := m + (i - s)) (j := e - 1) (by omega) (by omega) (by omega)
        have u2 := hA.le (i := s) (j := s + (j - mid)) h1 (by omega) (by omega)
        rcases hr with h | h | h <;> omega
      · rw [g1 j (.inr (by omega))]
        exact hB.le (by omega) (by omega) q4
theorem both_sides (d1 d2 d3 : Array (Fin n)) (a mid b : Nat) (hb : b ≤ d1.size) (h1 : a ≤ mid) (h2 : mid ≤ b) (hx : ∀ i j, a ≤ i → i < mid → mid ≤ j → j < b → key d1[i]! ≤ key d1[j]!)
    (p2 : PermIn a mid d1 d2) (s2 : Rise key a mid d2) (p3 : PermIn mid b d2 d3) (s3 : Rise key mid b d3) : PermIn a b d1 d3 ∧ Rise key a b d3 := by
  have z2 : d2.size = d1.size := p2.1
  refine ⟨permIn_trans _ _ _ _ _ (perm_wide p2 (Nat.le_refl _) h2 hb) (perm_wide p3 h1 (Nat.le_refl _) (by omega)), ?_⟩
  have x2 : ∀ i, a ≤ i → i < mid → ∀ j, mid ≤ j → j < b → key d2[i]! ≤ key d1[j]! := fun i q1 q2 =>
    permIn_all d1 d2 a mid (fun z => ∀ j, mid ≤ j → j < b → key z ≤ key d1[j]!) (by omega) p2 (fun i q1 q2 j q3 q4 => hx i j q1 q2 q3 q4) i q1 q2
  have x3 : ∀ j, mid ≤ j → j < b → ∀ i, a ≤ i → i < mid → key d3[i]! ≤ key d3[j]! := fun j q1 q2 =>
    permIn_all d2 d3 mid b (fun z => ∀ i, a ≤ i → i < mid → key d3[i]! ≤ key z) (by omega) p3 (fun j q3 q4 i q5 q6 => by
      rw [p3.2.1 i (.inl q6), p2.2.1 j (.inr q3)]
      exact x2 i q5 q6 j q3 q4) j q1 q2
  intro i j q1 q2 q3
  by_cases c1 : j < mid
  · rw [p3.2.1 i (.inl (by omega)), p3.2.1 j (.inl c1)]
    exact s2 i j q1 q2 c1
  · by_cases c2 : i < mid
    · exact x3 j (by omega) q3 i q1 c2
    · exact s3 i j (by omega) q2 q3
end
end Go.Proofs.YtbjjkhlebdaoaaaGreatDoor.PkC
end

section
/-
  slices.symMergeCmpFunc where one side has one element.
-/
namespace Go.Proofs.YtbjjkhlebdaoaaaGreatDoor.PkC
open Go.Shelf Go.RowKit Go.Lib Go.Sort Go.My

section
variable {n : Nat} [NeZero n] {raw key : Fin n → Int} {w0 : World} {blk off cap c cb co len cc : Nat} {d0 : Array (Fin n)}
theorem sw_cell {w : World} {d : Array (Fin n)} (S : SW encF w0 blk off d w) {p : Addr} {v : Value} (hp : p.block ≠ blk) (hv : w0.cell? p = some v) : w.cell? p = some v := by
  obtain ⟨m, os, rfl⟩ := S
  have hlt : p.block < w0.heap.size := block_lt_of_cell hv
  unfold sortWorld
  rw [cell?_grow _ _ _ (by rw [size_putRow]; exact hlt), cell?_putRow_other _ _ _ _ _ _ (Or.inl hp)]
  exact hv
/-- Two symbols are compared, in whatever world of the sort. -/
theorem cmp_sw {w : World} {d : Array (Fin n)} (hB : Box w0 blk c cb co len cc n key) (S : SW encF w0 blk off d w) (x y : Fin n) (q : Nat) :
    Calls Tryz.prog 110 #[.int .i64 ((x.val : Nat) : Int), .int .i64 ((y.val : Nat) : Int), .pointer (some ⟨c, 0, none⟩)] (w.drewN q) fun e w' => e = .returned (.int .i64 (cf key x y)) ∧ ∃ m, w' = (w.drewN q).drewN m :=
  have S' := S.drewN q
  less_any x.val y.val len cc c cb co (key x) (key y) _ (Nat.lt_of_lt_of_le x.2 hB.nle) (Nat.lt_of_lt_of_le y.2 hB.nle) (sw_cell S' hB.ne1 hB.box) (sw_cell S' hB.ne2 (hB.at_ x)) (sw_cell S' hB.ne2 (hB.at_ y))
omit [NeZero n] in
theorem cf_neg (x y : Fin n) : cf key x y < 0 ↔ key x < key y := by
  have := lt_key key x y
  unfold ltOf at this
  by_cases h : key x < key y
  · rw [decide_eq_true h] at this; exact ⟨fun _ => h, fun _ => of_decide_eq_true this⟩
  · rw [decide_eq_false h] at this; exact ⟨fun h' => absurd h' (of_decide_eq_false this), fun h' => absurd h' h⟩
/-- What a step of a binary search wants: two places are compared. -/
theorem cmp_step {w : World} {d : Array (Fin n)} (hB : Box w0 blk c cb co len cc n raw) (R : Row1 encF w0 blk off d0) (hs : d0.size = d.size) (S : SW encF w0 blk off d w) (i j : Nat) (hi : i < d.size) (hj : j < d.size) (hT : Tie raw key) (hv : d[j]!.val < d[i]!.val) :
    ∃ (x y r : Int), w.cell? ⟨blk, off + i, none⟩ = some (.int .i64 x) ∧ w.cell? ⟨blk, off + j, none⟩ = some (.int .i64 y) ∧
      Hid (∀ q, Calls Tryz.prog 110 #[.int .i64 x, .int .i64 y, .pointer (some ⟨c, 0, none⟩)] (w.drewN q) fun e w' => e = .returned (.int .i64 r) ∧ ∃ m, w' = (w.drewN q).drewN m) ∧ Hid (r < 0 ↔ key d[i]! < key d[j]!) :=
  ⟨_, _, _, S.c1 R hs.symm i hi, S.c1 R hs.symm j hj, Lib.hid (cmp_sw hB S d[i]! d[j]!), Lib.hid ((cf_neg _ _).trans (hT _ _ hv))⟩

set_option maxRecDepth 100000 in
set_option maxHeartbeats 4000000 in
theorem sym_first {w : World} {a m b : Nat} {d : Array (Fin n)} (hB : Box w0 blk c cb co len cc n raw) (R : Row1 encF w0 blk off d0) (hs : d0.size = d.size) (S : SW encF w0 blk off d w) (h1 : m = a + 1) (h2 : m < b) (h3 : b ≤ d.size) (hsz : d.size < 2305843009213693952) (hR : Rise key m b d) (hT : Tie raw key) (hP : Sep a m b d) :
    Calls Tryz.prog 118 #[.slice (some ⟨blk, off, none⟩) d.size cap, .int .i64 a, .int .i64 m, .int .i64 b, .func (.func 110) #[] #[.pointer (some ⟨c, 0, none⟩)]] w fun e w' => e = .returned (.tuple #[]) ∧ ∃ d', d'.size = d.size ∧ PermIn a b d d' ∧ Rise key a b d' ∧ SW encF w0 blk off d' w' := by
  have HB := Lib.hid hB
  have HR := Lib.hid R
  have HS := Lib.hid S
  have HD := Lib.hid hs
  have HI := Lib.hid hR
  have HT := Lib.hid hT
  have HSP := Lib.hid hP
  clear hB R S hs hR hT hP
  have k1 : IntKind.i64.wrap ((m : Int) - (a : Int)) = 1 := by rw [IntKind.wrap_i64]; omega
  have HM := Lib.hid h1
  have h0 : a < m := by omega
  clear h1
  go_enter Tryz.func118, Tryz.ntmps118
  go_wp2_with fail
  clear k1
  go_loopw [10, 11] (fun s t wr => ∃ (i j : Nat), s = .int .i64 (i : Int) ∧ t = .int .i64 (j : Int) ∧ m ≤ i ∧ i ≤ j ∧ j ≤ b ∧ Hid (i = m ∨ key d[i - 1]! < key d[a]!) ∧ Hid (j = b ∨ key d[a]! ≤ key d[j]!) ∧ Hid (SW encF w0 blk off d wr)) (fun s t _ => (intOf t).toNat - (intOf s).toNat)
  case atStart => exact ⟨m, b, rfl, rfl, by omega, by omega, by omega, Lib.hid (.inl rfl), Lib.hid (.inl rfl), HS⟩
  case round =>
    clear HS
    obtain ⟨i, j, rfl, rfl, him, hij, hjb, HL, HG, HS⟩ := hrel
    by_cases hlt : i < j
    · have hlti : (i : Int) < (j : Int) := by omega
      obtain ⟨h, hh⟩ : ∃ h, h = (i + j) / 2 := ⟨_, rfl⟩
      obtain ⟨x, y, r, c1, c2, HC, HN⟩ := cmp_step HB.out HR.out HD.out HS.out h a (by omega) (by omega) HT.out (HSP.out a h (by omega) (by omega) (by omega) (by omega))
      have e1 : ((i : Int) + (j : Int)) / 2 = (h : Int) := by omega
      have b1 : (h : Int) < (d.size : Int) := by omega
      have b2 : (a : Int) < (d.size : Int) := by omega
      have g1 : i ≤ h ∧ h < j := by omega
      clear hh hlt
      go_wp2_with fail
      by_cases hr : r < 0
      · have hd : decide (r < 0) = true := decide_eq_true hr
        have HK := Lib.hid (HN.out.1 hr)
        clear HN
        go_quiet ((go_at_call 110; exact Calls.quiet_of (HC.out _)))
        have HS2 : Hid (SW encF w0 blk off d (wr.drewN nq)) := Lib.hid (HS.out.drewN nq)
        clear HC HS c1 c2
        generalize wr.drewN nq = w2 at *
        go_wp2_with fail
        go_roundw
        case measure => simp [intOf]; omega
        case rel => exact ⟨h + 1, j, by simp, rfl, by omega, by omega, hjb, Lib.hid (.inr HK.out), HG, HS2⟩
      · have hd : decide (r < 0) = false := decide_eq_false hr
        have HK := Lib.hid (Int.not_lt.1 fun h => hr (HN.out.2 h))
        clear HN
        go_quiet ((go_at_call 110; exact Calls.quiet_of (HC.out _)))
        have HS2 : Hid (SW encF w0 blk off d (wr.drewN nq)) := Lib.hid (HS.out.drewN nq)
        clear HC HS c1 c2
        generalize wr.drewN nq = w2 at *
        go_wp2_with fail
        go_roundw
        case measure => simp [intOf]; omega
        case rel => exact ⟨i, h, rfl, rfl, him, by omega, by omega, HL, Lib.hid (.inr HK.out), HS2⟩
    · obtain rfl : i = j := by omega
      have HF : Hid (PermIn a b d (shl d a (i - 1 - a)) ∧ Rise key a b (shl d a (i - 1 - a))) := by
        have := HM.out
        subst this
        exact Lib.hid (first_up d a b i h3 HI.out him hjb HL.out HG.out)
      clear HL HG HI
      have ea : IntKind.i64.wrap ((i : Int) - 1) = ((i - 1 : Nat) : Int) := by rw [IntKind.wrap_i64]; omega
      have ha1 : a ≤ i - 1 := by omega
      have hib : i - 1 < d.size := by omega
      generalize hz : i - 1 = z at *
      have HZ := Lib.hid hz
      clear hz
      go_wp2_with fail
      go_loopw [13] (fun s wr => ∃ k : Nat, s = .int .i64 (k : Int) ∧ a ≤ k ∧ k ≤ z ∧ Hid (SW encF w0 blk off (shl d a (k - a)) wr)) (fun s _ => z - (intOf s).toNat)
      case atStart => exact ⟨a, rfl, Nat.le_refl _, ha1, by rw [Nat.sub_self]; exact HS⟩
      case round =>
        clear HS
        obtain ⟨k, rfl, hak, hkz, HS⟩ := hrel
        by_cases hlt : k < z
        · have hlti : (k : Int) < (z : Int) := by omega
          have hs2 : (shl d a (k - a)).size = d.size := shl_size _ _ _
          obtain ⟨c1, c2, f1, f2, ⟨u, c3⟩, S2⟩ := two_cells HR.out (by have := HD.out; omega) HS.out k (k + 1) (by omega) (by omega)
          have e : swp (shl d a (k - a)) k (k + 1) = shl d a (k + 1 - a) := by
            rw [show k + 1 - a = (k - a) + 1 by omega, shl, show a + (k - a) = k by omega]
          have HS2 := Lib.hid S2
          rw [e] at HS2
          clear e
          clear S2 HS
          obtain ⟨x, hx⟩ : ∃ x, x = (((shl d a (k - a))[k]!).val : Int) := ⟨_, rfl⟩
          obtain ⟨y, hy⟩ : ∃ y, y = (((shl d a (k - a))[k + 1]!).val : Int) := ⟨_, rfl⟩
          unfold encF at c1 c2 c3
          rw [← hx] at c1
          rw [← hy] at c2 c3
          have HS2 : Hid (SW encF w0 blk off (shl d a (k + 1 - a)) ((wr.setCell ⟨blk, off + k, none⟩ (.int .i64 y)).setCell ⟨blk, off + (k + 1), none⟩ (.int .i64 x)).drew) := by rw [hx, hy]; exact HS2
          clear hx hy hs2
          obtain ⟨p, hp⟩ : ∃ p, p = k + 1 := ⟨_, rfl⟩
          have e1 : IntKind.i64.wrap ((k : Int) + 1) = (p : Int) := by rw [IntKind.wrap_i64]; omega
          have b1 : (k : Int) < (d.size : Int) := by omega
          have b2 : (p : Int) < (d.size : Int) := by omega
          rw [← hp] at c2 c3 f2 HS2
          have HP := Lib.hid hp
          clear hp
          go_wp2_with fail
          go_big_region
          clear c1 c2 c3 f1 f2
          generalize ((wr.setCell ⟨blk, off + k, none⟩ (.int .i64 y)).setCell ⟨blk, off + p, none⟩ (.int .i64 x)).drew = w3 at *
          go_wp2_with fail
          go_roundw
          case measure => have := HP.out; simp [intOf]; omega
          case rel => have := HP.out; exact ⟨p, rfl, by omega, by omega, HS2⟩
        · obtain rfl : k = z := by omega
          go_wp2_with fail
          refine bodyPost_ret (results_none rfl _ _ _) rfl ?_
          exact ⟨rfl, _, shl_size _ _ _, HF.out.1, HF.out.2, HS.out⟩

set_option maxRecDepth 100000 in
set_option maxHeartbeats 4000000 in
theorem sym_last {w : World} {a m b : Nat} {d : Array (Fin n)} (hB : Box w0 blk c cb co len cc n raw) (R : Row1 encF w0 blk off d0) (hs : d0.size = d.size) (S : SW encF w0 blk off d w) (h0 : a + 1 < m) (h1 : b = m + 1) (h3 : b ≤ d.size) (hsz : d.size < 2305843009213693952) (hR : Rise key a m d) (hT : Tie raw key) (hP : Sep a m b d) :
    Calls Tryz.prog 118 #[.slice (some ⟨blk, off, none⟩) d.size cap, .int .i64 a, .int .i64 m, .int .i64 b, .func (.func 110) #[] #[.pointer (some ⟨c, 0, none⟩)]] w fun e w' => e = .returned (.tuple #[]) ∧ ∃ d', d'.size = d.size ∧ PermIn a b d d' ∧ Rise key a b d' ∧ SW encF w0 blk off d' w' := by
  have HB := Lib.hid hB
  have HR := Lib.hid R
  have HS := Lib.hid S
  have HD := Lib.hid hs
  have HI := Lib.hid hR
  have HT := Lib.hid hT
  have HSP := Lib.hid hP
  clear hB R S hs hR hT hP
  obtain ⟨g, hg⟩ : ∃ g, g = m - a := ⟨_, rfl⟩
  have k1 : IntKind.i64.wrap ((m : Int) - (a : Int)) = (g : Int) := by rw [IntKind.wrap_i64]; omega
  have k2 : ((g : Int) == 1) = false := by simp; omega
  have k3 : IntKind.i64.wrap ((b : Int) - (m : Int)) = 1 := by rw [IntKind.wrap_i64]; omega
  have hmd : m < d.size := by omega
  have HM := Lib.hid h1
  have HA := Lib.hid h3
  clear h1 h3 hg
  go_enter Tryz.func118, Tryz.ntmps118
  go_wp2_with fail
  clear k1 k2 k3
  go_loopw [14, 15] (fun s t wr => ∃ (i j : Nat), s = .int .i64 (i : Int) ∧ t = .int .i64 (j : Int) ∧ a ≤ i ∧ i ≤ j ∧ j ≤ m ∧ Hid (i = a ∨ key d[i - 1]! ≤ key d[m]!) ∧ Hid (j = m ∨ key d[m]! < key d[j]!) ∧ Hid (SW encF w0 blk off d wr)) (fun s t _ => (intOf t).toNat - (intOf s).toNat)
  case atStart => exact ⟨a, m, rfl, rfl, by omega, by omega, by omega, Lib.hid (.inl rfl), Lib.hid (.inl rfl), HS⟩
  case round =>
    clear HS
    obtain ⟨i, j, rfl, rfl, him, hij, hjb, HL, HG, HS⟩ := hrel
    by_cases hlt : i < j
    · have hlti : (i : Int) < (j : Int) := by omega
      obtain ⟨h, hh⟩ : ∃ h, h = (i + j) / 2 := ⟨_, rfl⟩
      obtain ⟨x, y, r, c1, c2, HC, HN⟩ := cmp_step HB.out HR.out HD.out HS.out m h (by omega) (by omega) HT.out (HSP.out h m (by omega) (by omega) (by omega) (by have := HM.out; omega))
      have e1 : ((i : Int) + (j : Int)) / 2 = (h : Int) := by omega
      have b1 : (h : Int) < (d.size : Int) := by omega
      have b2 : (m : Int) < (d.size : Int) := by omega
      have g1 : i ≤ h ∧ h < j := by omega
      clear hh hlt
      go_wp2_with fail
      by_cases hr : r < 0
      · have hd : decide (r < 0) = true := decide_eq_true hr
        have HK := Lib.hid (HN.out.1 hr)
        clear HN
        go_quiet ((go_at_call 110; exact Calls.quiet_of (HC.out _)))
        have HS2 : Hid (SW encF w0 blk off d (wr.drewN nq)) := Lib.hid (HS.out.drewN nq)
        clear HC HS c1 c2
        generalize wr.drewN nq = w2 at *
        go_wp2_with fail
        go_roundw
        case measure => simp [intOf]; omega
        case rel => exact ⟨i, h, rfl, rfl, him, by omega, by omega, HL, Lib.hid (.inr HK.out), HS2⟩
      · have hd : decide (r < 0) = false := decide_eq_false hr
        have HK := Lib.hid (Int.not_lt.1 fun h => hr (HN.out.2 h))
        clear HN
        go_quiet ((go_at_call 110; exact Calls.quiet_of (HC.out _)))
        have HS2 : Hid (SW encF w0 blk off d (wr.drewN nq)) := Lib.hid (HS.out.drewN nq)
        clear HC HS c1 c2
        generalize wr.drewN nq = w2 at *
        go_wp2_with fail
        go_roundw
        case measure => simp [intOf]; omega
        case rel => exact ⟨h + 1, j, by simp, rfl, by omega, by omega, hjb, Lib.hid (.inr HK.out), HG, HS2⟩
    · obtain rfl : i = j := by omega
      have HF : Hid (PermIn a b d (shd d m (m - i)) ∧ Rise key a b (shd d m (m - i))) := by
        have h1 := HM.out
        have h2 := HA.out
        subst h1
        exact Lib.hid (last_down d a m i h2 HI.out him hjb HL.out HG.out)
      clear HL HG HI
      go_wp2_with fail
      go_loopw [17] (fun s wr => ∃ k : Nat, s = .int .i64 (k : Int) ∧ i ≤ k ∧ k ≤ m ∧ Hid (SW encF w0 blk off (shd d m (m - k)) wr)) (fun s _ => (intOf s).toNat - i)
      case atStart => exact ⟨m, rfl, hjb, Nat.le_refl _, by rw [Nat.sub_self]; exact HS⟩
      case round =>
        clear HS
        obtain ⟨k, rfl, hik, hkm, HS⟩ := hrel
        by_cases hlt : i < k
        · have hlti : (i : Int) < (k : Int) := by omega
          have hs2 : (shd d m (m - k)).size = d.size := shd_size _ _ _
          obtain ⟨c1, c2, f1, f2, ⟨u, c3⟩, S2⟩ := two_cells HR.out (by have := HD.out; omega) HS.out k (k - 1) (by omega) (by omega)
          have e : swp (shd d m (m - k)) k (k - 1) = shd d m (m - (k - 1)) := by
            rw [show m - (k - 1) = (m - k) + 1 by omega, shd, show m - (m - k) = k by omega]
          have HS2 := Lib.hid S2
          rw [e] at HS2
          clear e
          clear S2 HS
          obtain ⟨x, hx⟩ : ∃ x, x = (((shd d m (m - k))[k]!).val : Int) := ⟨_, rfl⟩
          obtain ⟨y, hy⟩ : ∃ y, y = (((shd d m (m - k))[k - 1]!).val : Int) := ⟨_, rfl⟩
          unfold encF at c1 c2 c3
          rw [← hx] at c1
          rw [← hy] at c2 c3
          have HS2 : Hid (SW encF w0 blk off (shd d m (m - (k - 1))) ((wr.setCell ⟨blk, off + k, none⟩ (.int .i64 y)).setCell ⟨blk, off + (k - 1), none⟩ (.int .i64 x)).drew) := by rw [hx, hy]; exact HS2
          clear hx hy hs2
          obtain ⟨p, hp⟩ : ∃ p, p = k - 1 := ⟨_, rfl⟩
          have e1 : IntKind.i64.wrap ((k : Int) - 1) = (p : Int) := by rw [IntKind.wrap_i64]; omega
          have b1 : (k : Int) < (d.size : Int) := by omega
          have b2 : (p : Int) < (d.size : Int) := by omega
          rw [← hp] at c2 c3 f2 HS2
          have HP : Hid (p + 1 = k) := Lib.hid (by omega)
          clear hp
          go_wp2_with fail
          go_big_region
          clear c1 c2 c3 f1 f2
          generalize ((wr.setCell ⟨blk, off + k, none⟩ (.int .i64 y)).setCell ⟨blk, off + p, none⟩ (.int .i64 x)).drew = w3 at *
          go_wp2_with fail
          go_roundw
          case measure => have := HP.out; simp [intOf]; omega
          case rel => have := HP.out; exact ⟨p, rfl, by omega, by omega, HS2⟩
        · obtain rfl : i = k := by omega
          go_wp2_with fail
          refine bodyPost_ret (results_none rfl _ _ _) rfl ?_
          exact ⟨rfl, _, shd_size _ _ _, HF.out.1, HF.out.2, HS.out⟩
end
end Go.Proofs.YtbjjkhlebdaoaaaGreatDoor.PkC
end
