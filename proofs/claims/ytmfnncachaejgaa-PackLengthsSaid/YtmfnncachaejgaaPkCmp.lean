/-
  pack: the comparison of two symbols by their counts (cmp.Compare, the closure of rising), and what it is in the worlds of a sort.
-/
import Derived.Test.YtmfnncachaejgaaRows
import Derived.Test.YtmfnncachaejgaaRow
import Derived.Shelf.SlSortCmp.Insertion1
import Derived.Shelf.SlicesG.Cmp
import Derived.Shelf.Lay
import Derived.Ground.SlsfProg
import Derived.Ground.SlgcProg
import Derived.Lib.SortBridge
import Derived.Laws.Pointers
import Derived.Deep.QuietTactic
import Derived.BigQuiet
namespace Go.Proofs
open Go.Shelf
shelf_lay_g SlLaysC2.n5 Slgc 5 at Try 21 as Try.cmpL
shelf_lay_g SlLaysF.n20 Slsf 20 at Try 28 as Try.insL
end Go.Proofs
namespace Go.Proofs.Ytmfnncachaejgaa.PkC
open Go.Shelf Go.RowKit Go.Lib Go.Sort Go.My

/-- Two symbols by their counts. -/
def cf {n : Nat} (key : Fin n → Int) (x y : Fin n) : Int := Lib.compareInt (key x) (key y)
theorem lt_key {n : Nat} (key : Fin n → Int) (x y : Fin n) : ltOf (cf key) x y = decide (key x < key y) := by
  unfold ltOf cf Lib.compareInt
  by_cases h1 : key x < key y
  · simp [h1]
  · by_cases h2 : key y < key x <;> simp [h1, h2]
theorem swo_key {n : Nat} (key : Fin n → Int) : SWO (ltOf (cf key)) where
  irrefl x := by rw [lt_key]; simp
  trans x y z h1 h2 := by rw [lt_key] at *; simp at *; omega
  ntrans x y z h1 h2 := by rw [lt_key] at *; simp at *; omega
def encF {n : Nat} (x : Fin n) : Value := .int .i64 ((x.val : Nat) : Int)
theorem cmp_any (x y : Int) (w : World) : Calls Try.prog 21 #[.int .i64 x, .int .i64 y] w fun e w' => e = .returned (.int .i64 (Lib.compareInt x y)) ∧ w' = w := by
  have h := AnyG.cmp_Compare_int Try.cmpL x y w
  change Calls Try.prog 21 _ _ _ at h
  exact h
set_option maxHeartbeats 1000000 in
/-- The closure: counts stand in a box. -/
theorem less_any (x y len cap c cb co : Nat) (kx ky : Int) (W : World) (hx : x < len) (hy : y < len)
    (hb : W.cell? ⟨c, 0, none⟩ = some (.slice (some ⟨cb, co, none⟩) len cap)) (h1 : W.cell? ⟨cb, co + x, none⟩ = some (.int .i64 kx)) (h2 : W.cell? ⟨cb, co + y, none⟩ = some (.int .i64 ky)) :
    Calls Try.prog 20 #[.int .i64 (x : Int), .int .i64 (y : Int), .pointer (some ⟨c, 0, none⟩)] W fun e w' => e = .returned (.int .i64 (Lib.compareInt kx ky)) ∧ ∃ q, w' = W.drewN q := by
  have hxi : (x : Int) < (len : Int) := by omega
  have hyi : (y : Int) < (len : Int) := by omega
  have hcon := fun W => cmp_any kx ky W
  generalize Lib.compareInt kx ky = r at *
  go_enter Try.func20, Try.ntmps20
  go_wp2_with fail
  go_quiet ((go_at_call 21; exact Calls.quiet_of_same (hcon _)))
  go_wp2
  go_ret
  exact ⟨rfl, _, rfl⟩

/-- What a sort by counts is told: a box (block c) with the counts, in blocks other than the row's. -/
structure Box (w : World) (blk c cb co len cap n : Nat) (key : Fin n → Int) : Prop where
  nle : n ≤ len
  box : w.cell? ⟨c, 0, none⟩ = some (.slice (some ⟨cb, co, none⟩) len cap)
  at_ : ∀ x : Fin n, w.cell? ⟨cb, co + x.val, none⟩ = some (.int .i64 (key x))
  ne1 : c ≠ blk
  ne2 : cb ≠ blk
theorem lays_any {n : Nat} [NeZero n] {w : World} {blk off c cb co len cap size : Nat} {key : Fin n → Int} (h : Box w blk c cb co len cap n key) :
    CmpLays1 Try.prog 20 #[.pointer (some ⟨c, 0, none⟩)] encF (cf key) blk off size w := by
  intro m os dk _ x y
  have hk : ∀ (p : Addr) v, p.block ≠ blk → w.cell? p = some v → (sortWorld encF w blk off m dk os).cell? p = some v := by
    intro p v hp hv
    have hlt : p.block < w.heap.size := block_lt_of_cell hv
    unfold sortWorld
    rw [cell?_grow _ _ _ (by rw [size_putRow]; exact hlt), cell?_putRow_other _ _ _ _ _ _ (Or.inl hp)]
    exact hv
  refine (less_any x.val y.val len cap c cb co (key x) (key y) _ (Nat.lt_of_lt_of_le x.2 h.nle) (Nat.lt_of_lt_of_le y.2 h.nle) (hk _ _ h.ne1 h.box) (hk _ _ h.ne2 (h.at_ x)) (hk _ _ h.ne2 (h.at_ y))).mono ?_
  rintro e w' ⟨rfl, q, rfl⟩
  exact ⟨rfl, q, #[], by rw [grow_empty]⟩
theorem one_enc (n : Nat) : OneCell (encF (n := n)) := fun _ => rfl
theorem enters_less : ∀ args w, (callFunc 20 args).run Try.prog w = .ok (.enter 20 args) w := enters_of Try.func20 (by kernel_rfl) rfl
/-- slices.insertionSortCmpFunc in the worlds of a sort. -/
theorem ins_any {n : Nat} [NeZero n] {key : Fin n → Int} {w0 w : World} {blk off cap c cb co len cc a b : Nat} {d0 d : Array (Fin n)} (hB : Box w0 blk c cb co len cc n key)
    (R : Row1 encF w0 blk off d0) (hs : d0.size = d.size) (S : SW encF w0 blk off d w) (hab : a ≤ b) (hb : b ≤ d.size) (hsz : d.size < 4611686018427387904) :
    Calls Try.prog 28 #[.slice (some ⟨blk, off, none⟩) d.size cap, .int .i64 a, .int .i64 b, .func (.func 20) #[] #[.pointer (some ⟨c, 0, none⟩)]] w fun e w' => e = .returned (.tuple #[]) ∧ SW encF w0 blk off (Sort.insertionSort (ltOf (cf key)) d a b) w' := by
  have h := Any.insertionSortCmpFunc_s Try.insL encF (cf key) 20 #[.pointer (some ⟨c, 0, none⟩)] blk off cap a b d0 d w0 w enters_less (lays_any hB) R hs S hab hb hsz
  change Calls Try.prog 28 _ _ _ at h
  exact h
end Go.Proofs.Ytmfnncachaejgaa.PkC
