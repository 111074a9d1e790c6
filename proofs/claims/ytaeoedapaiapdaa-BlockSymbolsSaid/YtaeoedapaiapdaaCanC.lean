/-
  canon.firsts: the first code of each length.
-/
import Derived.Test.YtaeoedapaiapdaaCanB
namespace Go.Proofs.Ytaeoedapaiapdaa.CanC
open Go.RowKit Go.My BitMath CanMath

def uv (n : Nat) : Value := .int .u32 (n : Int)
/-- A row of 16 words. -/
structure Wrds (C : Array Value) (f : Nat → Nat) : Prop where
  size : C.size = 16
  at_ : ∀ i, i < 16 → C[i]? = some (uv (f i))
theorem Wrds.one {C : Array Value} {f : Nat → Nat} (h : Wrds C f) : C.all (·.oneCell') = true := by
  rw [Array.all_eq_true]
  intro i hi
  have := h.at_ i (by rw [← h.size]; exact hi)
  rw [Array.getElem?_eq_getElem hi] at this
  injection this with this
  rw [this]
  rfl
theorem Wrds.set {C : Array Value} {f g : Nat → Nat} (h : Wrds C f) (n : Nat) (x : Int) (hx : x = (g n : Int)) (hg : ∀ i, i ≠ n → g i = f i) : Wrds (C.setIfInBounds n (.int .u32 x)) g := by
  refine ⟨by rw [Array.size_setIfInBounds]; exact h.size, fun i hi => ?_⟩
  rw [Array.getElem?_setIfInBounds]
  by_cases he : n = i
  · subst he
    rw [if_pos rfl, if_pos (by rw [h.size]; exact hi), hx]; rfl
  · rw [if_neg he, h.at_ i hi, hg i (fun e => he e.symm)]
theorem Wrds.same {C : Array Value} {f g : Nat → Nat} (h : Wrds C f) (hg : ∀ i, i < 16 → g i = f i) : Wrds C g := ⟨h.size, fun i hi => by rw [h.at_ i hi, hg i hi]⟩
abbrev u16z : Array Value := #[.int .u32 0, .int .u32 0, .int .u32 0, .int .u32 0, .int .u32 0, .int .u32 0, .int .u32 0, .int .u32 0, .int .u32 0, .int .u32 0, .int .u32 0, .int .u32 0, .int .u32 0, .int .u32 0, .int .u32 0, .int .u32 0]
theorem u16z_wrds : Wrds u16z (fun _ => 0) := ⟨rfl, by
  intro i hi
  have e : u16z = Array.replicate 16 (Value.int .u32 0) := rfl
  rw [e, Array.getElem?_replicate, if_pos hi]
  rfl⟩
theorem info_wrd : (Try.prog.info? 88).map (·.size) = some 16 := by kernel_rfl
theorem firsts_ret {a : Act} {w : World} {g : Nat} {C : Array Value} {R : Ending → World → Prop} (hd : a.defers = []) (hp : a.tmps.getD 2 undef = .pointer (some ⟨g, 0, none⟩))
    (hg : Blk w g 88 C) (hs : C.size = 16) (h : R (.returned (.agg C)) w) :
    bodyPost Try.prog Try.f48 R .ret a w :=
  bodyPost_ret (results_cell_row rfl _ _ g _ _ _ _ hp hg Try.underlying88 rfl (by rw [hs]; exact info_wrd)) hd h

theorem first_le (ls : List Nat) (hall : ∀ x ∈ ls, x ≤ 15) (hk : kr ls ≤ 32768) (n : Nat) (hn : n ≤ 15) : first ls n ≤ 32768 := by
  rcases Nat.eq_zero_or_pos n with rfl | h0
  · simp [first]
  · have h := first_low ls n h0 hn
    have h2 : low ls n ≤ kr ls := by rw [← low_all ls hall]; exact low_mono ls (by omega)
    have h3 := Nat.le_mul_of_pos_right (first ls n) (Nat.two_pow_pos (15 - n))
    omega
/-- The first codes, so many of them. -/
def ff (ls : List Nat) (n i : Nat) : Nat := if i < n then first ls i else 0
theorem ff_two (ls : List Nat) : ff ls 2 = fun _ => 0 := by
  funext i
  unfold ff
  split
  · obtain h | h : i = 0 ∨ i = 1 := by omega
    · subst h; rfl
    · subst h; rfl
  · rfl

set_option maxRecDepth 100000 in
set_option maxHeartbeats 4000000 in
theorem firsts_any (C : Array Value) (ls : List Nat) (w : World) (h : Cnts C (cf ls)) (hall : ∀ x ∈ ls, x ≤ 15) (hlen : ls.length ≤ 65536) (hkr : kr ls ≤ 32768) :
    Calls Try.prog 48 #[.agg C] w fun e w' => (∃ F, Wrds F (first ls) ∧ e = .returned (.agg F)) ∧ Below w.heap.size w w' := by
  have HN := Lib.hid h
  have HL : Hid (∀ n, n ≤ 15 → first ls n ≤ 32768) := Lib.hid (first_le ls hall hkr)
  have HCL : Hid (∀ i, cf ls i ≤ 65536) := Lib.hid fun i => Nat.le_trans (cf_le ls i) hlen
  clear h hall
  go_enter Try.func48, Try.ntmps48
  go_upto_region 2 with (fail)
  generalize hW : ((w.alloc (.cells C 84)).alloc (.cells u16z 88)).alloc (.cells u16z 88) = w1
  have HB : Hid (Below w.heap.size w w1) := Lib.hid (by rw [← hW]; exact (((Below.refl _ w).alloc (Nat.le_refl _) _).alloc (by simp) _).alloc (by simp; omega) _)
  have HC : Hid (Blk w1 w.heap.size 84 C) := Lib.hid (by rw [← hW]; exact ((Blk.new w _ _).alloc _).alloc _)
  have HX : Hid (Blk w1 (w.heap.size + 1) 88 u16z) := Lib.hid (by rw [← hW]; have := (Blk.new (w.alloc (.cells C 84)) 88 u16z).alloc (.cells u16z 88); simpa using this)
  have HF : Hid (Blk w1 (w.heap.size + 1 + 1) 88 u16z) := Lib.hid (by rw [← hW]; have := Blk.new ((w.alloc (.cells C 84)).alloc (.cells u16z 88)) 88 u16z; simpa using this)
  clear hW
  go_wp2_with fail
  go_loopw [4] (fun i wr => ∃ (n : Nat) (F : Array Value), 2 ≤ n ∧ n ≤ 16 ∧ i = .int .i64 (n : Int) ∧ Hid (Wrds F (ff ls n)) ∧ Hid (Blk wr (w.heap.size + 1 + 1) 88 F) ∧ Hid (Blk wr (w.heap.size + 1) 88 u16z) ∧ Hid (Blk wr w.heap.size 84 C) ∧ Hid (Below w.heap.size w wr)) (fun i _ => 16 - (intOf i).toNat)
  case atStart => exact ⟨2, u16z, by omega, by omega, rfl, Lib.hid (by rw [ff_two]; exact u16z_wrds), HF, HX, HC, HB⟩
  case round =>
    clear HB HC HX HF
    obtain ⟨n, F, hn2, hn16, rfl, HW, HF, HX, HC, HB⟩ := hrel
    by_cases hlt : n < 16
    · obtain ⟨m, rfl⟩ : ∃ m, n = m + 1 := ⟨n - 1, by omega⟩
      have hc1 : wr.cell? ⟨w.heap.size, m, none⟩ = some (.int .i64 ((cf ls m : Nat) : Int)) := by rw [HC.out.cell m]; exact HN.out.at_ m (by omega)
      have hc2 : wr.cell? ⟨w.heap.size + 1 + 1, m, none⟩ = some (.int .u32 ((first ls m : Nat) : Int)) := by
        rw [HF.out.cell m]; have := HW.out.at_ m (by omega); unfold ff at this; rw [if_pos (by omega)] at this; exact this
      obtain ⟨old, hc3⟩ : ∃ old, wr.cell? ⟨w.heap.size + 1 + 1, m + 1, none⟩ = some old := ⟨_, by rw [HF.out.cell (m + 1)]; exact HW.out.at_ (m + 1) (by omega)⟩
      have hfr : wr.frozen? ⟨w.heap.size + 1 + 1, m + 1, none⟩ = false := HF.out.frozen _
      have h1 := HL.out m (by omega)
      have h2 := HCL.out m
      have HS : Hid (first ls (m + 1) = 2 * (first ls m + cf ls m)) := Lib.hid (by
        obtain ⟨j, rfl⟩ : ∃ j, m = j + 1 := ⟨m - 1, by omega⟩
        rw [first]; unfold cf; rw [if_neg (by omega)])
      have HFF : Hid (∀ i, i ≠ m + 1 → ff ls (m + 1 + 1) i = ff ls (m + 1) i) := Lib.hid (by
        intro i hi; unfold ff
        by_cases h : i < m + 1
        · rw [if_pos h, if_pos (by omega)]
        · rw [if_neg h, if_neg (by omega)])
      have HFN : Hid (ff ls (m + 1 + 1) (m + 1) = first ls (m + 1)) := Lib.hid (by unfold ff; rw [if_pos (by omega)])
      generalize first ls m = x at *
      generalize cf ls m = c at *
      have k1 : IntKind.i64.wrap (m : Int) = (m : Int) := IntWalk.i64_in _ (by omega)
      have k2 : IntKind.u32.wrap (c : Int) = (c : Int) := IntWalk.u32_in _ (by omega)
      have k3 : IntKind.u32.wrap ((x : Int) + (c : Int)) = (x : Int) + (c : Int) := IntWalk.u32_in _ (by omega)
      have k4 : IntKind.u32.wrap (2 * ((x : Int) + (c : Int))) = 2 * ((x : Int) + (c : Int)) := IntWalk.u32_in _ (by omega)
      have k5 : ((m : Int) + 1).toNat = m + 1 := by omega
      have k6 : (0 : Int) ≤ (m : Int) + 1 := by omega
      have k7 : (m : Int) + 1 < 16 := by omega
      have k8 : (m : Int) < 16 := by omega
      go_wp2_with fail
      go_still_tail 13, (by kernel_rfl)
      change wpList _ _ _ _ _ wr.drew
      have HW2 : Hid (Blk wr.drew (w.heap.size + 1 + 1) 88 F) := HF
      have HX2 : Hid (Blk wr.drew (w.heap.size + 1) 88 u16z) := HX
      have HC2 : Hid (Blk wr.drew w.heap.size 84 C) := HC
      have HB2 : Hid (Below w.heap.size w wr.drew) := Lib.hid HB.out.drew
      have hc4 : wr.drew.cell? ⟨w.heap.size + 1 + 1, m + 1, none⟩ = some old := hc3
      have hfr2 : wr.drew.frozen? ⟨w.heap.size + 1 + 1, m + 1, none⟩ = false := hfr
      clear HF HX HC HB hc1 hc2 hc3 hfr k1 k2 k3 k4 k5 k6 k7 k8
      generalize wr.drew = w2 at *
      have HW3 : Hid (Wrds (F.setIfInBounds (m + 1) (.int .u32 (2 * ((x : Int) + (c : Int))))) (ff ls (m + 1 + 1))) := Lib.hid (HW.out.set (m + 1) _ (by rw [HFN.out, HS.out]; omega) HFF.out)
      go_wp2_with fail
      go_roundw
      case rel => exact ⟨m + 1 + 1, _, by omega, by omega, by go_num, HW3, Lib.hid (HW2.out.set_ (m + 1) _), Lib.hid (HX2.out.same (Below.heap_setCell _ _ _ _ (by simp))), Lib.hid (HC2.out.same (Below.heap_setCell _ _ _ _ (by simp; omega))), Lib.hid (HB2.out.setCell (p := ⟨w.heap.size + 1 + 1, m + 1, none⟩) (by simp; omega) _)⟩
      case measure => simp [intOf]; omega
    · obtain rfl : n = 16 := by omega
      have HS : Hid ((Try.prog.info? 88).map (·.size) = some F.size) := Lib.hid (by rw [HW.out.size]; exact info_wrd)
      have HS2 : Hid (u16z.size = F.size) := Lib.hid (by rw [HW.out.size]; rfl)
      go_wp2_with (first
        | (refine wpList_load_row rfl 88 _ rfl (w.heap.size + 1 + 1) rfl 88 F (0, 0) _ HF.out Try.underlying88 rfl HS.out ?_)
        | (refine wpList_store_row rfl _ _ _ rfl (w.heap.size + 1) _ rfl rfl 88 u16z HX.out HS.out HS2.out HW.out.one ?_))
      exact firsts_ret rfl rfl (HX.out.row F) HW.out.size ⟨⟨F, HW.out.same (fun i hi => by unfold ff; rw [if_pos hi]), rfl⟩, below_row HB.out (by omega) _⟩
end Go.Proofs.Ytaeoedapaiapdaa.CanC
