import Derived.Test.YtdbcendnibgcaaaGreatDoorMgAq
import Derived.StillTailTactics

section
/-
  canon's counts: Kraft's sum of them, their kind.
-/
namespace Go.Proofs.YtdbcendnibgcaaaGreatDoor.CanC
open Go.RowKit Go.My BitMath CanMath

theorem part_any (C : Array Value) (f : Nat → Nat) (h : Cnts C f) (k : Nat) (hk : k < 16) (w : World) : (Instr.index 147 (.agg C) (.int .i64 (k : Int))).run Tryz.prog w = .ok (.int .i64 ((f k : Nat) : Int)) w := by
  have hc := h.at_ k hk
  have hs : (sizeOf 3).run Tryz.prog w = .ok 1 w := by kernel_rfl
  unfold Instr.index
  simp [run_underlying Tryz.underlying147, asIntOf, hs, hk, Go.part, hc]

/-- Kraft's sum of counts. -/
def ksum (f : Nat → Nat) : Nat → Nat
  | 0 => 0
  | k + 1 => ksum f k + f k * 2 ^ (15 - k)
theorem ksum_low (ls : List Nat) (k : Nat) : ksum (cf ls) k = low ls k := by
  induction k with
  | zero => rw [low_zero]; rfl
  | succ k ih =>
    rw [ksum, ih, low_succ]
    unfold cf share
    by_cases h : k = 0
    · subst h; simp
    · rw [if_neg h, if_neg h]
theorem ksum_le (f : Nat → Nat) (hf : ∀ i, f i ≤ 65536) (k : Nat) : ksum f k ≤ 2147483648 * k := by
  induction k with
  | zero => simp [ksum]
  | succ k ih =>
    rw [ksum]
    have h1 : 2 ^ (15 - k) ≤ 2 ^ 15 := Nat.pow_le_pow_right (by omega) (by omega)
    have h2 : f k * 2 ^ (15 - k) ≤ 65536 * 2 ^ 15 := Nat.mul_le_mul (hf k) h1
    omega

set_option maxRecDepth 100000 in
set_option maxHeartbeats 2000000 in
theorem kraft_any (C : Array Value) (f : Nat → Nat) (w : World) (h : Cnts C f) (hf : ∀ i, f i ≤ 65536) :
    Calls Tryz.prog 124 #[.agg C] w fun e w' => e = .returned (.int .i64 ((ksum f 16 : Nat) : Int)) ∧ Below w.heap.size w w' := by
  have HN := Lib.hid h
  have HF := Lib.hid hf
  have HS : Hid ((Tryz.prog.info? 147).map (·.size) = some C.size) := Lib.hid (by rw [h.size]; exact info_cnt)
  clear h hf
  go_enter Tryz.func124, Tryz.ntmps124
  go_upto_region 2 with (fail)
  have HB : Hid (Below w.heap.size w (w.alloc (.cells C 147))) := Lib.hid ((Below.refl _ w).alloc (Nat.le_refl _) _)
  have HC : Hid (Blk (w.alloc (.cells C 147)) w.heap.size 147 C) := Lib.hid (Blk.new w _ _)
  generalize w.alloc (.cells C 147) = w1 at *
  go_wp2_with (refine wpList_load_row rfl 147 _ rfl w.heap.size rfl 147 C (0, 0) _ HC.out Tryz.underlying147 rfl HS.out ?_)
  go_loop [3, 4, 5, 7] (fun s _ _ i => ∃ k : Nat, k ≤ 16 ∧ i = .int .i64 (k : Int) ∧ s = .int .i64 ((ksum f k : Nat) : Int)) (fun _ _ _ i => 16 - (intOf i).toNat)
  case atStart => exact ⟨0, by omega, rfl, rfl⟩
  case round =>
    obtain ⟨k, hk, rfl, rfl⟩ := hrel
    by_cases hlt : k < 16
    · have hp := fun wx => part_any C f HN.out k hlt wx
      have hk1 := HF.out k
      have hks := ksum_le f HF.out k
      have h1 : 2 ^ (15 - k) ≤ 2 ^ 15 := Nat.pow_le_pow_right (by omega) (by omega)
      have h2 : f k * 2 ^ (15 - k) ≤ 65536 * 2 ^ 15 := Nat.mul_le_mul hk1 h1
      have HK : Hid (ksum f (k + 1) = ksum f k + f k * 2 ^ (15 - k)) := Lib.hid rfl
      generalize hx : f k = x at *
      have hm : (15 - (k : Int)).toNat = 15 - k := by omega
      have hm2 : min (15 - k) 64 = 15 - k := by omega
      have hsh : IntKind.i64.wrap ((x : Int) * 2 ^ (15 - k)) = ((x * 2 ^ (15 - k) : Nat) : Int) := by
        have e : (x : Int) * 2 ^ (15 - k) = ((x * 2 ^ (15 - k) : Nat) : Int) := by push_cast; rfl
        rw [e, IntWalk.i64_in _ (by omega)]
      generalize ksum f k = s at *
      generalize x * 2 ^ (15 - k) = y at *
      clear hx h1
      go_wp2_with fail
      go_round
      case rel => exact ⟨k + 1, by omega, by go_num, by rw [HK.out]; go_num⟩
      case measure => simp [intOf]; omega
    · obtain rfl : k = 16 := by omega
      go_wp2_with fail
      go_ret
      exact ⟨rfl, HB.out⟩

/-- What lengths are. -/
def kindN (ls : List Nat) : Int := if 32768 < kr ls then 4 else if kr ls = 0 then 0 else if kr ls = 32768 then 1 else if kr ls = 16384 ∧ ls.count 1 = 1 then 2 else 3

set_option maxRecDepth 100000 in
set_option maxHeartbeats 2000000 in
theorem kind_any (C : Array Value) (ls : List Nat) (w : World) (h : Cnts C (cf ls)) (hall : ∀ x ∈ ls, x ≤ 15) (hlen : ls.length ≤ 65536) :
    Calls Tryz.prog 114 #[.agg C] w fun e w' => e = .returned (.int .i64 (kindN ls)) ∧ Below w.heap.size w w' := by
  have HK : Hid (ksum (cf ls) 16 = kr ls) := Lib.hid (by rw [ksum_low, low_all ls hall])
  have HKN : Hid (kindN ls = if 32768 < kr ls then 4 else if kr ls = 0 then 0 else if kr ls = 32768 then 1 else if kr ls = 16384 ∧ ls.count 1 = 1 then 2 else 3) := Lib.hid rfl
  have HF : Hid (∀ i, cf ls i ≤ 65536) := Lib.hid fun i => Nat.le_trans (cf_le ls i) hlen
  have HC1 : Hid (C[1]? = some (.int .i64 ((ls.count 1 : Nat) : Int))) := Lib.hid (by have := h.at_ 1 (by omega); simpa [cf] using this)
  have hc1 : ls.count 1 ≤ 65536 := Nat.le_trans List.count_le_length hlen
  have HN := Lib.hid h
  have hkr : kr ls ≤ 16384 * ls.length := kr_le ls
  have HS : Hid ((Tryz.prog.info? 147).map (·.size) = some C.size) := Lib.hid (by rw [h.size]; exact info_cnt)
  clear h hall
  generalize kindN ls = X at *
  go_enter Tryz.func114, Tryz.ntmps114
  go_upto_region 1 with (fail)
  have HB : Hid (Below w.heap.size w (w.alloc (.cells C 147))) := Lib.hid ((Below.refl _ w).alloc (Nat.le_refl _) _)
  have HC : Hid (Blk (w.alloc (.cells C 147)) w.heap.size 147 C) := Lib.hid (Blk.new w _ _)
  generalize w.alloc (.cells C 147) = w1 at *
  go_wp2_with (refine wpList_load_row rfl 147 _ rfl w.heap.size rfl 147 C (0, 0) _ HC.out Tryz.underlying147 rfl HS.out ?_)
  refine (kraft_any C _ w1 HN.out HF.out).mono ?_
  rw [HK.out]
  rintro e w2 ⟨rfl, hb2⟩
  have HB2 := Lib.hid (HB.out.trans (hb2.mono HB.out.size))
  have HC2 : Hid (Blk w2 w.heap.size 147 C) := Lib.hid (HC.out.same (hb2.block _ HC.out.lt))
  have hcell : w2.cell? ⟨w.heap.size, 1, none⟩ = some (.int .i64 ((ls.count 1 : Nat) : Int)) := by rw [HC2.out.cell 1]; exact HC1.out
  clear hb2 HC HB HK HN HF HC1
  generalize ls.count 1 = c at *
  generalize kr ls = K at *
  by_cases h1 : 32768 < K
  · go_wp2_with fail
    go_ret
    exact ⟨ret_int (by rw [HKN.out, if_pos h1]), HB2.out⟩
  · by_cases h2 : K = 0
    · subst h2
      go_wp2_with fail
      go_ret
      exact ⟨ret_int (by rw [HKN.out]; rfl), HB2.out⟩
    · by_cases h3 : K = 32768
      · subst h3
        go_wp2_with fail
        go_ret
        exact ⟨ret_int (by rw [HKN.out]; rfl), HB2.out⟩
      · have e2 : ((K : Int) == 0) = false := by simp; omega
        have e3 : ((K : Int) == 32768) = false := by simp; omega
        by_cases h4 : K = 16384
        · subst h4
          by_cases h5 : c = 1
          · subst h5
            clear h1 h2 h3 e2 e3
            go_wp2_with fail
            go_ret
            exact ⟨ret_int (by rw [HKN.out]; rfl), HB2.out⟩
          · have e5 : ((c : Int) == 1) = false := by simp; omega
            have H5 := Lib.hid h5
            clear h1 h2 h3 e2 e3 h5
            go_wp2_with fail
            go_ret
            exact ⟨ret_int (by rw [HKN.out, if_neg (by omega), if_neg (by omega), if_neg (by omega), if_neg (fun hh => H5.out hh.2)]), HB2.out⟩
        · have e4 : ((K : Int) == 16384) = false := by simp; omega
          have H2 := Lib.hid h2
          have H3 := Lib.hid h3
          have H4 := Lib.hid h4
          clear h2 h3 h4
          go_wp2_with fail
          go_ret
          exact ⟨ret_int (by rw [HKN.out, if_neg h1, if_neg H2.out, if_neg H3.out, if_neg (fun hh => H4.out hh.1)]), HB2.out⟩
end Go.Proofs.YtdbcendnibgcaaaGreatDoor.CanC
end

section
/-
  canon.firsts: the first code of each length.
-/
namespace Go.Proofs.YtdbcendnibgcaaaGreatDoor.CanC
open Go.RowKit Go.My BitMath CanMath

def uv (n : Nat) : Value := .int .u32 (n : Int)
/-- A row of 16 words. -/
structure Wrds (C : Array Value) (f : Nat → Nat) : Prop where
  size : C.size = 16
  at_ : ∀ i, i < 16 → C[i]? = some (uv (f i))
theorem Wrds.one {C : Array Value} {f : Nat → Nat} (h : Wrds C f) : C.all (·.oneCell') = true := by
  rw [Array.all_eq_true]
  intro i hi
  have := h.at_ i (by rw [← h.size]; exact hi)
  rw [Array.getElem?_eq_getElem hi] at this
  injection this with this
  rw [this]
  rfl
theorem Wrds.set {C : Array Value} {f g : Nat → Nat} (h : Wrds C f) (n : Nat) (x : Int) (hx : x = (g n : Int)) (hg : ∀ i, i ≠ n → g i = f i) : Wrds (C.setIfInBounds n (.int .u32 x)) g := by
  refine ⟨by rw [Array.size_setIfInBounds]; exact h.size, fun i hi => ?_⟩
  rw [Array.getElem?_setIfInBounds]
  by_cases he : n = i
  · subst he
    rw [if_pos rfl, if_pos (by rw [h.size]; exact hi), hx]; rfl
  · rw [if_neg he, h.at_ i hi, hg i (fun e => he e.symm)]
theorem Wrds.same {C : Array Value} {f g : Nat → Nat} (h : Wrds C f) (hg : ∀ i, i < 16 → g i = f i) : Wrds C g := ⟨h.size, fun i hi => by rw [h.at_ i hi, hg i hi]⟩
abbrev u16z : Array Value := #[.int .u32 0, .int .u32 0, .int .u32 0, .int .u32 0, .int .u32 0, .int .u32 0, .int .u32 0, .int .u32 0, .int .u32 0, .int .u32 0, .int .u32 0, .int .u32 0, .int .u32 0, .int .u32 0, .int .u32 0, .int .u32 0]
theorem u16z_wrds : Wrds u16z (fun _ => 0) := ⟨rfl, by
  intro i hi
  have e : u16z = Array.replicate 16 (Value.int .u32 0) := rfl
  rw [e, Array.getElem?_replicate, if_pos hi]
  rfl⟩
theorem info_wrd : (Tryz.prog.info? 173).map (·.size) = some 16 := by kernel_rfl
theorem firsts_ret {a : Act} {w : World} {g : Nat} {C : Array Value} {R : Ending → World → Prop} (hd : a.defers = []) (hp : a.tmps.getD 2 undef = .pointer (some ⟨g, 0, none⟩))
    (hg : Blk w g 173 C) (hs : C.size = 16) (h : R (.returned (.agg C)) w) :
    bodyPost Tryz.prog Tryz.f132 R .ret a w :=
  bodyPost_ret (results_cell_row rfl _ _ g _ _ _ _ hp hg Tryz.underlying173 rfl (by rw [hs]; exact info_wrd)) hd h

theorem first_le (ls : List Nat) (hall : ∀ x ∈ ls, x ≤ 15) (hk : kr ls ≤ 32768) (n : Nat) (hn : n ≤ 15) : first ls n ≤ 32768 := by
  rcases Nat.eq_zero_or_pos n with rfl | h0
  · simp [first]
  · have h := first_low ls n h0 hn
    have h2 : low ls n ≤ kr ls := by rw [← low_all ls hall]; exact low_mono ls (by omega)
    have h3 := Nat.le_mul_of_pos_right (first ls n) (Nat.two_pow_pos (15 - n))
    omega
/-- The first codes, so many of them. -/
def ff (ls : List Nat) (n i : Nat) : Nat := if i < n then first ls i else 0
theorem ff_two (ls : List Nat) : ff ls 2 = fun _ => 0 := by
  funext i
  unfold ff
  split
  · obtain h | h : i = 0 ∨ i = 1 := by omega
    · subst h; rfl
    · subst h; rfl
  · rfl

set_option maxRecDepth 100000 in
set_option maxHeartbeats 4000000 in
theorem firsts_any (C : Array Value) (ls : List Nat) (w : World) (h : Cnts C (cf ls)) (hall : ∀ x ∈ ls, x ≤ 15) (hlen : ls.length ≤ 65536) (hkr : kr ls ≤ 32768) :
    Calls Tryz.prog 132 #[.agg C] w fun e w' => (∃ F, Wrds F (first ls) ∧ e = .returned (.agg F)) ∧ Below w.heap.size w w' := by
  have HN := Lib.hid h
  have HL : Hid (∀ n, n ≤ 15 → first ls n ≤ 32768) := Lib.hid (first_le ls hall hkr)
  have HCL : Hid (∀ i, cf ls i ≤ 65536) := Lib.hid fun i => Nat.le_trans (cf_le ls i) hlen
  clear h hall
  go_enter Tryz.func132, Tryz.ntmps132
  go_upto_region 2 with (fail)
  generalize hW : ((w.alloc (.cells C 147)).alloc (.cells u16z 173)).alloc (.cells u16z 173) = w1
  have HB : Hid (Below w.heap.size w w1) := Lib.hid (by rw [← hW]; exact (((Below.refl _ w).alloc (Nat.le_refl _) _).alloc (by simp) _).alloc (by simp; omega) _)
  have HC : Hid (Blk w1 w.heap.size 147 C) := Lib.hid (by rw [← hW]; exact ((Blk.new w _ _).alloc _).alloc _)
  have HX : Hid (Blk w1 (w.heap.size + 1) 173 u16z) := Lib.hid (by rw [← hW]; have := (Blk.new (w.alloc (.cells C 147)) 173 u16z).alloc (.cells u16z 173); simpa using this)
  have HF : Hid (Blk w1 (w.heap.size + 1 + 1) 173 u16z) := Lib.hid (by rw [← hW]; have := Blk.new ((w.alloc (.cells C 147)).alloc (.cells u16z 173)) 173 u16z; simpa using this)
  clear hW
  go_wp2_with fail
  go_loopw [4] (fun i wr => ∃ (n : Nat) (F : Array Value), 2 ≤ n ∧ n ≤ 16 ∧ i = .int .i64 (n : Int) ∧ Hid (Wrds F (ff ls n)) ∧ Hid (Blk wr (w.heap.size + 1 + 1) 173 F) ∧ Hid (Blk wr (w.heap.size + 1) 173 u16z) ∧ Hid (Blk wr w.heap.size 147 C) ∧ Hid (Below w.heap.size w wr)) (fun i _ => 16 - (intOf i).toNat)
  case atStart => exact ⟨2, u16z, by omega, by omega, rfl, Lib.hid (by rw [ff_two]; exact u16z_wrds), HF, HX, HC, HB⟩
  case round =>
    clear HB HC HX HF
    obtain ⟨n, F, hn2, hn16, rfl, HW, HF, HX, HC, HB⟩ := hrel
    by_cases hlt : n < 16
    · obtain ⟨m, rfl⟩ : ∃ m, n = m + 1 := ⟨n - 1, by omega⟩
      have hc1 : wr.cell? ⟨w.heap.size, m, none⟩ = some (.int .i64 ((cf ls m : Nat) : Int)) := by rw [HC.out.cell m]; exact HN.out.at_ m (by omega)
      have hc2 : wr.cell? ⟨w.heap.size + 1 + 1, m, none⟩ = some (.int .u32 ((first ls m : Nat) : Int)) := by
        rw [HF.out.cell m]; have := HW.out.at_ m (by omega); unfold ff at this; rw [if_pos (by omega)] at this; exact this
      obtain ⟨old, hc3⟩ : ∃ old, wr.cell? ⟨w.heap.size + 1 + 1, m + 1, none⟩ = some old := ⟨_, by rw [HF.out.cell (m + 1)]; exact HW.out.at_ (m + 1) (by omega)⟩
      have hfr : wr.frozen? ⟨w.heap.size + 1 + 1, m + 1, none⟩ = false := HF.out.frozen _
      have h1 := HL.out m (by omega)
      have h2 := HCL.out m
      have HS : Hid (first ls (m + 1) = 2 * (first ls m + cf ls m)) := Lib.hid (by
        obtain ⟨j, rfl⟩ : ∃ j, m = j + 1 := ⟨m - 1, by omega⟩
        rw [first]; unfold cf; rw [if_neg (by omega)])
      have HFF : Hid (∀ i, i ≠ m + 1 → ff ls (m + 1 + 1) i = ff ls (m + 1) i) := Lib.hid (by
        intro i hi; unfold ff
        by_cases h : i < m + 1
        · rw [if_pos h, if_pos (by omega)]
        · rw [if_neg h, if_neg (by omega)])
      have HFN : Hid (ff ls (m + 1 + 1) (m + 1) = first ls (m + 1)) := Lib.hid (by unfold ff; rw [if_pos (by omega)])
      generalize first ls m = x at *
      generalize cf ls m = c at *
      have k1 : IntKind.i64.wrap (m : Int) = (m : Int) := IntWalk.i64_in _ (by omega)
      have k2 : IntKind.u32.wrap (c : Int) = (c : Int) := IntWalk.u32_in _ (by omega)
      have k3 : IntKind.u32.wrap ((x : Int) + (c : Int)) = (x : Int) + (c : Int) := IntWalk.u32_in _ (by omega)
      have k4 : IntKind.u32.wrap (2 * ((x : Int) + (c : Int))) = 2 * ((x : Int) + (c : Int)) := IntWalk.u32_in _ (by omega)
      have k5 : ((m : Int) + 1).toNat = m + 1 := by omega
      have k6 : (0 : Int) ≤ (m : Int) + 1 := by omega
      have k7 : (m : Int) + 1 < 16 := by omega
      have k8 : (m : Int) < 16 := by omega
      go_wp2_with fail
      go_still_tail 13, (by kernel_rfl)
      change wpList _ _ _ _ _ wr.drew
      have HW2 : Hid (Blk wr.drew (w.heap.size + 1 + 1) 173 F) := HF
      have HX2 : Hid (Blk wr.drew (w.heap.size + 1) 173 u16z) := HX
      have HC2 : Hid (Blk wr.drew w.heap.size 147 C) := HC
      have HB2 : Hid (Below w.heap.size w wr.drew) := Lib.hid HB.out.drew
      have hc4 : wr.drew.cell? ⟨w.heap.size + 1 + 1, m + 1, none⟩ = some old := hc3
      have hfr2 : wr.drew.frozen? ⟨w.heap.size + 1 + 1, m + 1, none⟩ = false := hfr
      clear HF HX HC HB hc1 hc2 hc3 hfr k1 k2 k3 k4 k5 k6 k7 k8
      generalize wr.drew = w2 at *
      have HW3 : Hid (Wrds (F.setIfInBounds (m + 1) (.int .u32 (2 * ((x : Int) + (c : Int))))) (ff ls (m + 1 + 1))) := Lib.hid (HW.out.set (m + 1) _ (by rw [HFN.out, HS.out]; omega) HFF.out)
      go_wp2_with fail
      go_roundw
      case rel => exact ⟨m + 1 + 1, _, by omega, by omega, by go_num, HW3, Lib.hid (HW2.out.set_ (m + 1) _), Lib.hid (HX2.out.same (Below.heap_setCell _ _ _ _ (by simp))), Lib.hid (HC2.out.same (Below.heap_setCell _ _ _ _ (by simp; omega))), Lib.hid (HB2.out.setCell (p := ⟨w.heap.size + 1 + 1, m + 1, none⟩) (by simp; omega) _)⟩
      case measure => simp [intOf]; omega
    · obtain rfl : n = 16 := by omega
      have HS : Hid ((Tryz.prog.info? 173).map (·.size) = some F.size) := Lib.hid (by rw [HW.out.size]; exact info_wrd)
      have HS2 : Hid (u16z.size = F.size) := Lib.hid (by rw [HW.out.size]; rfl)
      go_wp2_with (first
        | (refine wpList_load_row rfl 173 _ rfl (w.heap.size + 1 + 1) rfl 173 F (0, 0) _ HF.out Tryz.underlying173 rfl HS.out ?_)
        | (refine wpList_store_row rfl _ _ _ rfl (w.heap.size + 1) _ rfl rfl 173 u16z HX.out HS.out HS2.out HW.out.one ?_))
      exact firsts_ret rfl rfl (HX.out.row F) HW.out.size ⟨⟨F, HW.out.same (fun i hi => by unfold ff; rw [if_pos hi]), rfl⟩, below_row HB.out (by omega) _⟩
end Go.Proofs.YtdbcendnibgcaaaGreatDoor.CanC
end

section
/-
  canon.Codes where lengths make no code (Kraft, Kind: CanDk).
-/
namespace Go.Proofs.YtdbcendnibgcaaaGreatDoor.CanC
open Go.RowKit Go.My BitMath CanMath

theorem ret_pair {a b : Value} {x : Value} (h : a = b) : Ending.returned (.tuple #[a, x]) = .returned (.tuple #[b, x]) := by rw [h]

section
variable {a : Option Addr} {len cap : Nat} {zs : List Int} {w : World}
set_option maxRecDepth 100000 in
set_option maxHeartbeats 2000000 in
theorem codes_bad (h : RowIn w a len cap (zs.map iv)) (hg : ¬ Good zs) :
    Calls Tryz.prog 125 #[.slice a len cap] w fun e w' => e = .returned (.tuple #[.slice none 0 0, .int .i64 7]) ∧ Below w.heap.size w w' := by
  have HG := Lib.hid hg
  have HR := Lib.hid h
  clear hg h
  go_enter Tryz.func125, Tryz.ntmps125
  go_wp2_with fail
  refine (tally_any a len cap zs w HR.out).mono ?_
  rintro e w2 ⟨he, hb2⟩
  obtain ⟨C, f, hN, rfl⟩ := he.2 HG.out
  have HN := Lib.hid hN
  have HB := Lib.hid hb2
  have HS : Hid ((Tryz.prog.info? 147).map (·.size) = some C.size) := Lib.hid (by rw [hN.size]; exact info_cnt)
  have HS2 : Hid (z16.size = C.size) := Lib.hid (by rw [hN.size]; rfl)
  have HX : Hid (Blk (w2.alloc (.cells z16 147)) w2.heap.size 147 z16) := Lib.hid (Blk.new w2 _ _)
  clear he hN hb2
  go_wp2_with (first
    | (refine wpList_store_row rfl _ _ _ rfl w2.heap.size _ rfl rfl 147 z16 HX.out HS.out HS2.out HN.out.one ?_))
  go_ret2
  exact ⟨rfl, below_row (HB.out.alloc HB.out.size _) HB.out.size C⟩
set_option maxRecDepth 100000 in
set_option maxHeartbeats 2000000 in
theorem codes_over (h : RowIn w a len cap (zs.map iv)) (hg : Good zs) (hk : 32768 < kr (nat zs)) :
    Calls Tryz.prog 125 #[.slice a len cap] w fun e w' => e = .returned (.tuple #[.slice none 0 0, .int .i64 2]) ∧ Below w.heap.size w w' := by
  have HG := Lib.hid hg
  have HR := Lib.hid h
  have HK : Hid (kindN (nat zs) = 4) := Lib.hid (by unfold kindN; rw [if_pos hk])
  clear hg h hk
  go_enter Tryz.func125, Tryz.ntmps125
  go_wp2_with fail
  refine (tally_any a len cap zs w HR.out).mono ?_
  rintro e w2 ⟨he, hb2⟩
  obtain ⟨C, hN, rfl⟩ := he.1 HG.out
  have HN := Lib.hid hN
  have HB := Lib.hid hb2
  have HS : Hid ((Tryz.prog.info? 147).map (·.size) = some C.size) := Lib.hid (by rw [hN.size]; exact info_cnt)
  have HS2 : Hid (z16.size = C.size) := Lib.hid (by rw [hN.size]; rfl)
  have HX : Hid (Blk (w2.alloc (.cells z16 147)) w2.heap.size 147 z16) := Lib.hid (Blk.new w2 _ _)
  clear he hN hb2
  go_wp2_with (first
    | (refine wpList_store_row rfl _ _ _ rfl w2.heap.size _ rfl rfl 147 z16 HX.out HS.out HS2.out HN.out.one ?_)
    | (refine wpList_load_row rfl 147 _ rfl w2.heap.size rfl 147 C (0, 0) _ (HX.out.row C) Tryz.underlying147 rfl HS.out ?_))
  have HB2 : Hid (Below w.heap.size w ((w2.alloc (.cells z16 147)).setRow w2.heap.size C)) := Lib.hid (below_row (HB.out.alloc HB.out.size _) HB.out.size C)
  refine (kind_any C _ _ HN.out HG.out.all (by rw [nat_len]; exact HG.out.1)).mono ?_
  rw [HK.out]
  rintro e w3 ⟨rfl, hb3⟩
  have HB3 := Lib.hid (HB2.out.trans (hb3.mono HB2.out.size))
  clear hb3
  go_wp2_with fail
  go_ret2
  exact ⟨rfl, HB3.out⟩
end

/-- The code of the symbol at place i, 0 if it has none. -/
def codeW (ls : List Nat) (i : Nat) : Nat := match ls[i]? with | some n => if n = 0 then 0 else codeN ls n i | none => 0
theorem codeW_eq (ls : List Nat) (i : Nat) (h : i < ls.length) : codeW ls i = if ls[i] = 0 then 0 else codeN ls ls[i] i := by
  unfold codeW; rw [List.getElem?_eq_getElem h]
/-- What Codes has laid behind k rounds. -/
def words (ls : List Nat) (k : Nat) : List Nat := (List.range ls.length).map fun i => if i < k then codeW ls i else 0
theorem words_len (ls : List Nat) (k : Nat) : (words ls k).length = ls.length := by simp [words]
theorem words_get (ls : List Nat) (k i : Nat) (h : i < ls.length) : (words ls k)[i]'(by rw [words_len]; exact h) = if i < k then codeW ls i else 0 := by simp [words]
theorem words_zero (ls : List Nat) : (words ls 0).map uv = List.replicate ls.length (uv 0) := by
  apply List.ext_getElem
  · simp [words]
  · intro i h1 h2; simp [words]
theorem words_set (ls : List Nat) (k : Nat) : ((words ls k).map uv).set k (uv (codeW ls k)) = (words ls (k + 1)).map uv := by
  apply List.ext_getElem
  · simp [words]
  · intro i h1 h2
    rw [List.getElem_set]
    simp only [List.getElem_map, words, List.getElem_range]
    by_cases h : k = i
    · subst h; simp
    · rw [if_neg h]
      by_cases hlt : i < k
      · rw [if_pos hlt, if_pos (by omega)]
      · rw [if_neg hlt, if_neg (by omega)]
theorem words_skip (ls : List Nat) (k : Nat) (h : codeW ls k = 0) : words ls k = words ls (k + 1) := by
  unfold words
  apply List.map_congr_left
  intro i _
  by_cases hi : i = k
  · subst hi; simp [h]
  · by_cases hlt : i < k
    · rw [if_pos hlt, if_pos (by omega)]
    · rw [if_neg hlt, if_neg (by omega)]
/-- The next code of each length behind k rounds. -/
def nf (ls : List Nat) (k n : Nat) : Nat := if n = 0 then 0 else codeN ls n k
theorem nf_zero (ls : List Nat) (n : Nat) : nf ls 0 n = first ls n := by
  unfold nf codeN
  split
  · next h => subst h; rfl
  · simp
theorem nf_succ (ls : List Nat) (k n : Nat) (h : k < ls.length) : nf ls (k + 1) n = nf ls k n + (if n = ls[k] ∧ 0 < n then 1 else 0) := by
  unfold nf codeN
  by_cases h0 : n = 0
  · subst h0; rw [if_pos rfl, if_pos rfl, if_neg (by omega)]
  · rw [if_neg h0, if_neg h0, count_take_succ ls k n h]
    by_cases he : n = ls[k]
    · rw [if_pos he.symm, if_pos ⟨he, by omega⟩]; omega
    · rw [if_neg (fun e => he e.symm), if_neg (fun e => he e.1)]; omega
theorem nf_le (ls : List Nat) (hall : ∀ x ∈ ls, x ≤ 15) (hk : kr ls ≤ 32768) (hl : ls.length ≤ 65536) (k n : Nat) (hn : n ≤ 15) : nf ls k n ≤ 98304 := by
  unfold nf codeN
  split
  · omega
  · have h1 := first_le ls hall hk n hn
    have h2 := count_take_le ls k n
    have h3 : ls.count n ≤ ls.length := List.count_le_length
    omega
/-- All codes. -/
def allWords (ls : List Nat) : List Value := (words ls ls.length).map uv
theorem allWords_len (ls : List Nat) : (allWords ls).length = ls.length := by simp [allWords, words_len]
theorem allWords_get (ls : List Nat) (i : Nat) (h : i < ls.length) : (allWords ls)[i]'(by rw [allWords_len]; exact h) = uv (codeW ls i) := by
  simp [allWords, words, h]

def CodesOk (zs : List Int) (w : World) (e : Ending) (w' : World) : Prop := ∃ g, e = .returned (.tuple #[.slice (some ⟨g, 0, none⟩) zs.length zs.length, .int .i64 0]) ∧ w.heap.size ≤ g ∧ OwnV 23 w.heap.size w' (.slice (some ⟨g, 0, none⟩) zs.length zs.length) (allWords (nat zs)) ∧ Below w.heap.size w w'
theorem info_u32 : (Tryz.prog.info? 23).map (fun i => (i.zero, i.size, i.bytes)) = some (some (.int .u32 0), 1, 4) := by kernel_rfl
end Go.Proofs.YtdbcendnibgcaaaGreatDoor.CanC
end

section
/-
  canon.Codes where the lengths make a code.
-/
namespace Go.Proofs.YtdbcendnibgcaaaGreatDoor.CanC
open Go.RowKit Go.My BitMath CanMath

/-- What the loop of Codes keeps. -/
structure CodeAt (ls : List Nat) (len : Nat) (w wr : World) (gn gw k : Nat) (F : Array Value) : Prop where
  wrds : Wrds F (nf ls k)
  next : Blk wr gn 173 F
  own : OwnV 23 w.heap.size wr (.slice (some ⟨gw, 0, none⟩) len len) ((words ls k).map uv)
  below : Below w.heap.size w wr

set_option maxRecDepth 100000 in
set_option maxHeartbeats 4000000 in
theorem codes_ok (a : Option Addr) (len cap : Nat) (zs : List Int) (w : World) (h : RowIn w a len cap (zs.map iv)) (hg : Good zs) (hk : kr (nat zs) ≤ 32768) :
    Calls Tryz.prog 125 #[.slice a len cap] w (CodesOk zs w) := by
  have hzl : zs.length = len := by have := h.len_eq; simpa using this
  have hlen : len ≤ 65536 := by rw [← hzl]; exact hg.1
  have HZ := Lib.hid hzl
  have HG := Lib.hid hg
  have HR := Lib.hid h
  have HKR := Lib.hid hk
  have HLS : Hid ((nat zs).length = len) := Lib.hid (by rw [nat_len]; exact hzl)
  have HK : Hid ((kindN (nat zs) == 4) = false) := Lib.hid (by
    unfold kindN
    rw [if_neg (by omega)]
    split
    · rfl
    · split
      · rfl
      · split <;> rfl)
  clear hg h hk hzl
  go_enter Tryz.func125, Tryz.ntmps125
  go_wp2_with fail
  refine (tally_any a len cap zs w HR.out).mono ?_
  rintro e w2 ⟨he, hb2⟩
  obtain ⟨C, hN, rfl⟩ := he.1 HG.out
  have HN := Lib.hid hN
  have HB := Lib.hid hb2
  have HS : Hid ((Tryz.prog.info? 147).map (·.size) = some C.size) := Lib.hid (by rw [hN.size]; exact info_cnt)
  have HS2 : Hid (z16.size = C.size) := Lib.hid (by rw [hN.size]; rfl)
  have HX : Hid (Blk (w2.alloc (.cells z16 147)) w2.heap.size 147 z16) := Lib.hid (Blk.new w2 _ _)
  clear he hN hb2
  go_wp2_with (first
    | (refine wpList_store_row rfl _ _ _ rfl w2.heap.size _ rfl rfl 147 z16 HX.out HS.out HS2.out HN.out.one ?_)
    | (refine wpList_load_row rfl 147 _ rfl w2.heap.size rfl 147 C (0, 0) _ (HX.out.row C) Tryz.underlying147 rfl HS.out ?_))
  have HB2 : Hid (Below w.heap.size w ((w2.alloc (.cells z16 147)).setRow w2.heap.size C)) := Lib.hid (below_row (HB.out.alloc HB.out.size _) HB.out.size C)
  have HX2 : Hid (Blk ((w2.alloc (.cells z16 147)).setRow w2.heap.size C) w2.heap.size 147 C) := Lib.hid (HX.out.row C)
  have HW2 : Hid (w.heap.size ≤ w2.heap.size) := Lib.hid HB.out.size
  clear HX HB
  generalize (w2.alloc (.cells z16 147)).setRow w2.heap.size C = w3 at *
  generalize w2.heap.size = gc at *
  refine (kind_any C _ _ HN.out HG.out.all (by rw [nat_len]; exact HG.out.1)).mono ?_
  rintro e w4 ⟨rfl, hb4⟩
  have HB4 := Lib.hid (HB2.out.trans (hb4.mono HB2.out.size))
  have HX4 : Hid (Blk w4 gc 147 C) := Lib.hid (HX2.out.same (hb4.block _ HX2.out.lt))
  have hkn := HK.out
  clear hb4 HB2 HX2 HK
  generalize kindN (nat zs) = X at *
  go_wp2_with (first
    | (refine wpList_load_row rfl 147 _ rfl gc rfl 147 C (0, 0) _ HX4.out Tryz.underlying147 rfl HS.out ?_))
  clear hkn
  refine (firsts_any C _ _ HN.out HG.out.all (by rw [nat_len]; exact HG.out.1) HKR.out).mono ?_
  rintro e w5 ⟨⟨F, hF, rfl⟩, hb5⟩
  have HB5 := Lib.hid (HB4.out.trans (hb5.mono HB4.out.size))
  have HF := Lib.hid hF
  have HFS : Hid ((Tryz.prog.info? 173).map (·.size) = some F.size) := Lib.hid (by rw [hF.size]; exact info_wrd)
  have HFS2 : Hid (u16z.size = F.size) := Lib.hid (by rw [hF.size]; rfl)
  have HY : Hid (Blk (w5.alloc (.cells u16z 173)) w5.heap.size 173 u16z) := Lib.hid (Blk.new w5 _ _)
  clear hF hb5 HB4 HX4
  go_upto_region 7 with (first
    | (refine wpList_store_row rfl _ _ _ rfl w5.heap.size _ rfl rfl 173 u16z HY.out HFS.out HFS2.out HF.out.one ?_))
  have HB6 : Hid (Below w.heap.size w ((w5.alloc (.cells u16z 173)).setRow w5.heap.size F)) := Lib.hid (below_row (HB5.out.alloc HB5.out.size _) HB5.out.size F)
  have HY6 : Hid (Blk ((w5.alloc (.cells u16z 173)).setRow w5.heap.size F) w5.heap.size 173 F) := Lib.hid (HY.out.row F)
  have HN6 : Hid (w.heap.size ≤ w5.heap.size) := Lib.hid HB5.out.size
  clear HY HB5
  generalize (w5.alloc (.cells u16z 173)).setRow w5.heap.size F = w6 at *
  generalize w5.heap.size = gn at *
  go_wp2_with (at_make; refine wpList_make_row _ rfl (.tmp 23) (.tmp 23) 158 rfl w.heap.size 23 (.int .u32 0) 4 Tryz.underlying158 info_u32 rfl .i64 .i64 len rfl rfl (by omega) (by omega) HB6.out.size ?_)
  intro w7 hown hg7
  have HL7 : Hid (CodeAt (nat zs) len w w7 gn w6.heap.size 0 F) := Lib.hid ⟨HF.out.same (fun i _ => nf_zero _ i), HY6.out.grown hg7 (by simp), by rw [words_zero, HLS.out]; exact hown, grown_none_below HB6.out hg7 HB6.out.size⟩
  have HNE : Hid (gn ≠ w6.heap.size ∧ w.heap.size ≤ w6.heap.size) := Lib.hid ⟨by have := HY6.out.lt; omega, HB6.out.size⟩
  clear hown hg7 HB6 HY6
  generalize w6.heap.size = gw at *
  go_wp2_with fail
  go_loopw [8, 9, 27] (fun _ _ i wr => ∃ (k : Nat) (F : Array Value), k ≤ len ∧ i = .int .i64 (k : Int) ∧ Hid (CodeAt (nat zs) len w wr gn gw k F)) (fun _ _ i _ => len - (intOf i).toNat)
  case atStart => exact ⟨0, F, Nat.zero_le _, rfl, HL7⟩
  case round =>
    clear HL7 HN HF HFS HFS2
    obtain ⟨k, F, hk, rfl, HL⟩ := hrel
    by_cases hlt : k < len
    · obtain ⟨b, off, rfl⟩ := HR.out.some_ (by omega)
      have hkz : k < zs.length := by rw [HZ.out]; exact hlt
      have hkl : k < (nat zs).length := by rw [HLS.out]; exact hlt
      obtain ⟨n, hn⟩ : ∃ n : Nat, zs[k] = (n : Int) := ⟨zs[k].toNat, by have := HG.out.2 _ (List.getElem_mem hkz); omega⟩
      have hn2 : (nat zs)[k] = n := by rw [nat_get zs k hkz, hn]; rfl
      have hn15 : n ≤ 15 := by rw [← hn2]; exact HG.out.all _ (List.getElem_mem hkl)
      have hcz : wr.cell? ⟨b, off + k, none⟩ = some (.int .i64 (n : Int)) := by
        rw [HL.out.below.cell (p := ⟨b, off + k, none⟩) (HR.out.lt (by omega)), HR.out.get k (by simpa using hkz)]
        simp [iv, hn]
      have HCW : Hid (codeW (nat zs) k = nf (nat zs) k n) := Lib.hid (by rw [codeW_eq _ k hkl, hn2]; rfl)
      have HNF : Hid (∀ i, nf (nat zs) (k + 1) i = nf (nat zs) k i + (if i = n ∧ 0 < i then 1 else 0)) := Lib.hid (fun i => by rw [nf_succ _ k i hkl, hn2])
      clear hn hn2
      by_cases h0 : 0 < n
      · have hc1 : wr.cell? ⟨gn, n, none⟩ = some (.int .u32 ((nf (nat zs) k n : Nat) : Int)) := by rw [HL.out.next.cell n]; exact HL.out.wrds.at_ n (by omega)
        have hf1 : wr.frozen? ⟨gn, n, none⟩ = false := HL.out.next.frozen n
        have hwl : ((words (nat zs) k).map uv).length = len := by rw [List.length_map, words_len, HLS.out]
        obtain ⟨old, hc2⟩ : ∃ old, wr.cell? ⟨gw, k, none⟩ = some old := ⟨_, HL.out.own.cell hwl k (by rw [hwl]; exact hlt)⟩
        have hf2 : wr.frozen? ⟨gw, k, none⟩ = false := HL.out.own.free hwl k
        have hle := nf_le (nat zs) HG.out.all HKR.out (by rw [HLS.out]; exact hlen) k n hn15
        have HO := HL.out.own.store hwl k (uv (codeW (nat zs) k))
        rw [words_set, HCW.out] at HO
        have HOW := Lib.hid HO
        have HW := Lib.hid (HL.out.wrds.set (g := nf (nat zs) (k + 1)) n ((nf (nat zs) k n : Nat) + 1) (by rw [HNF.out, if_pos ⟨rfl, h0⟩]; omega) (fun i hi => by rw [HNF.out, if_neg (fun e => hi e.1)]; rfl))
        have HNB : Hid (Blk (wr.setCell ⟨gw, k, none⟩ (uv (nf (nat zs) k n))) gn 173 F) := Lib.hid (HL.out.next.same (Below.heap_setCell _ _ _ _ (by simpa using HNE.out.1)))
        have HBB : Hid (Below w.heap.size w (wr.setCell ⟨gw, k, none⟩ (uv (nf (nat zs) k n)))) := Lib.hid (HL.out.below.setCell (p := ⟨gw, k, none⟩) (by simpa using HNE.out.2) _)
        have hc3 : (wr.setCell ⟨gw, k, none⟩ (uv (nf (nat zs) k n))).cell? ⟨gn, n, none⟩ = some (.int .u32 ((nf (nat zs) k n : Nat) : Int)) := by rw [HNB.out.cell n]; exact HL.out.wrds.at_ n (by omega)
        have hf3 : (wr.setCell ⟨gw, k, none⟩ (uv (nf (nat zs) k n))).frozen? ⟨gn, n, none⟩ = false := HNB.out.frozen n
        clear HO hwl HCW HNF
        unfold uv at hc3 hf3 HNB HBB HOW
        generalize nf (nat zs) k n = x at *
        clear HL
        go_wp2_with fail
        go_roundw
        case rel => exact ⟨k + 1, _, by omega, by go_num, Lib.hid ⟨HW.out, HNB.out.set_ n _, HOW.out.only (S := fun g => g = gn) (Only.setCell (S := fun g => g = gn) (Only.refl _ _) (p := ⟨gn, n, none⟩) (fun _ => rfl) _) (fun g hg e => by simp [Value.ownBlock] at hg; exact HNE.out.1 (by omega)), HBB.out.setCell (p := ⟨gn, n, none⟩) HN6.out _⟩⟩
        case measure => simp [intOf]; omega
      · obtain rfl : n = 0 := by omega
        have HL2 : Hid (CodeAt (nat zs) len w wr gn gw (k + 1) F) := Lib.hid ⟨HL.out.wrds.same (fun i _ => by rw [HNF.out, if_neg (by omega)]; rfl), HL.out.next, by rw [← words_skip _ k (by rw [HCW.out]; rfl)]; exact HL.out.own, HL.out.below⟩
        clear HCW HNF
        go_wp2_with fail
        go_roundw
        case rel => exact ⟨k + 1, F, by omega, by go_num, HL2⟩
        case measure => simp [intOf]; omega
    · obtain rfl : k = len := by omega
      go_wp2_with fail
      go_ret2
      exact ⟨gw, by rw [HZ.out]; rfl, HNE.out.2, by have := HL.out.own; unfold allWords; rwa [HZ.out, HLS.out], HL.out.below⟩
end Go.Proofs.YtdbcendnibgcaaaGreatDoor.CanC
end
