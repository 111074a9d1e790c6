/-
  Pieces of lengths and distances: grouped, lengthPiece, distancePiece; Symbol, Reach.
-/
import Derived.Test.YtaeoedapaiapdaaTok0
import Derived.Test.YtaeoedapaiapdaaTokM
import Derived.Test.YtaeoedapaiapdaaMem
import Derived.Test.YtaeoedapaiapdaaBkMath
import Derived.Laws.Pointers
import Derived.Laws.Rows
import Derived.Deep.QuietTactic
import Derived.BigQuiet
import Derived.BigRegion
import Derived.Deep.DeepCutAuto
import Derived.Deep.CutBlock
import Derived.StillTailTactics
namespace Go.Proofs.Ytaeoedapaiapdaa.BlkC
open Go.RowKit Go.My BitMath
open LzMath (Tok)
open InfMath (Pc gx grp lp dp)

/-- A piece's cells. -/
def pc (p : Pc) : Array Value := #[.int .i64 (p.s : Int), .int .i64 (p.x : Int), .int .i64 (p.v : Int)]
theorem info_pc : (Try.prog.info? 46).map (·.size) = some 3 := by kernel_rfl
theorem pc_ret {fn : Func} {p : Tmp} (hres : fn.results = #[.cell p 46]) {a : Act} {w : World} {g : Nat} {cs : Array Value} {R : Ending → World → Prop} (hd : a.defers = []) (hp : a.tmps.getD p undef = .pointer (some ⟨g, 0, none⟩))
    (hg : Blk w g 46 cs) (hs : cs.size = 3) (h : R (.returned (.agg cs)) w) : bodyPost Try.prog fn R .ret a w :=
  bodyPost_ret (results_cell_row hres _ _ g _ cs _ _ hp hg Try.underlying46 rfl (by rw [hs]; exact info_pc)) hd h

theorem shr_nat (n k : Nat) : (n : Int) / (2 : Int) ^ k = ((n / 2 ^ k : Nat) : Int) := by
  have e : (2 : Int) ^ k = ((2 ^ k : Nat) : Int) := by push_cast; rfl
  rw [e, ← Int.natCast_ediv]
theorem pow_cast (k : Nat) : (2 : Int) ^ k = ((2 ^ k : Nat) : Int) := by push_cast; rfl
theorem pow_small {k : Nat} (hk : k ≤ 40) : 2 ^ k ≤ 1099511627776 := Nat.le_trans (Nat.pow_le_pow_right (n := 2) (by omega) hk) (by decide)
theorem and_low (n k : Nat) (hk : k ≤ 40) : bits .and .i64 (n : Int) ((2 : Int) ^ k - 1) = ((n % 2 ^ k : Nat) : Int) := by
  have hp := Nat.two_pow_pos k
  rw [i64_and_mask (n : Int) k (by omega) _ ((2 ^ k : Nat) : Int) (by rw [pow_cast, Int.natCast_sub hp]; rfl) rfl]
  rfl
theorem grp_nums {k S q : Nat} (hk : k ≤ 40) (hS : S ≤ 4) (hq : q < 8) : wrap64 ((2 : Int) ^ k) = (2 : Int) ^ k ∧ wrap64 ((2 : Int) ^ k - 1) = (2 : Int) ^ k - 1 ∧ wrap64 ((S : Int) * (k : Int)) = ((S * k : Nat) : Int) ∧ wrap64 (((S * k : Nat) : Int) + (q : Int)) = ((S * k + q : Nat) : Int) := by
  have hp := pow_small hk
  have hp0 := Nat.two_pow_pos k
  have h1 : S * k ≤ 4 * 40 := Nat.mul_le_mul hS hk
  rw [pow_cast]
  generalize 2 ^ k = p at *
  refine ⟨IntWalk.wrap64_in _ (by omega), IntWalk.wrap64_in _ (by omega), ?_, ?_⟩
  · rw [← Int.natCast_mul]; generalize S * k = m at *; exact IntWalk.wrap64_in _ (by omega)
  · generalize S * k = m at *; rw [IntWalk.wrap64_in _ (by omega)]; omega
set_option maxRecDepth 100000 in
set_option maxHeartbeats 4000000 in
theorem grouped_any (n S : Nat) (w : World) (hn : n < 1000000) (h1 : 1 ≤ S) (hS : S ≤ 4) :
    Calls Try.prog 33 #[.int .i64 (n : Int), .int .i64 (S : Int)] w fun e w' => e = .returned (.agg (pc (grp n S))) ∧ Below w.heap.size w w' := by
  obtain ⟨E, hE⟩ : ∃ E, E = gx S n 40 := ⟨_, rfl⟩
  have hle : E ≤ 40 := by rw [hE]; exact InfMath.gx_le 40 S n
  have hend : n / 2 ^ E < 2 * S := by rw [hE]; exact InfMath.gx_end 40 S n (Nat.lt_of_lt_of_le hn (Nat.le_trans (show 1000000 ≤ 1 * 2 ^ 40 by decide) (Nat.mul_le_mul_right _ (by omega))))
  have hmore : ∀ k, k < E → 2 * S ≤ n / 2 ^ k := by rw [hE]; exact InfMath.gx_more 40 S n
  have HG : Hid (grp n S = ⟨S * E + n / 2 ^ E, E, n % 2 ^ E⟩) := Lib.hid (by unfold grp; rw [← hE])
  have HM := Lib.hid hmore
  have HE := Lib.hid hend
  have hw2 : wrap64 (2 * (S : Int)) = 2 * (S : Int) := IntWalk.wrap64_in _ (by omega)
  clear hE hmore hend
  go_enter Try.func33, Try.ntmps33
  go_wp2_with fail
  obtain ⟨X, hX⟩ : ∃ X, X = w.alloc (.cells #[.int .i64 0, .int .i64 0, .int .i64 0] 46) := ⟨_, rfl⟩
  have HB : Hid (Blk X w.heap.size 46 #[.int .i64 0, .int .i64 0, .int .i64 0]) := Lib.hid (by rw [hX]; exact Blk.new w _ _)
  have HX : Hid (Below w.heap.size w X) := Lib.hid (by rw [hX]; exact (Below.refl _ _).alloc (Nat.le_refl _) _)
  rw [← hX]
  clear hX
  go_loop [5] (fun x => ∃ k : Nat, k ≤ E ∧ x = .int .i64 (k : Int)) (fun x => E - (intOf x).toNat)
  case atStart => exact ⟨0, Nat.zero_le _, rfl⟩
  case round =>
    obtain ⟨k, hk, rfl⟩ := hrel
    have hsh := shr_nat n k
    by_cases hlt : k < E
    · have h2 := HM.out k hlt
      obtain ⟨q, hq⟩ : ∃ q, q = n / 2 ^ k := ⟨_, rfl⟩
      rw [← hq] at hsh h2
      clear hq
      have h3 : 2 * (S : Int) ≤ (q : Int) := by omega
      go_wp2_with fail
      go_round
      case rel => exact ⟨k + 1, by omega, by go_num⟩
      case measure => simp [intOf]; omega
    · obtain rfl : k = E := by omega
      have h2 := HE.out
      obtain ⟨q, hq⟩ : ∃ q, q = n / 2 ^ k := ⟨_, rfl⟩
      obtain ⟨v, hv⟩ : ∃ v, v = n % 2 ^ k := ⟨_, rfl⟩
      have HQ : Hid (grp n S = ⟨S * k + q, k, v⟩) := Lib.hid (by rw [hq, hv]; exact HG.out)
      have hal := and_low n k hle
      rw [← hq] at hsh h2
      rw [← hv] at hal
      have h3 : ¬ 2 * (S : Int) ≤ (q : Int) := by omega
      obtain ⟨hw1, hw3, hw4, hw5⟩ := grp_nums (q := q) hle hS (by omega)
      obtain ⟨m, hm⟩ : ∃ m, m = S * k := ⟨_, rfl⟩
      rw [← hm] at hw4 hw5 HQ
      clear hq hv hm HG HM HE h2
      have hf := HB.out.frozen 0
      have hc0 : X.cell? ⟨w.heap.size, 0, none⟩ = some (.int .i64 0) := HB.out.cell 0
      have hc1 : X.cell? ⟨w.heap.size, 1, none⟩ = some (.int .i64 0) := HB.out.cell 1
      have hc2 : X.cell? ⟨w.heap.size, 2, none⟩ = some (.int .i64 0) := HB.out.cell 2
      have hf1 := HB.out.frozen 1
      have hf2 := HB.out.frozen 2
      go_upto_region 4 with (fail)
      go_region
      go_wp2_with fail
      have HB3 : Blk (((X.setCell ⟨w.heap.size, 0, none⟩ (.int .i64 ((m : Int) + (q : Int)))).setCell ⟨w.heap.size, 1, none⟩ (.int .i64 (k : Int))).setCell ⟨w.heap.size, 2, none⟩ (.int .i64 (v : Int))).drew w.heap.size 46 #[.int .i64 ((m : Int) + (q : Int)), .int .i64 (k : Int), .int .i64 (v : Int)] := ((HB.out.set_ 0 _).set_ 1 _).set_ 2 _
      refine pc_ret rfl rfl rfl HB3 rfl ⟨?_, (((HX.out.setCell (p := ⟨w.heap.size, 0, none⟩) (Nat.le_refl _) _).setCell (p := ⟨w.heap.size, 1, none⟩) (Nat.le_refl _) _).setCell (p := ⟨w.heap.size, 2, none⟩) (Nat.le_refl _) _).drew⟩
      rw [HQ.out]
      rfl
theorem base_285 (wide : Bool) (w : World) :
    Calls Try.prog 32 #[.int .i64 285, .bool wide] w fun e w' => e = .returned (.tuple #[.int .i64 ((if wide then 3 else 258 : Nat) : Int), .int .i64 ((if wide then 16 else 0 : Nat) : Int), .bool true]) ∧ w = w' := by
  cases wide
  all_goals
    go_enter Try.func32, Try.ntmps32
    go_wp2_with fail
    go_ret3
    exact ⟨rfl, rfl⟩
theorem distance_any (d : Nat) (w : World) (h1 : 1 ≤ d) (h2 : d ≤ 65536) :
    Calls Try.prog 24 #[.int .i64 (d : Int)] w fun e w' => e = .returned (.agg (pc (dp d))) ∧ Below w.heap.size w w' := by
  have hw : wrap64 ((d : Int) - 1) = ((d - 1 : Nat) : Int) := by rw [IntWalk.wrap64_in _ (by omega)]; omega
  have hw' : (d : Int) - 1 = ((d - 1 : Nat) : Int) := by omega
  obtain ⟨n, hn⟩ : ∃ n, n = d - 1 := ⟨_, rfl⟩
  rw [← hn] at hw hw'
  have HN : Hid (dp d = grp n 2) := Lib.hid (by unfold dp; rw [hn])
  have hn6 : n < 1000000 := by omega
  clear hn
  obtain ⟨X, hX⟩ : ∃ X, X = w.alloc (.cells #[.int .i64 0, .int .i64 0, .int .i64 0] 46) := ⟨_, rfl⟩
  have HB : Hid (Blk X w.heap.size 46 #[.int .i64 0, .int .i64 0, .int .i64 0]) := Lib.hid (by rw [hX]; exact Blk.new w _ _)
  have HX : Hid (Below w.heap.size w X) := Lib.hid (by rw [hX]; exact (Below.refl _ _).alloc (Nat.le_refl _) _)
  go_enter Try.func24, Try.ntmps24
  go_upto_region 1 with (fail)
  rw [← hX]
  clear hX
  go_wp2_with fail
  refine (grouped_any n 2 X hn6 (by omega) (by omega)).mono ?_
  rintro e w1 ⟨rfl, hb⟩
  have HB1 := Lib.hid (HB.out.same (hb.block w.heap.size HB.out.lt))
  have HX1 := Lib.hid (HX.out.trans (hb.mono HX.out.size))
  have hc0 : w1.cell? ⟨w.heap.size, 0, none⟩ = some (.int .i64 0) := HB1.out.cell 0
  have hc1 : w1.cell? ⟨w.heap.size, 1, none⟩ = some (.int .i64 0) := HB1.out.cell 1
  have hc2 : w1.cell? ⟨w.heap.size, 2, none⟩ = some (.int .i64 0) := HB1.out.cell 2
  have hf0 := HB1.out.frozen 0
  have hf1 := HB1.out.frozen 1
  have hf2 := HB1.out.frozen 2
  unfold pc
  clear hb hw hw'
  go_wp2_with fail
  have HB3 := ((HB1.out.set_ 0 (.int .i64 ((grp n 2).s : Int))).set_ 1 (.int .i64 ((grp n 2).x : Int))).set_ 2 (.int .i64 ((grp n 2).v : Int))
  refine pc_ret rfl rfl rfl HB3 rfl ⟨by rw [HN.out]; rfl, (((HX1.out.setCell (p := ⟨w.heap.size, 0, none⟩) (Nat.le_refl _) _).setCell (p := ⟨w.heap.size, 1, none⟩) (Nat.le_refl _) _).setCell (p := ⟨w.heap.size, 2, none⟩) (Nat.le_refl _) _)⟩
set_option maxRecDepth 100000 in
set_option maxHeartbeats 4000000 in
theorem length_any (n : Nat) (wide : Bool) (w : World) (h1 : 3 ≤ n) (h2 : n ≤ 65538) :
    Calls Try.prog 23 #[.int .i64 (n : Int), .bool wide] w fun e w' => e = .returned (.agg (pc (lp n wide))) ∧ Below w.heap.size w w' := by
  obtain ⟨X, hX⟩ : ∃ X, X = w.alloc (.cells #[.int .i64 0, .int .i64 0, .int .i64 0] 46) := ⟨_, rfl⟩
  have HB : Hid (Blk X w.heap.size 46 #[.int .i64 0, .int .i64 0, .int .i64 0]) := Lib.hid (by rw [hX]; exact Blk.new w _ _)
  have HX : Hid (Below w.heap.size w X) := Lib.hid (by rw [hX]; exact (Below.refl _ _).alloc (Nat.le_refl _) _)
  have hc0 : X.cell? ⟨w.heap.size, 0, none⟩ = some (.int .i64 0) := HB.out.cell 0
  have hc1 : X.cell? ⟨w.heap.size, 1, none⟩ = some (.int .i64 0) := HB.out.cell 1
  have hc2 : X.cell? ⟨w.heap.size, 2, none⟩ = some (.int .i64 0) := HB.out.cell 2
  have hf0 := HB.out.frozen 0
  have hf1 := HB.out.frozen 1
  have hf2 := HB.out.frozen 2
  by_cases hg : 258 < n ∨ n = 258 ∧ wide = false
  · have HL : Hid (lp n wide = ⟨285, if wide then 16 else 0, n - if wide then 3 else 258⟩) := Lib.hid (by unfold lp; rw [if_pos hg])
    have hways : (n : Int) > 258 ∨ ¬ (n : Int) > 258 ∧ ((n : Int) == 258) = true ∧ wide = false := by
      rcases hg with h | ⟨h, h'⟩
      · exact .inl (by omega)
      · exact .inr ⟨by omega, by simp; omega, h'⟩
    obtain ⟨b3, hb3⟩ : ∃ b3 : Nat, b3 = if wide then 3 else 258 := ⟨_, rfl⟩
    obtain ⟨x3, hx3⟩ : ∃ x3 : Nat, x3 = if wide then 16 else 0 := ⟨_, rfl⟩
    have hle : b3 ≤ n ∧ b3 ≤ 258 ∧ x3 ≤ 16 := by rw [hb3, hx3]; cases wide <;> simp <;> omega
    have hB := base_285 wide X
    rw [← hb3, ← hx3] at hB HL
    have HBS := Lib.hid hB
    have hw : wrap64 ((n : Int) - (b3 : Int)) = ((n - b3 : Nat) : Int) := by rw [IntWalk.wrap64_in _ (by omega)]; omega
    have hw' : (n : Int) - (b3 : Int) = ((n - b3 : Nat) : Int) := by omega
    obtain ⟨v, hv⟩ : ∃ v, v = n - b3 := ⟨_, rfl⟩
    rw [← hv] at hw hw' HL
    clear hg hb3 hx3 hB hv
    rcases hways with hh | ⟨hh, he, rfl⟩
    all_goals
      go_enter Try.func23, Try.ntmps23
      go_upto_region 2 with (fail)
      rw [← hX]
      clear hX hh
      go_wp2_with fail
      refine HBS.out.mono ?_
      rintro e w1 ⟨rfl, rfl⟩
      go_wp2_with fail
      have HB3 := ((HB.out.set_ 0 (.int .i64 285)).set_ 1 (.int .i64 (x3 : Int))).set_ 2 (.int .i64 (v : Int))
      refine pc_ret rfl rfl rfl HB3 rfl ⟨by rw [HL.out]; rfl, (((HX.out.setCell (p := ⟨w.heap.size, 0, none⟩) (Nat.le_refl _) _).setCell (p := ⟨w.heap.size, 1, none⟩) (Nat.le_refl _) _).setCell (p := ⟨w.heap.size, 2, none⟩) (Nat.le_refl _) _)⟩
  · have hways : ¬ (n : Int) > 258 ∧ (((n : Int) == 258) = false ∨ ((n : Int) == 258) = true ∧ wide = true) := by
      refine ⟨by omega, ?_⟩
      by_cases h : n = 258
      · refine .inr ⟨by simp; omega, ?_⟩
        cases wide
        · exact absurd (.inr ⟨h, rfl⟩) hg
        · rfl
      · exact .inl (by simp; omega)
    have HL : Hid (lp n wide = ⟨(grp (n - 3) 4).s + 257, (grp (n - 3) 4).x, (grp (n - 3) 4).v⟩) := Lib.hid (by unfold lp; rw [if_neg hg])
    have hw : wrap64 ((n : Int) - 3) = ((n - 3 : Nat) : Int) := by rw [IntWalk.wrap64_in _ (by omega)]; omega
    have hw' : (n : Int) - 3 = ((n - 3 : Nat) : Int) := by omega
    obtain ⟨m, hm⟩ : ∃ m, m = n - 3 := ⟨_, rfl⟩
    rw [← hm] at hw hw' HL
    have hm6 : m < 1000000 := by omega
    have HG := Lib.hid (grouped_any m 4 X hm6 (by omega) (by omega))
    have hs6 : (grp m 4).s ≤ 400 := by
      have h1 := InfMath.gx_le 40 4 m
      have h2 := InfMath.gx_end 40 4 m (Nat.lt_of_lt_of_le hm6 (by decide))
      unfold grp; simp only; omega
    obtain ⟨q, hq⟩ : ∃ q, q = grp m 4 := ⟨_, rfl⟩
    rw [← hq] at HG HL hs6
    unfold pc at HG
    have hw7 : wrap64 ((q.s : Int) + 257) = (q.s : Int) + 257 := IntWalk.wrap64_in _ (by omega)
    clear hg hm hq
    obtain ⟨hh, hways⟩ := hways
    rcases hways with he | ⟨he, rfl⟩
    all_goals
      go_enter Try.func23, Try.ntmps23
      go_upto_region 4 with (fail)
      rw [← hX]
      clear hX hh he
      go_wp2_with fail
      refine HG.out.mono ?_
      rintro e w1 ⟨rfl, hb⟩
      have HB1 := Lib.hid (HB.out.same (hb.block w.heap.size HB.out.lt))
      have HX1 := Lib.hid (HX.out.trans (hb.mono HX.out.size))
      clear hc0 hc1 hc2 hf0 hf1 hf2 hb
      obtain ⟨Y, hY⟩ : ∃ Y, Y = w1.alloc (.cells #[.int .i64 (q.s : Int), .int .i64 (q.x : Int), .int .i64 (q.v : Int)] 46) := ⟨_, rfl⟩
      have HBY : Hid (Blk Y w.heap.size 46 #[.int .i64 0, .int .i64 0, .int .i64 0]) := Lib.hid (by rw [hY]; exact HB1.out.alloc _)
      have HCY : Hid (Blk Y w1.heap.size 46 #[.int .i64 (q.s : Int), .int .i64 (q.x : Int), .int .i64 (q.v : Int)]) := Lib.hid (by rw [hY]; exact Blk.new w1 _ _)
      have HYX : Hid (Below w.heap.size w Y) := Lib.hid (by rw [hY]; exact HX1.out.alloc HX1.out.size _)
      have hne : w.heap.size ≠ w1.heap.size := by have := HB1.out.lt; omega
      go_upto_region 5 with (fail)
      rw [← hY]
      clear hY
      have HNE := Lib.hid hne
      have HSZ := Lib.hid HX1.out.size
      generalize w1.heap.size = h at *
      have d0 : Y.cell? ⟨h, 0, none⟩ = some (.int .i64 (q.s : Int)) := HCY.out.cell 0
      have e0 := HCY.out.frozen 0
      go_upto_region 6 with (fail)
      obtain ⟨Z, hZ⟩ : ∃ Z, Z = Y.setCell ⟨h, 0, none⟩ (.int .i64 ((q.s : Int) + 257)) := ⟨_, rfl⟩
      have HCZ : Hid (Blk Z h 46 #[.int .i64 ((q.s : Int) + 257), .int .i64 (q.x : Int), .int .i64 (q.v : Int)]) := Lib.hid (by rw [hZ]; exact HCY.out.set_ 0 _)
      have HBZ : Hid (Blk Z w.heap.size 46 #[.int .i64 0, .int .i64 0, .int .i64 0]) := Lib.hid (by rw [hZ]; exact HBY.out.same (Below.heap_setCell _ _ _ _ HNE.out))
      have HZX : Hid (Below w.heap.size w Z) := Lib.hid (by rw [hZ]; exact HYX.out.setCell (p := ⟨h, 0, none⟩) HSZ.out _)
      rw [← hZ]
      clear hZ d0 e0 hne HBY HCY HYX
      have d0 : Z.cell? ⟨h, 0, none⟩ = some (.int .i64 ((q.s : Int) + 257)) := HCZ.out.cell 0
      have d1 : Z.cell? ⟨h, 1, none⟩ = some (.int .i64 (q.x : Int)) := HCZ.out.cell 1
      have d2 : Z.cell? ⟨h, 2, none⟩ = some (.int .i64 (q.v : Int)) := HCZ.out.cell 2
      have hc0 : Z.cell? ⟨w.heap.size, 0, none⟩ = some (.int .i64 0) := HBZ.out.cell 0
      have hc1 : Z.cell? ⟨w.heap.size, 1, none⟩ = some (.int .i64 0) := HBZ.out.cell 1
      have hc2 : Z.cell? ⟨w.heap.size, 2, none⟩ = some (.int .i64 0) := HBZ.out.cell 2
      have hf0 := HBZ.out.frozen 0
      have hf1 := HBZ.out.frozen 1
      have hf2 := HBZ.out.frozen 2
      go_wp2_with fail
      have HB3 := ((HBZ.out.set_ 0 (.int .i64 ((q.s : Int) + 257))).set_ 1 (.int .i64 (q.x : Int))).set_ 2 (.int .i64 (q.v : Int))
      refine pc_ret rfl rfl rfl HB3 rfl ⟨by rw [HL.out]; rfl, (((HZX.out.setCell (p := ⟨w.heap.size, 0, none⟩) (Nat.le_refl _) _).setCell (p := ⟨w.heap.size, 1, none⟩) (Nat.le_refl _) _).setCell (p := ⟨w.heap.size, 2, none⟩) (Nat.le_refl _) _)⟩
end Go.Proofs.Ytaeoedapaiapdaa.BlkC
