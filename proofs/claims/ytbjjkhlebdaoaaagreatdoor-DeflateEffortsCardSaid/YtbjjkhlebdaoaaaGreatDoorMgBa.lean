import Derived.Test.YtbjjkhlebdaoaaaGreatDoorMgX
import Derived.Test.YtbjjkhlebdaoaaaGreatDoorMgA
import Derived.Test.YtbjjkhlebdaoaaaGreatDoorMgH
import Derived.Laws.Pointers
import Derived.Laws.Rows
import Derived.Deep.QuietTactic
import Derived.BigQuiet
import Derived.BigRegion
import Derived.Deep.DeepCutAuto
import Derived.Deep.CutBlock
import Derived.StillTailTactics
import Derived.Deep.RegionLaw
import Derived.Laws.Tables
import Derived.Test.YtbjjkhlebdaoaaaGreatDoorMgK
import Derived.Test.YtbjjkhlebdaoaaaGreatDoorMgC
import Derived.Test.YtbjjkhlebdaoaaaGreatDoorRows

section
/-
  Pieces of lengths and distances: grouped, lengthPiece, distancePiece; Symbol, Reach.
-/
namespace Go.Proofs.YtbjjkhlebdaoaaaGreatDoor.BlkC
open Go.RowKit Go.My BitMath
open LzMath (Tok)
open InfMath (Pc gx grp lp dp)

/-- A piece's cells. -/
def pc (p : Pc) : Array Value := #[.int .i64 (p.s : Int), .int .i64 (p.x : Int), .int .i64 (p.v : Int)]
theorem info_pc : (Tryz.prog.info? 111).map (·.size) = some 3 := by kernel_rfl
theorem pc_ret {fn : Func} {p : Tmp} (hres : fn.results = #[.cell p 111]) {a : Act} {w : World} {g : Nat} {cs : Array Value} {R : Ending → World → Prop} (hd : a.defers = []) (hp : a.tmps.getD p undef = .pointer (some ⟨g, 0, none⟩))
    (hg : Blk w g 111 cs) (hs : cs.size = 3) (h : R (.returned (.agg cs)) w) : bodyPost Tryz.prog fn R .ret a w :=
  bodyPost_ret (results_cell_row hres _ _ g _ cs _ _ hp hg Tryz.underlying111 rfl (by rw [hs]; exact info_pc)) hd h

theorem shr_nat (n k : Nat) : (n : Int) / (2 : Int) ^ k = ((n / 2 ^ k : Nat) : Int) := by
  have e : (2 : Int) ^ k = ((2 ^ k : Nat) : Int) := by push_cast; rfl
  rw [e, ← Int.natCast_ediv]
theorem pow_cast (k : Nat) : (2 : Int) ^ k = ((2 ^ k : Nat) : Int) := by push_cast; rfl
theorem pow_small {k : Nat} (hk : k ≤ 40) : 2 ^ k ≤ 1099511627776 := Nat.le_trans (Nat.pow_le_pow_right (n := 2) (by omega) hk) (by decide)
theorem and_low (n k : Nat) (hk : k ≤ 40) : bits .and .i64 (n : Int) ((2 : Int) ^ k - 1) = ((n % 2 ^ k : Nat) : Int) := by
  have hp := Nat.two_pow_pos k
  rw [i64_and_mask (n : Int) k (by omega) _ ((2 ^ k : Nat) : Int) (by rw [pow_cast, Int.natCast_sub hp]; rfl) rfl]
  rfl
theorem grp_nums {k S q : Nat} (hk : k ≤ 40) (hS : S ≤ 4) (hq : q < 8) : wrap64 ((2 : Int) ^ k) = (2 : Int) ^ k ∧ wrap64 ((2 : Int) ^ k - 1) = (2 : Int) ^ k - 1 ∧ wrap64 ((S : Int) * (k : Int)) = ((S * k : Nat) : Int) ∧ wrap64 (((S * k : Nat) : Int) + (q : Int)) = ((S * k + q : Nat) : Int) := by
  have hp := pow_small hk
  have hp0 := Nat.two_pow_pos k
  have h1 : S * k ≤ 4 * 40 := Nat.mul_le_mul hS hk
  rw [pow_cast]
  generalize 2 ^ k = p at *
  refine ⟨IntWalk.wrap64_in _ (by omega), IntWalk.wrap64_in _ (by omega), ?_, ?_⟩
  · rw [← Int.natCast_mul]; generalize S * k = m at *; exact IntWalk.wrap64_in _ (by omega)
  · generalize S * k = m at *; rw [IntWalk.wrap64_in _ (by omega)]; omega
set_option maxRecDepth 100000 in
set_option maxHeartbeats 4000000 in
theorem grouped_any (n S : Nat) (w : World) (hn : n < 1000000) (h1 : 1 ≤ S) (hS : S ≤ 4) :
    Calls Tryz.prog 84 #[.int .i64 (n : Int), .int .i64 (S : Int)] w fun e w' => e = .returned (.agg (pc (grp n S))) ∧ Below w.heap.size w w' := by
  obtain ⟨E, hE⟩ : ∃ E, E = gx S n 40 := ⟨_, rfl⟩
  have hle : E ≤ 40 := by rw [hE]; exact InfMath.gx_le 40 S n
  have hend : n / 2 ^ E < 2 * S := by rw [hE]; exact InfMath.gx_end 40 S n (Nat.lt_of_lt_of_le hn (Nat.le_trans (show 1000000 ≤ 1 * 2 ^ 40 by decide) (Nat.mul_le_mul_right _ (by omega))))
  have hmore : ∀ k, k < E → 2 * S ≤ n / 2 ^ k := by rw [hE]; exact InfMath.gx_more 40 S n
  have HG : Hid (grp n S = ⟨S * E + n / 2 ^ E, E, n % 2 ^ E⟩) := Lib.hid (by unfold grp; rw [← hE])
  have HM := Lib.hid hmore
  have HE := Lib.hid hend
  have hw2 : wrap64 (2 * (S : Int)) = 2 * (S : Int) := IntWalk.wrap64_in _ (by omega)
  clear hE hmore hend
  go_enter Tryz.func84, Tryz.ntmps84
  go_wp2_with fail
  obtain ⟨X, hX⟩ : ∃ X, X = w.alloc (.cells #[.int .i64 0, .int .i64 0, .int .i64 0] 111) := ⟨_, rfl⟩
  have HB : Hid (Blk X w.heap.size 111 #[.int .i64 0, .int .i64 0, .int .i64 0]) := Lib.hid (by rw [hX]; exact Blk.new w _ _)
  have HX : Hid (Below w.heap.size w X) := Lib.hid (by rw [hX]; exact (Below.refl _ _).alloc (Nat.le_refl _) _)
  rw [← hX]
  clear hX
  go_loop [5] (fun x => ∃ k : Nat, k ≤ E ∧ x = .int .i64 (k : Int)) (fun x => E - (intOf x).toNat)
  case atStart => exact ⟨0, Nat.zero_le _, rfl⟩
  case round =>
    obtain ⟨k, hk, rfl⟩ := hrel
    have hsh := shr_nat n k
    by_cases hlt : k < E
    · have h2 := HM.out k hlt
      obtain ⟨q, hq⟩ : ∃ q, q = n / 2 ^ k := ⟨_, rfl⟩
      rw [← hq] at hsh h2
      clear hq
      have h3 : 2 * (S : Int) ≤ (q : Int) := by omega
      go_wp2_with fail
      go_round
      case rel => exact ⟨k + 1, by omega, by go_num⟩
      case measure => simp [intOf]; omega
    · obtain rfl : k = E := by omega
      have h2 := HE.out
      obtain ⟨q, hq⟩ : ∃ q, q = n / 2 ^ k := ⟨_, rfl⟩
      obtain ⟨v, hv⟩ : ∃ v, v = n % 2 ^ k := ⟨_, rfl⟩
      have HQ : Hid (grp n S = ⟨S * k + q, k, v⟩) := Lib.hid (by rw [hq, hv]; exact HG.out)
      have hal := and_low n k hle
      rw [← hq] at hsh h2
      rw [← hv] at hal
      have h3 : ¬ 2 * (S : Int) ≤ (q : Int) := by omega
      obtain ⟨hw1, hw3, hw4, hw5⟩ := grp_nums (q := q) hle hS (by omega)
      obtain ⟨m, hm⟩ : ∃ m, m = S * k := ⟨_, rfl⟩
      rw [← hm] at hw4 hw5 HQ
      clear hq hv hm HG HM HE h2
      have hf := HB.out.frozen 0
      have hc0 : X.cell? ⟨w.heap.size, 0, none⟩ = some (.int .i64 0) := HB.out.cell 0
      have hc1 : X.cell? ⟨w.heap.size, 1, none⟩ = some (.int .i64 0) := HB.out.cell 1
      have hc2 : X.cell? ⟨w.heap.size, 2, none⟩ = some (.int .i64 0) := HB.out.cell 2
      have hf1 := HB.out.frozen 1
      have hf2 := HB.out.frozen 2
      go_upto_region 4 with (fail)
      go_region
      go_wp2_with fail
      have HB3 : Blk (((X.setCell ⟨w.heap.size, 0, none⟩ (.int .i64 ((m : Int) + (q : Int)))).setCell ⟨w.heap.size, 1, none⟩ (.int .i64 (k : Int))).setCell ⟨w.heap.size, 2, none⟩ (.int .i64 (v : Int))).drew w.heap.size 111 #[.int .i64 ((m : Int) + (q : Int)), .int .i64 (k : Int), .int .i64 (v : Int)] := ((HB.out.set_ 0 _).set_ 1 _).set_ 2 _
      refine pc_ret rfl rfl rfl HB3 rfl ⟨?_, (((HX.out.setCell (p := ⟨w.heap.size, 0, none⟩) (Nat.le_refl _) _).setCell (p := ⟨w.heap.size, 1, none⟩) (Nat.le_refl _) _).setCell (p := ⟨w.heap.size, 2, none⟩) (Nat.le_refl _) _).drew⟩
      rw [HQ.out]
      rfl
theorem base_285 (wide : Bool) (w : World) :
    Calls Tryz.prog 83 #[.int .i64 285, .bool wide] w fun e w' => e = .returned (.tuple #[.int .i64 ((if wide then 3 else 258 : Nat) : Int), .int .i64 ((if wide then 16 else 0 : Nat) : Int), .bool true]) ∧ w = w' := by
  cases wide
  all_goals
    go_enter Tryz.func83, Tryz.ntmps83
    go_wp2_with fail
    go_ret3
    exact ⟨rfl, rfl⟩
theorem distance_any (d : Nat) (w : World) (h1 : 1 ≤ d) (h2 : d ≤ 65536) :
    Calls Tryz.prog 64 #[.int .i64 (d : Int)] w fun e w' => e = .returned (.agg (pc (dp d))) ∧ Below w.heap.size w w' := by
  have hw : wrap64 ((d : Int) - 1) = ((d - 1 : Nat) : Int) := by rw [IntWalk.wrap64_in _ (by omega)]; omega
  have hw' : (d : Int) - 1 = ((d - 1 : Nat) : Int) := by omega
  obtain ⟨n, hn⟩ : ∃ n, n = d - 1 := ⟨_, rfl⟩
  rw [← hn] at hw hw'
  have HN : Hid (dp d = grp n 2) := Lib.hid (by unfold dp; rw [hn])
  have hn6 : n < 1000000 := by omega
  clear hn
  obtain ⟨X, hX⟩ : ∃ X, X = w.alloc (.cells #[.int .i64 0, .int .i64 0, .int .i64 0] 111) := ⟨_, rfl⟩
  have HB : Hid (Blk X w.heap.size 111 #[.int .i64 0, .int .i64 0, .int .i64 0]) := Lib.hid (by rw [hX]; exact Blk.new w _ _)
  have HX : Hid (Below w.heap.size w X) := Lib.hid (by rw [hX]; exact (Below.refl _ _).alloc (Nat.le_refl _) _)
  go_enter Tryz.func64, Tryz.ntmps64
  go_upto_region 1 with (fail)
  rw [← hX]
  clear hX
  go_wp2_with fail
  refine (grouped_any n 2 X hn6 (by omega) (by omega)).mono ?_
  rintro e w1 ⟨rfl, hb⟩
  have HB1 := Lib.hid (HB.out.same (hb.block w.heap.size HB.out.lt))
  have HX1 := Lib.hid (HX.out.trans (hb.mono HX.out.size))
  have hc0 : w1.cell? ⟨w.heap.size, 0, none⟩ = some (.int .i64 0) := HB1.out.cell 0
  have hc1 : w1.cell? ⟨w.heap.size, 1, none⟩ = some (.int .i64 0) := HB1.out.cell 1
  have hc2 : w1.cell? ⟨w.heap.size, 2, none⟩ = some (.int .i64 0) := HB1.out.cell 2
  have hf0 := HB1.out.frozen 0
  have hf1 := HB1.out.frozen 1
  have hf2 := HB1.out.frozen 2
  unfold pc
  clear hb hw hw'
  go_wp2_with fail
  have HB3 := ((HB1.out.set_ 0 (.int .i64 ((grp n 2).s : Int))).set_ 1 (.int .i64 ((grp n 2).x : Int))).set_ 2 (.int .i64 ((grp n 2).v : Int))
  refine pc_ret rfl rfl rfl HB3 rfl ⟨by rw [HN.out]; rfl, (((HX1.out.setCell (p := ⟨w.heap.size, 0, none⟩) (Nat.le_refl _) _).setCell (p := ⟨w.heap.size, 1, none⟩) (Nat.le_refl _) _).setCell (p := ⟨w.heap.size, 2, none⟩) (Nat.le_refl _) _)⟩
set_option maxRecDepth 100000 in
set_option maxHeartbeats 4000000 in
theorem length_any (n : Nat) (wide : Bool) (w : World) (h1 : 3 ≤ n) (h2 : n ≤ 65538) :
    Calls Tryz.prog 63 #[.int .i64 (n : Int), .bool wide] w fun e w' => e = .returned (.agg (pc (lp n wide))) ∧ Below w.heap.size w w' := by
  obtain ⟨X, hX⟩ : ∃ X, X = w.alloc (.cells #[.int .i64 0, .int .i64 0, .int .i64 0] 111) := ⟨_, rfl⟩
  have HB : Hid (Blk X w.heap.size 111 #[.int .i64 0, .int .i64 0, .int .i64 0]) := Lib.hid (by rw [hX]; exact Blk.new w _ _)
  have HX : Hid (Below w.heap.size w X) := Lib.hid (by rw [hX]; exact (Below.refl _ _).alloc (Nat.le_refl _) _)
  have hc0 : X.cell? ⟨w.heap.size, 0, none⟩ = some (.int .i64 0) := HB.out.cell 0
  have hc1 : X.cell? ⟨w.heap.size, 1, none⟩ = some (.int .i64 0) := HB.out.cell 1
  have hc2 : X.cell? ⟨w.heap.size, 2, none⟩ = some (.int .i64 0) := HB.out.cell 2
  have hf0 := HB.out.frozen 0
  have hf1 := HB.out.frozen 1
  have hf2 := HB.out.frozen 2
  by_cases hg : 258 < n ∨ n = 258 ∧ wide = false
  · have HL : Hid (lp n wide = ⟨285, if wide then 16 else 0, n - if wide then 3 else 258⟩) := Lib.hid (by unfold lp; rw [if_pos hg])
    have hways : (n : Int) > 258 ∨ ¬ (n : Int) > 258 ∧ ((n : Int) == 258) = true ∧ wide = false := by
      rcases hg with h | ⟨h, h'⟩
      · exact .inl (by omega)
      · exact .inr ⟨by omega, by simp; omega, h'⟩
    obtain ⟨b3, hb3⟩ : ∃ b3 : Nat, b3 = if wide then 3 else 258 := ⟨_, rfl⟩
    obtain ⟨x3, hx3⟩ : ∃ x3 : Nat, x3 = if wide then 16 else 0 := ⟨_, rfl⟩
    have hle : b3 ≤ n ∧ b3 ≤ 258 ∧ x3 ≤ 16 := by rw [hb3, hx3]; cases wide <;> simp <;> omega
    have hB := base_285 wide X
    rw [← hb3, ← hx3] at hB HL
    have HBS := Lib.hid hB
    have hw : wrap64 ((n : Int) - (b3 : Int)) = ((n - b3 : Nat) : Int) := by rw [IntWalk.wrap64_in _ (by omega)]; omega
    have hw' : (n : Int) - (b3 : Int) = ((n - b3 : Nat) : Int) := by omega
    obtain ⟨v, hv⟩ : ∃ v, v = n - b3 := ⟨_, rfl⟩
    rw [← hv] at hw hw' HL
    clear hg hb3 hx3 hB hv
    rcases hways with hh | ⟨hh, he, rfl⟩
    all_goals
      go_enter Tryz.func63, Tryz.ntmps63
      go_upto_region 2 with (fail)
      rw [← hX]
      clear hX hh
      go_wp2_with fail
      refine HBS.out.mono ?_
      rintro e w1 ⟨rfl, rfl⟩
      go_wp2_with fail
      have HB3 := ((HB.out.set_ 0 (.int .i64 285)).set_ 1 (.int .i64 (x3 : Int))).set_ 2 (.int .i64 (v : Int))
      refine pc_ret rfl rfl rfl HB3 rfl ⟨by rw [HL.out]; rfl, (((HX.out.setCell (p := ⟨w.heap.size, 0, none⟩) (Nat.le_refl _) _).setCell (p := ⟨w.heap.size, 1, none⟩) (Nat.le_refl _) _).setCell (p := ⟨w.heap.size, 2, none⟩) (Nat.le_refl _) _)⟩
  · have hways : ¬ (n : Int) > 258 ∧ (((n : Int) == 258) = false ∨ ((n : Int) == 258) = true ∧ wide = true) := by
      refine ⟨by omega, ?_⟩
      by_cases h : n = 258
      · refine .inr ⟨by simp; omega, ?_⟩
        cases wide
        · exact absurd (.inr ⟨h, rfl⟩) hg
        · rfl
      · exact .inl (by simp; omega)
    have HL : Hid (lp n wide = ⟨(grp (n - 3) 4).s + 257, (grp (n - 3) 4).x, (grp (n - 3) 4).v⟩) := Lib.hid (by unfold lp; rw [if_neg hg])
    have hw : wrap64 ((n : Int) - 3) = ((n - 3 : Nat) : Int) := by rw [IntWalk.wrap64_in _ (by omega)]; omega
    have hw' : (n : Int) - 3 = ((n - 3 : Nat) : Int) := by omega
    obtain ⟨m, hm⟩ : ∃ m, m = n - 3 := ⟨_, rfl⟩
    rw [← hm] at hw hw' HL
    have hm6 : m < 1000000 := by omega
    have HG := Lib.hid (grouped_any m 4 X hm6 (by omega) (by omega))
    have hs6 : (grp m 4).s ≤ 400 := by
      have h1 := InfMath.gx_le 40 4 m
      have h2 := InfMath.gx_end 40 4 m (Nat.lt_of_lt_of_le hm6 (by decide))
      unfold grp; simp only; omega
    obtain ⟨q, hq⟩ : ∃ q, q = grp m 4 := ⟨_, rfl⟩
    rw [← hq] at HG HL hs6
    unfold pc at HG
    have hw7 : wrap64 ((q.s : Int) + 257) = (q.s : Int) + 257 := IntWalk.wrap64_in _ (by omega)
    clear hg hm hq
    obtain ⟨hh, hways⟩ := hways
    rcases hways with he | ⟨he, rfl⟩
    all_goals
      go_enter Tryz.func63, Tryz.ntmps63
      go_upto_region 4 with (fail)
      rw [← hX]
      clear hX hh he
      go_wp2_with fail
      refine HG.out.mono ?_
      rintro e w1 ⟨rfl, hb⟩
      have HB1 := Lib.hid (HB.out.same (hb.block w.heap.size HB.out.lt))
      have HX1 := Lib.hid (HX.out.trans (hb.mono HX.out.size))
      clear hc0 hc1 hc2 hf0 hf1 hf2 hb
      obtain ⟨Y, hY⟩ : ∃ Y, Y = w1.alloc (.cells #[.int .i64 (q.s : Int), .int .i64 (q.x : Int), .int .i64 (q.v : Int)] 111) := ⟨_, rfl⟩
      have HBY : Hid (Blk Y w.heap.size 111 #[.int .i64 0, .int .i64 0, .int .i64 0]) := Lib.hid (by rw [hY]; exact HB1.out.alloc _)
      have HCY : Hid (Blk Y w1.heap.size 111 #[.int .i64 (q.s : Int), .int .i64 (q.x : Int), .int .i64 (q.v : Int)]) := Lib.hid (by rw [hY]; exact Blk.new w1 _ _)
      have HYX : Hid (Below w.heap.size w Y) := Lib.hid (by rw [hY]; exact HX1.out.alloc HX1.out.size _)
      have hne : w.heap.size ≠ w1.heap.size := by have := HB1.out.lt; omega
      go_upto_region 5 with (fail)
      rw [← hY]
      clear hY
      have HNE := Lib.hid hne
      have HSZ := Lib.hid HX1.out.size
      generalize w1.heap.size = h at *
      have d0 : Y.cell? ⟨h, 0, none⟩ = some (.int .i64 (q.s : Int)) := HCY.out.cell 0
      have e0 := HCY.out.frozen 0
      go_upto_region 6 with (fail)
      obtain ⟨Z, hZ⟩ : ∃ Z, Z = Y.setCell ⟨h, 0, none⟩ (.int .i64 ((q.s : Int) + 257)) := ⟨_, rfl⟩
      have HCZ : Hid (Blk Z h 111 #[.int .i64 ((q.s : Int) + 257), .int .i64 (q.x : Int), .int .i64 (q.v : Int)]) := Lib.hid (by rw [hZ]; exact HCY.out.set_ 0 _)
      have HBZ : Hid (Blk Z w.heap.size 111 #[.int .i64 0, .int .i64 0, .int .i64 0]) := Lib.hid (by rw [hZ]; exact HBY.out.same (Below.heap_setCell _ _ _ _ HNE.out))
      have HZX : Hid (Below w.heap.size w Z) := Lib.hid (by rw [hZ]; exact HYX.out.setCell (p := ⟨h, 0, none⟩) HSZ.out _)
      rw [← hZ]
      clear hZ d0 e0 hne HBY HCY HYX
      have d0 : Z.cell? ⟨h, 0, none⟩ = some (.int .i64 ((q.s : Int) + 257)) := HCZ.out.cell 0
      have d1 : Z.cell? ⟨h, 1, none⟩ = some (.int .i64 (q.x : Int)) := HCZ.out.cell 1
      have d2 : Z.cell? ⟨h, 2, none⟩ = some (.int .i64 (q.v : Int)) := HCZ.out.cell 2
      have hc0 : Z.cell? ⟨w.heap.size, 0, none⟩ = some (.int .i64 0) := HBZ.out.cell 0
      have hc1 : Z.cell? ⟨w.heap.size, 1, none⟩ = some (.int .i64 0) := HBZ.out.cell 1
      have hc2 : Z.cell? ⟨w.heap.size, 2, none⟩ = some (.int .i64 0) := HBZ.out.cell 2
      have hf0 := HBZ.out.frozen 0
      have hf1 := HBZ.out.frozen 1
      have hf2 := HBZ.out.frozen 2
      go_wp2_with fail
      have HB3 := ((HBZ.out.set_ 0 (.int .i64 ((q.s : Int) + 257))).set_ 1 (.int .i64 (q.x : Int))).set_ 2 (.int .i64 (q.v : Int))
      refine pc_ret rfl rfl rfl HB3 rfl ⟨by rw [HL.out]; rfl, (((HZX.out.setCell (p := ⟨w.heap.size, 0, none⟩) (Nat.le_refl _) _).setCell (p := ⟨w.heap.size, 1, none⟩) (Nat.le_refl _) _).setCell (p := ⟨w.heap.size, 2, none⟩) (Nat.le_refl _) _)⟩
end Go.Proofs.YtbjjkhlebdaoaaaGreatDoor.BlkC
end

section
/-
  Steps of a drawn region behind which the world is a letter: an allocation, a struct stored. No dump.
-/
namespace Go.My
open Go.RowKit

/-- From W on: later; what the blocks hold that were made on the way (none yet). -/
structure Cr (W Y : World) (t : TypeId) (s8 s9 : Option Nat) (c8 c9 : Array Value) : Prop where
  below : Below W.heap.size W Y
  f8 : ∀ b, s8 = some b → Blk Y b t c8 ∧ W.heap.size ≤ b
  f9 : ∀ b, s9 = some b → Blk Y b t c9 ∧ W.heap.size ≤ b
  ne : ∀ b, s8 = some b → s9 ≠ some b
section
variable {W Y Y' : World} {t : TypeId} {s8 s9 : Option Nat} {c8 c9 : Array Value}
theorem Cr.start (W : World) (t : TypeId) (c8 c9 : Array Value) : Cr W W t none none c8 c9 := ⟨Below.refl _ _, fun _ h => (by cases h), fun _ h => (by cases h), fun _ h => (by cases h)⟩
theorem Cr.drew (h : Cr W Y t s8 s9 c8 c9) : Cr W Y.drew t s8 s9 c8 c9 := ⟨h.below.drew, h.f8, h.f9, h.ne⟩
theorem Cr.later (h : Cr W Y t s8 s9 c8 c9) (hb : Below Y.heap.size Y Y') : Cr W Y' t s8 s9 c8 c9 :=
  ⟨h.below.trans (hb.mono h.below.size), fun b e => ⟨(h.f8 b e).1.same (hb.block b (h.f8 b e).1.lt), (h.f8 b e).2⟩, fun b e => ⟨(h.f9 b e).1.same (hb.block b (h.f9 b e).1.lt), (h.f9 b e).2⟩, h.ne⟩
end
end Go.My
end

section
/-
  count of no tokens; what it hands back.
-/
namespace Go.Proofs.YtbjjkhlebdaoaaaGreatDoor.BlkC
open Go.RowKit Go.My BitMath
open LzMath (Tok May)
open LzC (TokIn tc)
open PkC (cel lv cel_zero cel_cell cel_upd)
open InfMath (Pc lp dp symL litc dstc xtr lite)

set_option maxRecDepth 100000 in
theorem make_ints (k : Nat) (hk : k ≤ 1000000) : ∀ W : World, (Instr.makeSlice 67 (.int .i64 (k : Int)) (.int .i64 (k : Int))).run Tryz.prog W = .ok (.slice (some ⟨W.heap.size, 0, none⟩) k k) (W.alloc (.cells (cel k fun _ => 0).toArray 3)) := by
  intro W
  have hi : (Tryz.prog.info? 3).map (fun i => (i.zero, i.size, i.bytes)) = some (some (.int .i64 0), 1, 8) := by kernel_rfl
  obtain ⟨i, hi, hz0, hz1, hz2⟩ := info_parts hi
  have hr := run_make (P := Tryz.prog) W 67 3 i (.int .i64 0) Tryz.underlying67 hi hz0 .i64 .i64 (k : Int) (k : Int) (by omega) (by omega) (by rw [hz2]; omega) (by omega)
  simp only [Int.toNat_natCast, hz1] at hr
  rw [hr]
  congr 3
  apply Array.ext'
  rw [Nat.mul_one]
  have e := toList_madeCells_one (.int .i64 0) k
  have e2 : Value.cells (.int .i64 0) = #[.int .i64 0] := rfl
  rw [e2, e, cel_zero]
/-- A tally in memory, of blocks of the call's own. -/
structure Tal (B : Nat) (w0 w : World) (gt g1 g2 : Nat) (F G : Nat → Nat) (x : Nat) : Prop where
  t : Blk w gt 69 #[.slice (some ⟨g1, 0, none⟩) 286 286, .slice (some ⟨g2, 0, none⟩) 32 32, .int .i64 (x : Int)]
  l : Blk w g1 3 (cel 286 F).toArray
  d : Blk w g2 3 (cel 32 G).toArray
  ne : g1 ≠ g2
  bt : B ≤ gt
  b1 : B ≤ g1
  b2 : B ≤ g2
  below : Below B w0 w
section
variable {B gt g1 g2 x : Nat} {w0 w w' : World} {F G : Nat → Nat}
theorem Tal.later (h : Tal B w0 w gt g1 g2 F G x) (hb : Below w.heap.size w w') : Tal B w0 w' gt g1 g2 F G x :=
  ⟨h.t.same (hb.block gt h.t.lt), h.l.same (hb.block g1 h.l.lt), h.d.same (hb.block g2 h.d.lt), h.ne, h.bt, h.b1, h.b2, h.below.trans (hb.mono (by have := h.bt; have := h.t.lt; omega))⟩
end
theorem blk1 (X : World) (cs : Array Value) (t : TypeId) (o2 o3 : Obj) : Blk (((X.alloc (.cells cs t)).alloc o2).alloc o3).drew X.heap.size t cs := ((Blk.new X t cs).alloc o2).alloc o3
theorem blk2 (X : World) (cs : Array Value) (t : TypeId) (o1 o3 : Obj) : Blk (((X.alloc o1).alloc (.cells cs t)).alloc o3).drew (X.heap.size + 1) t cs := by
  have h := (Blk.new (X.alloc o1) t cs).alloc o3
  rw [World.size_alloc] at h
  exact h
theorem blk3 (X : World) (cs : Array Value) (t : TypeId) (o1 o2 : Obj) : Blk (((X.alloc o1).alloc o2).alloc (.cells cs t)).drew (X.heap.size + 1 + 1) t cs := by
  have h := Blk.new ((X.alloc o1).alloc o2) t cs
  rw [World.size_alloc, World.size_alloc] at h
  exact h
set_option maxRecDepth 100000 in
theorem x_alloc {a : Act} {o : Oper} {w : World} (ho : o.op = .alloc 111) : (execOp a.eval o).run Tryz.prog w = .ok (.value (.pointer (some ⟨w.heap.size, 0, none⟩))) (w.alloc (.cells #[.int .i64 0, .int .i64 0, .int .i64 0] 111)) := by
  unfold execOp; rw [ho]
  go_simp
theorem below3 (X : World) (o1 o2 o3 : Obj) : Below X.heap.size X (((X.alloc o1).alloc o2).alloc o3).drew :=
  ((((Below.refl _ _).alloc (Nat.le_refl _) _).alloc (by rw [World.size_alloc]; omega) _).alloc (by rw [World.size_alloc, World.size_alloc]; omega) _).drew
theorem tal_zero {B : Nat} {w0 w : World} {gt g1 g2 : Nat} {Z1 Z2 : Array Value} (h1 : Z1 = (cel 286 fun _ => 0).toArray) (h2 : Z2 = (cel 32 fun _ => 0).toArray)
    (ht : Blk w gt 69 #[.slice (some ⟨g1, 0, none⟩) 286 286, .slice (some ⟨g2, 0, none⟩) 32 32, .int .i64 0]) (hl : Blk w g1 3 Z1) (hd : Blk w g2 3 Z2) (hn : g1 ≠ g2) (bt : B ≤ gt) (b1 : B ≤ g1) (b2 : B ≤ g2) (hb : Below B w0 w) :
    Tal B w0 w gt g1 g2 (fun _ => 0) (fun _ => 0) 0 := ⟨ht, by rw [← h1]; exact hl, by rw [← h2]; exact hd, hn, bt, b1, b2, hb⟩
/-- What count hands back. -/
def Counted (w : World) (F G : Nat → Nat) (x : Nat) (e : Ending) (w' : World) : Prop :=
  ∃ g1 g2, e = .returned (.agg #[.slice (some ⟨g1, 0, none⟩) 286 286, .slice (some ⟨g2, 0, none⟩) 32 32, .int .i64 (x : Int)]) ∧ Blk w' g1 3 (cel 286 F).toArray ∧ Blk w' g2 3 (cel 32 G).toArray ∧ w.heap.size ≤ g1 ∧ w.heap.size ≤ g2 ∧ g1 ≠ g2 ∧ Below w.heap.size w w'
theorem blk_ne {w : World} {a b : Nat} {t u : TypeId} {x y : Array Value} (h : Blk w a t x) (k : Blk w b u y) (hn : t ≠ u) : a ≠ b := by
  rintro rfl
  unfold Blk at h k
  rw [h] at k
  injection k with k
  injection k with k1 k2 k3
  exact hn k2
/-- The block's end is counted. -/
theorem tal_end {w0 X wr Z : World} {gt g1 g2 x v : Nat} {F G : Nat → Nat} {cs : Array Value} (h : Tal X.heap.size X wr gt g1 g2 F G x) (hX : Blk X w0.heap.size 69 cs) (hZ : Z = wr.setCell ⟨g1, 256, none⟩ (.int .i64 (v : Int))) :
    Tal X.heap.size X Z gt g1 g2 (fun j => if j = 256 then v else F j) G x ∧ Blk Z w0.heap.size 69 cs ∧ w0.heap.size < X.heap.size := by
  have hn1 : gt ≠ g1 := blk_ne h.t h.l (by decide)
  have hx := hX.lt
  have h1 := h.b1
  subst hZ
  refine ⟨⟨PkC.Blk.set_far h.t hn1 _ _, PkC.Blk.set_cel h.l 256 v, PkC.Blk.set_far h.d (Ne.symm h.ne) _ _, h.ne, h.bt, h.b1, h.b2, h.below.setCell (p := ⟨g1, 256, none⟩) h.b1 _⟩, PkC.Blk.set_far (hX.same (h.below.block _ hx)) (by omega) _ _, by omega⟩
theorem counted_of {w0 X Z : World} {gt g1 g2 x : Nat} {F F' G : Nat → Nat} (h : Tal X.heap.size X Z gt g1 g2 F G x) (hb : Below w0.heap.size w0 X) (hs : w0.heap.size < X.heap.size) (hF : ∀ j, j < 286 → F j = F' j) (a b c : Value) :
    Counted w0 F' G x (.returned (.agg #[.slice (some ⟨g1, 0, none⟩) 286 286, .slice (some ⟨g2, 0, none⟩) 32 32, .int .i64 (x : Int)])) (((Z.setCell ⟨w0.heap.size, 0, none⟩ a).setCell ⟨w0.heap.size, 1, none⟩ b).setCell ⟨w0.heap.size, 2, none⟩ c) := by
  have h1 := h.b1
  have h2 := h.b2
  have e : cel 286 F = cel 286 F' := by
    unfold cel
    refine List.map_congr_left fun j hj => ?_
    rw [hF j (by simpa using hj)]
  refine ⟨g1, g2, rfl, ?_, ?_, by omega, by omega, h.ne, ?_⟩
  · rw [← e]
    exact PkC.Blk.set_far (PkC.Blk.set_far (PkC.Blk.set_far h.l (by omega) _ _) (by omega) _ _) (by omega) _ _
  · exact PkC.Blk.set_far (PkC.Blk.set_far (PkC.Blk.set_far h.d (by omega) _ _) (by omega) _ _) (by omega) _ _
  · exact (((hb.trans (h.below.mono (by omega))).setCell (p := ⟨w0.heap.size, 0, none⟩) (Nat.le_refl _) a).setCell (p := ⟨w0.heap.size, 1, none⟩) (Nat.le_refl _) b).setCell (p := ⟨w0.heap.size, 2, none⟩) (Nat.le_refl _) c
theorem info_tal : (Tryz.prog.info? 69).map (·.size) = some 3 := by kernel_rfl
theorem tal_ret {a : Act} {w : World} {g : Nat} {cs : Array Value} {R : Ending → World → Prop} (hd : a.defers = []) (hp : a.tmps.getD 4 undef = .pointer (some ⟨g, 0, none⟩))
    (hg : Blk w g 69 cs) (hs : cs.size = 3) (h : R (.returned (.agg cs)) w) : bodyPost Tryz.prog Tryz.f35 R .ret a w :=
  bodyPost_ret (results_cell_row rfl _ _ g _ cs _ _ hp hg Tryz.underlying69 rfl (by rw [hs]; exact info_tal)) hd h
end Go.Proofs.YtbjjkhlebdaoaaaGreatDoor.BlkC
end

section
/-
  made, fixedCodes; codes.bits.
-/
namespace Go.Proofs.YtbjjkhlebdaoaaaGreatDoor.BlkC
open Go.RowKit Go.My BitMath CanMath TabMath
open CanC (iv allWords)
open PkC (cel lv)
open InfMath (CodeOk fixL fixD)

theorem lv_iv (l : List Nat) : (l.map fun n : Nat => (n : Int)).map iv = lv l := by
  unfold lv iv; rw [List.map_map]; rfl
theorem nat_cast (l : List Nat) : CanC.nat (l.map fun n : Nat => (n : Int)) = l := by
  unfold CanC.nat
  rw [List.map_map]
  conv => rhs; rw [← List.map_id l]
  apply List.map_congr_left
  intro n _
  simp
/-- A code in memory: its lengths, its words. -/
structure CodeIn (B : Nat) (w : World) (a b : Option Addr) (n c1 c2 : Nat) (ls : List Nat) : Prop where
  lens : RowIn w a n c1 (lv ls)
  words : RowIn w b n c2 (allWords ls)
  la : ∀ k off, a = some ⟨k, off, none⟩ → B ≤ k
  lb : ∀ k off, b = some ⟨k, off, none⟩ → B ≤ k
theorem CodeIn.below {B : Nat} {w w' : World} {a b : Option Addr} {n c1 c2 : Nat} {ls : List Nat} (h : CodeIn B w a b n c1 c2 ls) (hb : Below w.heap.size w w') : CodeIn B w' a b n c1 c2 ls :=
  ⟨h.lens.below (Nat.le_refl _) hb, h.words.below (Nat.le_refl _) hb, h.la, h.lb⟩
theorem own_la {E : TypeId} {B : Nat} {w : World} {a : Option Addr} {n c : Nat} {vs : List Value} (h : OwnV E B w (.slice a n c) vs) : ∀ k off, a = some ⟨k, off, none⟩ → B ≤ k := fun k off e => h.base k (by rw [e]; rfl)
theorem row_only {S : Nat → Prop} {w w' : World} {a : Option Addr} {n c : Nat} {vs : List Value} (h : Only S w w') (hr : RowIn w a n c vs) (hS : ∀ b off, a = some ⟨b, off, none⟩ → ¬ S b) : RowIn w' a n c vs := by
  refine ⟨hr.1, hr.2, hr.3, hr.4, hr.5.imp_right ?_⟩
  rintro ⟨b, off, ha, hs, hc⟩
  exact ⟨b, off, ha, Nat.lt_of_lt_of_le hs h.size, fun i hi => by rw [h.cell (p := ⟨b, off + i, none⟩) hs (hS b off ha)]; exact hc i hi⟩
theorem only_set2 (w : World) (g : Nat) (u v : Value) : Only (fun k => k = g) w ((w.setCell ⟨g, 0, none⟩ u).setCell ⟨g, 1, none⟩ v) :=
  ((Only.refl (fun k => k = g) w).setCell (p := ⟨g, 0, none⟩) (fun _ => rfl) u).setCell (p := ⟨g, 1, none⟩) (fun _ => rfl) v
theorem code_ret {fn : Func} {p : Tmp} (hres : fn.results = #[.cell p 73]) {a : Act} {w : World} {g : Nat} {cs : Array Value} {R : Ending → World → Prop} (hd : a.defers = []) (hp : a.tmps.getD p undef = .pointer (some ⟨g, 0, none⟩))
    (hg : Blk w g 73 cs) (hi : (Tryz.prog.info? 73).map (·.size) = some cs.size) (h : R (.returned (.agg cs)) w) : bodyPost Tryz.prog fn R .ret a w :=
  bodyPost_ret (results_cell_row hres _ _ g _ cs _ _ hp hg Tryz.underlying73 rfl hi) hd h
theorem info_code : (Tryz.prog.info? 73).map (·.size) = some 2 := by kernel_rfl
set_option maxRecDepth 100000 in
set_option maxHeartbeats 2000000 in
theorem made_any (a : Option Addr) (n c : Nat) (ls : List Nat) (w : World) (h : RowIn w a n c (lv ls)) (hn : ls.length ≤ 65536) (h15 : ∀ x ∈ ls, x ≤ 15) (hk : kr ls ≤ 32768) {B : Nat} (hB : B ≤ w.heap.size) (hla : ∀ k off, a = some ⟨k, off, none⟩ → B ≤ k) :
    Calls Tryz.prog 67 #[.slice a n c] w fun e w' => ∃ b, e = .returned (.agg #[.slice a n c, .slice (some ⟨b, 0, none⟩) n n]) ∧ w.heap.size ≤ b ∧ CodeIn B w' a (some ⟨b, 0, none⟩) n c n ls ∧ Below w.heap.size w w' := by
  have hl : ls.length = n := by have := h.len_eq; simpa [lv] using this
  have hgood : CanC.Good (ls.map fun k : Nat => (k : Int)) := by
    refine ⟨by rw [List.length_map]; exact hn, fun z hz => ?_⟩
    obtain ⟨k, hk, rfl⟩ := List.mem_map.1 hz
    have := h15 k hk
    omega
  obtain ⟨X, hX⟩ : ∃ X, X = w.alloc (.cells #[.slice none 0 0, .slice none 0 0] 73) := ⟨_, rfl⟩
  have HBX : Hid (Blk X w.heap.size 73 #[.slice none 0 0, .slice none 0 0]) := Lib.hid (by rw [hX]; exact Blk.new w _ _)
  have HXB : Hid (Below w.heap.size w X) := Lib.hid (by rw [hX]; exact (Below.refl _ _).alloc (Nat.le_refl _) _)
  have HR0 := Lib.hid h
  have HR := Lib.hid (h.below (Nat.le_refl _) HXB.out)
  have HC := Lib.hid (CanC.codes_ok a n c (ls.map fun k : Nat => (k : Int)) X (by rw [lv_iv]; exact HR.out) hgood (by rw [nat_cast]; exact hk))
  have HL : Hid ((ls.map fun k : Nat => (k : Int)).length = n) := Lib.hid (by rw [List.length_map]; exact hl)
  clear h hn h15 hk hl hgood
  go_enter Tryz.func67, Tryz.ntmps67
  go_upto_region 1 with (fail)
  rw [← hX]
  clear hX
  go_wp2_with fail
  refine HC.out.mono ?_
  rintro e w1 ⟨g, rfl, hg, hown, hb⟩
  rw [HL.out] at *
  rw [nat_cast] at hown
  have HB1 := Lib.hid (HBX.out.same (hb.block w.heap.size HBX.out.lt))
  have HX1 := Lib.hid (HXB.out.trans (hb.mono HXB.out.size))
  have HLT := Lib.hid HBX.out.lt
  have HOW := Lib.hid hown
  have HG := Lib.hid hg
  have r0 : w1.cell? ⟨w.heap.size, 0, none⟩ = some (.slice none 0 0) := HB1.out.cell 0
  have r1 : w1.cell? ⟨w.heap.size, 1, none⟩ = some (.slice none 0 0) := HB1.out.cell 1
  have f0 := HB1.out.frozen 0
  have f1 := HB1.out.frozen 1
  have HRR := Lib.hid (HR.out.below (Nat.le_refl _) hb)
  clear hg hown hb HC HBX
  go_wp2_with fail
  have HB3 := (HB1.out.set_ 0 (.slice a n c)).set_ 1 (.slice (some ⟨g, 0, none⟩) n n)
  have hO := only_set2 w1 w.heap.size (.slice a n c) (.slice (some ⟨g, 0, none⟩) n n)
  have hbl : Below w.heap.size w ((w1.setCell ⟨w.heap.size, 0, none⟩ (.slice a n c)).setCell ⟨w.heap.size, 1, none⟩ (.slice (some ⟨g, 0, none⟩) n n)) := HX1.out.trans (hO.below (by have := HX1.out.size; omega) (fun k hk => by omega))
  have hrow : RowIn w1 (some ⟨g, 0, none⟩) n n (allWords ls) := by
    have h1 := HOW.out
    exact h1.rowIn (by rw [CanC.allWords_len]; have := HR0.out.len_eq; simpa [lv] using this)
  refine code_ret rfl rfl rfl HB3 info_code ⟨g, rfl, by have := HG.out; have := HLT.out; omega, ⟨HR0.out.below (Nat.le_refl _) hbl, row_only hO hrow (fun b off hab => ?_), hla, fun k off hab => ?_⟩, hbl⟩
  all_goals
    injection hab with hab
    injection hab with hab _
    have := HG.out
    have := HLT.out
    omega

theorem one_row (w : World) (z : Int) : RowIn (w.alloc (.cells #[.int .i64 z] 3)) (some ⟨w.heap.size, 0, none⟩) 1 1 [iv z] :=
  (OwnV.lit 3 w #[.int .i64 z] (Nat.le_refl _) (by simp)).rowIn rfl
/-- The four rows of the fixed literals' lengths. -/
def fixR : Nat → List Value
  | 0 => List.replicate 144 (iv 8)
  | 1 => List.replicate 112 (iv 9)
  | 2 => List.replicate 24 (iv 7)
  | _ => List.replicate 8 (iv 8)
theorem cat_fix : SlcC.cat fixR 4 = lv fixL := by
  rw [← lv_iv]
  simp only [SlcC.cat, fixR, fixL, List.map_append, List.map_replicate, List.nil_append]
  rfl
theorem fixD_lv : lv fixD = List.replicate 32 (iv 5) := by rw [← lv_iv]; simp only [fixD, List.map_replicate]; rfl
/-- The fixed codes in memory. -/
def FixedRet (w : World) (e : Ending) (w' : World) : Prop :=
  ∃ a1 c1 b1 a2 c2 b2, e = .returned (.agg #[.slice a1 288 c1, .slice (some ⟨b1, 0, none⟩) 288 288, .slice a2 32 c2, .slice (some ⟨b2, 0, none⟩) 32 32]) ∧
    CodeIn w.heap.size w' a1 (some ⟨b1, 0, none⟩) 288 c1 288 fixL ∧ CodeIn w.heap.size w' a2 (some ⟨b2, 0, none⟩) 32 c2 32 fixD ∧ Below w.heap.size w w'
theorem info_codes : (Tryz.prog.info? 75).map (·.size) = some 4 := by kernel_rfl
theorem codes_ret {fn : Func} {p : Tmp} (hres : fn.results = #[.cell p 75]) {a : Act} {w : World} {g : Nat} {cs : Array Value} {R : Ending → World → Prop} (hd : a.defers = []) (hp : a.tmps.getD p undef = .pointer (some ⟨g, 0, none⟩))
    (hg : Blk w g 75 cs) (hi : (Tryz.prog.info? 75).map (·.size) = some cs.size) (h : R (.returned (.agg cs)) w) : bodyPost Tryz.prog fn R .ret a w :=
  bodyPost_ret (results_cell_row hres _ _ g _ cs _ _ hp hg Tryz.underlying75 rfl hi) hd h
theorem CodeIn.off {B g : Nat} {w w' : World} {a b : Option Addr} {n c1 c2 : Nat} {ls : List Nat} (h : CodeIn B w a b n c1 c2 ls) (ho : Only (fun k => k = g) w w') (ha : ∀ off, a ≠ some ⟨g, off, none⟩) (hb : ∀ off, b ≠ some ⟨g, off, none⟩) : CodeIn B w' a b n c1 c2 ls :=
  ⟨row_only ho h.lens (fun k off e hk => by subst hk; exact ha off e), row_only ho h.words (fun k off e hk => by subst hk; exact hb off e), h.la, h.lb⟩
theorem only_set4 (w : World) (g : Nat) (u v x y : Value) : Only (fun k => k = g) w ((((w.setCell ⟨g, 0, none⟩ u).setCell ⟨g, 1, none⟩ v).setCell ⟨g, 2, none⟩ x).setCell ⟨g, 3, none⟩ y) :=
  ((((Only.refl (fun k => k = g) w).setCell (p := ⟨g, 0, none⟩) (fun _ => rfl) u).setCell (p := ⟨g, 1, none⟩) (fun _ => rfl) v).setCell (p := ⟨g, 2, none⟩) (fun _ => rfl) x).setCell (p := ⟨g, 3, none⟩) (fun _ => rfl) y
theorem cells_ne {w : World} {g n c : Nat} {a : Option Addr} {vs : List Value} {t : TypeId} {cs : Array Value} (hr : RowIn w a n c vs) (h0 : 0 < n) (hg : Blk w g t cs) (hv : ∀ u ∈ vs, ∃ k q, u = .int k q) (hs : ∀ (i : Nat) u, cs[i]? = some u → ∃ p m c, u = Value.slice p m c) : ∀ off, a ≠ some ⟨g, off, none⟩ := by
  rintro off rfl
  have h1 := hr.get 0 (by have := hr.len_eq; omega)
  rw [hg.cell] at h1
  obtain ⟨p, m, c', e1⟩ := hs _ _ h1
  obtain ⟨k, q, e2⟩ := hv (vs[0]'(by have := hr.len_eq; omega)) (List.getElem_mem _)
  rw [e1] at e2
  cases e2
theorem lv_ints (l : List Nat) : ∀ u ∈ lv l, ∃ k q, u = Value.int k q := by
  intro u hu
  obtain ⟨n, -, rfl⟩ := List.mem_map.1 hu
  exact ⟨_, _, rfl⟩
theorem words_ints (l : List Nat) : ∀ u ∈ allWords l, ∃ k q, u = Value.int k q := by
  intro u hu
  obtain ⟨n, -, rfl⟩ := List.mem_map.1 hu
  exact ⟨_, _, rfl⟩
theorem slices4 {p1 p2 p3 p4 : Option Addr} {m1 m2 m3 m4 c1 c2 c3 c4 : Nat} : ∀ (i : Nat) u, (#[Value.slice p1 m1 c1, .slice p2 m2 c2, .slice p3 m3 c3, .slice p4 m4 c4] : Array Value)[i]? = some u → ∃ p m c, u = Value.slice p m c := by
  intro i u h
  rcases i with _ | _ | _ | _ | i
  · injection h with h; exact ⟨_, _, _, h.symm⟩
  · injection h with h; exact ⟨_, _, _, h.symm⟩
  · injection h with h; exact ⟨_, _, _, h.symm⟩
  · injection h with h; exact ⟨_, _, _, h.symm⟩
  · simp at h
theorem fixed_done {w w8 : World} {a1 a2 : Option Addr} {c1 b1 c2 b2 : Nat} {p1 p2 p3 p4 : Option Addr} {m1 m2 m3 m4 d1 d2 d3 d4 : Nat} (hb : Below w.heap.size w w8) (hg : Blk w8 w.heap.size 75 #[.slice p1 m1 d1, .slice p2 m2 d2, .slice p3 m3 d3, .slice p4 m4 d4])
    (h1 : CodeIn w.heap.size w8 a1 (some ⟨b1, 0, none⟩) 288 c1 288 fixL) (h2 : CodeIn w.heap.size w8 a2 (some ⟨b2, 0, none⟩) 32 c2 32 fixD) (u v x y : Value) :
    FixedRet w (.returned (.agg #[.slice a1 288 c1, .slice (some ⟨b1, 0, none⟩) 288 288, .slice a2 32 c2, .slice (some ⟨b2, 0, none⟩) 32 32])) ((((w8.setCell ⟨w.heap.size, 0, none⟩ u).setCell ⟨w.heap.size, 1, none⟩ v).setCell ⟨w.heap.size, 2, none⟩ x).setCell ⟨w.heap.size, 3, none⟩ y) := by
  have ho := only_set4 w8 w.heap.size u v x y
  exact ⟨a1, c1, b1, a2, c2, b2, rfl, h1.off ho (cells_ne h1.lens (by omega) hg (lv_ints _) slices4) (cells_ne h1.words (by omega) hg (words_ints _) slices4), h2.off ho (cells_ne h2.lens (by omega) hg (lv_ints _) slices4) (cells_ne h2.words (by omega) hg (words_ints _) slices4),
    hb.trans (ho.below (by have := hg.lt; omega) (fun k hk => by omega))⟩
set_option maxRecDepth 100000 in
set_option maxHeartbeats 4000000 in
theorem fixed_any (w : World) : Calls Tryz.prog 36 #[] w (FixedRet w) := by
  obtain ⟨w0, hw0⟩ : ∃ w0, w0 = w.alloc (.cells #[.slice none 0 0, .slice none 0 0, .slice none 0 0, .slice none 0 0] 75) := ⟨_, rfl⟩
  have HBX : Hid (Blk w0 w.heap.size 75 #[.slice none 0 0, .slice none 0 0, .slice none 0 0, .slice none 0 0]) := Lib.hid (by rw [hw0]; exact Blk.new w _ _)
  have HXB : Hid (Below w.heap.size w w0) := Lib.hid (by rw [hw0]; exact (Below.refl _ _).alloc (Nat.le_refl _) _)
  go_enter Tryz.func36, Tryz.ntmps36
  go_upto_region 1 with (fail)
  rw [← hw0]
  clear hw0
  go_wp2_with fail
  refine (SlcC.repeat_any 8 144 (by omega) (by omega) _ _ _ (one_row w0 8)).mono ?_
  rintro e w1 ⟨ga, rfl, hown, hb⟩
  have H1 : Hid (RowIn w1 (some ⟨ga, 0, none⟩) 144 144 (fixR 0)) := Lib.hid (hown.rowIn (by simp))
  have HB1 : Hid (Below w0.heap.size w0 w1) := Lib.hid (((Below.refl w0.heap.size w0).alloc (Nat.le_refl _) _).trans (hb.mono (by simp)))
  clear hown hb
  go_wp2_with fail
  refine (SlcC.repeat_any 9 112 (by omega) (by omega) _ _ _ (one_row w1 9)).mono ?_
  rintro e w2 ⟨gb, rfl, hown, hb⟩
  have hb2 : Below w1.heap.size w1 w2 := ((Below.refl w1.heap.size w1).alloc (Nat.le_refl _) _).trans (hb.mono (by simp))
  have H1' : Hid (RowIn w2 (some ⟨ga, 0, none⟩) 144 144 (fixR 0)) := Lib.hid (H1.out.below (Nat.le_refl _) hb2)
  have H2 : Hid (RowIn w2 (some ⟨gb, 0, none⟩) 112 112 (fixR 1)) := Lib.hid (hown.rowIn (by simp))
  have HB2 : Hid (Below w0.heap.size w0 w2) := Lib.hid (HB1.out.trans (hb2.mono HB1.out.size))
  clear hown hb hb2 H1 HB1
  go_wp2_with fail
  refine (SlcC.repeat_any 7 24 (by omega) (by omega) _ _ _ (one_row w2 7)).mono ?_
  rintro e w3 ⟨gc, rfl, hown, hb⟩
  have hb3 : Below w2.heap.size w2 w3 := ((Below.refl w2.heap.size w2).alloc (Nat.le_refl _) _).trans (hb.mono (by simp))
  have H1 : Hid (RowIn w3 (some ⟨ga, 0, none⟩) 144 144 (fixR 0)) := Lib.hid (H1'.out.below (Nat.le_refl _) hb3)
  have H2' : Hid (RowIn w3 (some ⟨gb, 0, none⟩) 112 112 (fixR 1)) := Lib.hid (H2.out.below (Nat.le_refl _) hb3)
  have H3 : Hid (RowIn w3 (some ⟨gc, 0, none⟩) 24 24 (fixR 2)) := Lib.hid (hown.rowIn (by simp))
  have HB3 : Hid (Below w0.heap.size w0 w3) := Lib.hid (HB2.out.trans (hb3.mono HB2.out.size))
  clear hown hb hb3 H1' H2 HB2
  go_wp2_with fail
  refine (SlcC.repeat_any 8 8 (by omega) (by omega) _ _ _ (one_row w3 8)).mono ?_
  rintro e w4 ⟨gd, rfl, hown, hb⟩
  have hb4 : Below w3.heap.size w3 w4 := ((Below.refl w3.heap.size w3).alloc (Nat.le_refl _) _).trans (hb.mono (by simp))
  have h1 : RowIn w4 (some ⟨ga, 0, none⟩) 144 144 (fixR 0) := H1.out.below (Nat.le_refl _) hb4
  have h2 : RowIn w4 (some ⟨gb, 0, none⟩) 112 112 (fixR 1) := H2'.out.below (Nat.le_refl _) hb4
  have h3 : RowIn w4 (some ⟨gc, 0, none⟩) 24 24 (fixR 2) := H3.out.below (Nat.le_refl _) hb4
  have h4 : RowIn w4 (some ⟨gd, 0, none⟩) 8 8 (fixR 3) := hown.rowIn (by simp)
  have HB4 : Hid (Below w0.heap.size w0 w4) := Lib.hid (HB3.out.trans (hb4.mono HB3.out.size))
  obtain ⟨f, hf⟩ : ∃ f : Nat → Value, f = fun i => if i = 0 then .slice (some ⟨ga, 0, none⟩) 144 144 else if i = 1 then .slice (some ⟨gb, 0, none⟩) 112 112 else if i = 2 then .slice (some ⟨gc, 0, none⟩) 24 24 else .slice (some ⟨gd, 0, none⟩) 8 8 := ⟨_, rfl⟩
  have hal : Below w4.heap.size w4 (w4.alloc (.cells #[.slice (some ⟨ga, 0, none⟩) 144 144, .slice (some ⟨gb, 0, none⟩) 112 112, .slice (some ⟨gc, 0, none⟩) 24 24, .slice (some ⟨gd, 0, none⟩) 8 8] 67)) := (Below.refl _ _).alloc (Nat.le_refl _) _
  have hrw : SlcC.Rws (w4.alloc (.cells #[.slice (some ⟨ga, 0, none⟩) 144 144, .slice (some ⟨gb, 0, none⟩) 112 112, .slice (some ⟨gc, 0, none⟩) 24 24, .slice (some ⟨gd, 0, none⟩) 8 8] 67)) (some ⟨w4.heap.size, 0, none⟩) 4 4 f fixR := by
    refine ⟨?_, fun i hi => ?_, fun i _ u hu => ?_⟩
    · have := (OwnV.lit 67 w4 #[.slice (some ⟨ga, 0, none⟩) 144 144, .slice (some ⟨gb, 0, none⟩) 112 112, .slice (some ⟨gc, 0, none⟩) 24 24, .slice (some ⟨gd, 0, none⟩) 8 8] (Nat.le_refl _) (by simp)).rowIn rfl
      rw [hf]
      exact this
    · rw [hf]
      rcases (by omega : i = 0 ∨ i = 1 ∨ i = 2 ∨ i = 3) with rfl | rfl | rfl | rfl
      · exact ⟨_, _, rfl, h1.below (Nat.le_refl _) hal⟩
      · exact ⟨_, _, rfl, h2.below (Nat.le_refl _) hal⟩
      · exact ⟨_, _, rfl, h3.below (Nat.le_refl _) hal⟩
      · exact ⟨_, _, rfl, h4.below (Nat.le_refl _) hal⟩
    · unfold fixR at hu
      split at hu <;> (rw [(List.mem_replicate.1 hu).2]; rfl)
  have HRW := Lib.hid hrw
  clear hown hb hb4 h1 h2 h3 h4 hal hrw hf H1 H2' H3 HB3
  have hlv : (lv fixL).length = 288 := by simp only [lv, List.length_map]; exact InfMath.fixL_len
  go_wp2_with fail
  refine (SlcC.concat_any _ 4 4 f fixR _ HRW.out (by omega) (by rw [cat_fix, hlv]; omega) (by rw [cat_fix, hlv]; omega)).mono ?_
  rw [cat_fix, hlv]
  rintro e w5 ⟨a5, c5, rfl, hown, hb⟩
  have H5 : Hid (RowIn w5 a5 288 c5 (lv fixL)) := Lib.hid (hown.rowIn hlv)
  have hb5 : Below w0.heap.size w0 w5 := HB4.out.trans ((((Below.refl w4.heap.size w4).alloc (Nat.le_refl _) _).trans (hb.mono (by simp))).mono HB4.out.size)
  have HB5 := Lib.hid hb5
  have HLA : Hid (∀ k off, a5 = some ⟨k, off, none⟩ → w.heap.size ≤ k) := Lib.hid fun k off hk => by
    have h1 := own_la hown k off hk
    have h2 := HB4.out.size
    have h3 := HXB.out.size
    simp at h1
    omega
  have HM1 := Lib.hid (made_any a5 288 c5 fixL w5 H5.out (by rw [InfMath.fixL_len]; omega) InfMath.fixL_ok.all InfMath.fixL_ok.kr (B := w.heap.size) (by have := HB5.out.size; have := HXB.out.size; omega) HLA.out)
  clear hown hb hb5 HRW HB4
  go_wp2_with fail
  refine HM1.out.mono ?_
  rintro e w6 ⟨b1, rfl, hb1, hc, hb⟩
  have HC1 := Lib.hid hc
  have HB6 := Lib.hid (HB5.out.trans (hb.mono HB5.out.size))
  clear hb1 hc hb HM1 HB5 H5
  go_wp2_with fail
  refine (SlcC.repeat_any 5 32 (by omega) (by omega) _ _ _ (one_row w6 5)).mono ?_
  rintro e w7 ⟨g7, rfl, hown, hb⟩
  have hb7 : Below w6.heap.size w6 w7 := ((Below.refl w6.heap.size w6).alloc (Nat.le_refl _) _).trans (hb.mono (by simp))
  have H7 : Hid (RowIn w7 (some ⟨g7, 0, none⟩) 32 32 (lv fixD)) := Lib.hid (by rw [fixD_lv]; exact hown.rowIn (by simp))
  have HC7 := Lib.hid (HC1.out.below hb7)
  have HB7 := Lib.hid (HB6.out.trans (hb7.mono HB6.out.size))
  have HLB : Hid (∀ k off, (some ⟨g7, 0, none⟩ : Option Addr) = some ⟨k, off, none⟩ → w.heap.size ≤ k) := Lib.hid fun k off hk => by
    have h1 := own_la hown k off hk
    have h2 := HB6.out.size
    have h3 := HXB.out.size
    simp at h1
    omega
  have HM2 := Lib.hid (made_any (some ⟨g7, 0, none⟩) 32 32 fixD w7 H7.out (by rw [InfMath.fixD_len]; omega) InfMath.fixD_ok.all InfMath.fixD_ok.kr (B := w.heap.size) (by have := HB7.out.size; have := HXB.out.size; omega) HLB.out)
  clear hown hb hb7 HC1 HB6 H7
  go_wp2_with fail
  refine HM2.out.mono ?_
  rintro e w8 ⟨b2, rfl, hb2, hc, hb⟩
  have HC2 := Lib.hid hc
  have HC8 := Lib.hid (HC7.out.below hb)
  have HB8 := Lib.hid (HB7.out.trans (hb.mono HB7.out.size))
  clear hb2 hc hb HM2 HB7 HC7
  have HBR := Lib.hid (HBX.out.same (HB8.out.block w.heap.size HBX.out.lt))
  have r0 : w8.cell? ⟨w.heap.size, 0, none⟩ = some (.slice none 0 0) := HBR.out.cell 0
  have r1 : w8.cell? ⟨w.heap.size, 1, none⟩ = some (.slice none 0 0) := HBR.out.cell 1
  have r2 : w8.cell? ⟨w.heap.size, 2, none⟩ = some (.slice none 0 0) := HBR.out.cell 2
  have r3 : w8.cell? ⟨w.heap.size, 3, none⟩ = some (.slice none 0 0) := HBR.out.cell 3
  have f0 := HBR.out.frozen 0
  have f1 := HBR.out.frozen 1
  have f2 := HBR.out.frozen 2
  have f3 := HBR.out.frozen 3
  have HW8 := Lib.hid (HXB.out.trans (HB8.out.mono HXB.out.size))
  have HNE : Hid (∀ k, w.heap.size < k → k ≠ w.heap.size) := Lib.hid fun k hk => by omega
  go_wp2_with fail
  have HB3 := (((HBR.out.set_ 0 (.slice a5 288 c5)).set_ 1 (.slice (some ⟨b1, 0, none⟩) 288 288)).set_ 2 (.slice (some ⟨g7, 0, none⟩) 32 32)).set_ 3 (.slice (some ⟨b2, 0, none⟩) 32 32)
  refine codes_ret rfl rfl rfl HB3 info_codes ?_
  exact fixed_done HW8.out HBR.out HC8.out HC2.out _ _ _ _
end Go.Proofs.YtbjjkhlebdaoaaaGreatDoor.BlkC
end

section
/-
  codes.bits: what was counted takes in codes; Fixed of no tokens.
-/
namespace Go.Proofs.YtbjjkhlebdaoaaaGreatDoor.BlkC
open Go.RowKit Go.My BitMath CanMath TabMath
open CanC (iv allWords)
open PkC (cel lv prd cost_any)
open PackMath (sm)
open InfMath (CodeOk fixL fixD)

theorem cel_row {w : World} {g n : Nat} {F : Nat → Nat} (h : Blk w g 3 (cel n F).toArray) (hn : n ≤ 1000000) : RowIn w (some ⟨g, 0, none⟩) n n (lv ((List.range n).map F)) := by
  rw [← PkC.cel_lv]
  have hl : (cel n F).length = n := by simp [cel]
  refine ⟨hl, Nat.le_refl _, by omega, (fun e => by cases e), .inr ⟨g, 0, rfl, h.lt, fun i hi => ?_⟩⟩
  rw [h.cell, Nat.zero_add, List.getElem?_toArray, List.getElem?_eq_getElem hi]
theorem prd_sm (n m : Nat) (F : Nat → Nat) (B : List Nat) (h : ∀ j, m ≤ j → j < n → B.getD j 0 = 0) : prd ((List.range n).map F) B (min n m) = sm n (fun j => F j * B.getD j 0) := by
  unfold prd
  have h1 : ∀ k, k ≤ n → sm k (fun j => ((List.range n).map F).getD j 0 * B.getD j 0) = sm k (fun j => F j * B.getD j 0) := fun k hk => PackMath.sm_congr fun j hj => by
    congr 1
    simp [List.getD_eq_getElem?_getD, show j < n by omega]
  have h2 : ∀ k, min n m + k ≤ n → sm (min n m + k) (fun j => F j * B.getD j 0) = sm (min n m) (fun j => F j * B.getD j 0) := by
    intro k hk
    induction k with
    | zero => rfl
    | succ k ih =>
      show sm (min n m + k) _ + F (min n m + k) * B.getD (min n m + k) 0 = _
      rw [ih (by omega), h _ (by omega) (by omega), Nat.mul_zero, Nat.add_zero]
  rw [h1 _ (Nat.min_le_left _ _)]
  have := h2 (n - min n m) (by omega)
  rw [show min n m + (n - min n m) = n from by omega] at this
  exact this.symm
theorem modest_of {n : Nat} {F : Nat → Nat} {B : List Nat} (hn : n ≤ 1000) (hF : ∀ j, F j ≤ 1073741824) (hB : B.length ≤ 1000) (h15 : ∀ x ∈ B, x ≤ 15) : PkC.Modest ((List.range n).map F) B := by
  refine ⟨by simpa using hn, hB, fun j => ?_, fun j => ?_⟩
  · by_cases hj : j < n
    · simp [List.getD_eq_getElem?_getD, hj, hF j]
    · simp [List.getD_eq_getElem?_getD, hj]
  · by_cases hj : j < B.length
    · rw [List.getD_eq_getElem?_getD, List.getElem?_eq_getElem hj]; have := h15 _ (List.getElem_mem hj); simp; omega
    · simp [List.getD_eq_getElem?_getD, hj]
theorem sum_nums {s t x : Nat} (hs : s ≤ 1000000000000) (ht : t ≤ 1000000000000) (hx : x ≤ 1000000000) : wrap64 ((s : Int) + (t : Int)) = (s : Int) + (t : Int) ∧ wrap64 ((s : Int) + (t : Int) + (x : Int)) = (s : Int) + (t : Int) + (x : Int) :=
  ⟨IntWalk.wrap64_in _ (by omega), IntWalk.wrap64_in _ (by omega)⟩
theorem blk_drewN {w : World} {g : Nat} {t : TypeId} {cs : Array Value} (h : Blk w g t cs) (q : Nat) : Blk (w.drewN q) g t cs := h
theorem row_drewN {w : World} {a : Option Addr} {n c : Nat} {vs : List Value} (h : RowIn w a n c vs) (q : Nat) : RowIn (w.drewN q) a n c vs := ⟨h.1, h.2, h.3, h.4, h.5⟩
set_option maxRecDepth 100000 in
set_option maxHeartbeats 4000000 in
/-- codes.bits where no symbol beyond the lengths is counted. -/
theorem bits_any {B : Nat} (w : World) (a1 a2 : Option Addr) (b1 b2 : Option Addr) (n1 n2 c1 c2 d1 d2 : Nat) (L D : List Nat) (g1 g2 x : Nat) (F G : Nat → Nat)
    (h1 : CodeIn B w a1 b1 n1 c1 d1 L) (h2 : CodeIn B w a2 b2 n2 c2 d2 D) (hF : Blk w g1 3 (cel 286 F).toArray) (hG : Blk w g2 3 (cel 32 G).toArray)
    (hL : L.length ≤ 1000) (hD : D.length ≤ 1000) (hL15 : ∀ y ∈ L, y ≤ 15) (hD15 : ∀ y ∈ D, y ≤ 15) (hFm : ∀ j, F j ≤ 1000000) (hGm : ∀ j, G j ≤ 1000000) (hx : x ≤ 1000000000) (s t : Nat) (hs : sm 286 (fun j => F j * ln L j) = s) (ht : sm 32 (fun j => G j * ln D j) = t)
    (hsl : s ≤ 1000000000000) (htl : t ≤ 1000000000000) :
    Calls Tryz.prog 39 #[.agg #[.slice a1 n1 c1, .slice b1 n1 d1, .slice a2 n2 c2, .slice b2 n2 d2], .agg #[.slice (some ⟨g1, 0, none⟩) 286 286, .slice (some ⟨g2, 0, none⟩) 32 32, .int .i64 (x : Int)]] w
      fun e w' => e = .returned (.int .i64 ((s + t + x : Nat) : Int)) ∧ Below w.heap.size w w' := by
  have hl1 := PkC.lv_size h1.lens
  have hl2 := PkC.lv_size h2.lens
  have e1 : prd ((List.range 286).map F) L (min 286 n1) = s := by rw [prd_sm 286 n1 F L (fun j hj _ => by rw [List.getD_eq_getElem?_getD, List.getElem?_eq_none (by omega)]; rfl)]; exact hs
  have e2 : prd ((List.range 32).map G) D (min 32 n2) = t := by rw [prd_sm 32 n2 G D (fun j hj _ => by rw [List.getD_eq_getElem?_getD, List.getElem?_eq_none (by omega)]; rfl)]; exact ht
  obtain ⟨X, hX⟩ : ∃ X, X = (w.alloc (.cells #[.slice a1 n1 c1, .slice b1 n1 d1, .slice a2 n2 c2, .slice b2 n2 d2] 75)).alloc (.cells #[.slice (some ⟨g1, 0, none⟩) 286 286, .slice (some ⟨g2, 0, none⟩) 32 32, .int .i64 (x : Int)] 69) := ⟨_, rfl⟩
  have hXB : Below w.heap.size w X := by rw [hX]; exact ((Below.refl _ _).alloc (Nat.le_refl _) _).alloc (by rw [World.size_alloc]; omega) _
  have HC : Hid (Blk X w.heap.size 75 #[.slice a1 n1 c1, .slice b1 n1 d1, .slice a2 n2 c2, .slice b2 n2 d2]) := Lib.hid (by rw [hX]; exact (Blk.new w _ _).alloc _)
  have HT : Hid (Blk X (w.heap.size + 1) 69 #[.slice (some ⟨g1, 0, none⟩) 286 286, .slice (some ⟨g2, 0, none⟩) 32 32, .int .i64 (x : Int)]) := Lib.hid (by
    have := Blk.new (w.alloc (.cells #[.slice a1 n1 c1, .slice b1 n1 d1, .slice a2 n2 c2, .slice b2 n2 d2] 75)) 69 #[.slice (some ⟨g1, 0, none⟩) 286 286, .slice (some ⟨g2, 0, none⟩) 32 32, .int .i64 (x : Int)]
    rw [World.size_alloc] at this
    rw [hX]; exact this)
  have hF' : Blk X g1 3 (cel 286 F).toArray := hF.same (hXB.block g1 hF.lt)
  have hG' : Blk X g2 3 (cel 32 G).toArray := hG.same (hXB.block g2 hG.lt)
  have HK1 : Hid (∀ q, Calls Tryz.prog 71 #[.slice (some ⟨g1, 0, none⟩) 286 286, .slice a1 n1 c1] (X.drewN q) fun e w' => e = .returned (.int .i64 ((s : Nat) : Int)) ∧ ∃ q', w' = (X.drewN q).drewN q') := Lib.hid fun q => by
    have h := cost_any (w := X.drewN q) (cel_row (blk_drewN hF' q) (by omega)) (row_drewN (h1.lens.below (Nat.le_refl _) hXB) q) (modest_of (by omega) (fun j => Nat.le_trans (hFm j) (by omega)) hL hL15)
    rw [e1] at h
    exact h
  have HK2 : Hid (∀ q, Calls Tryz.prog 71 #[.slice (some ⟨g2, 0, none⟩) 32 32, .slice a2 n2 c2] (X.drewN q) fun e w' => e = .returned (.int .i64 ((t : Nat) : Int)) ∧ ∃ q', w' = (X.drewN q).drewN q') := Lib.hid fun q => by
    have h := cost_any (w := X.drewN q) (cel_row (blk_drewN hG' q) (by omega)) (row_drewN (h2.lens.below (Nat.le_refl _) hXB) q) (modest_of (by omega) (fun j => Nat.le_trans (hGm j) (by omega)) hD hD15)
    rw [e2] at h
    exact h
  have HXB := Lib.hid hXB
  obtain ⟨w1, w2⟩ := sum_nums hsl htl hx
  have HZ : Hid ((((s : Int) + (t : Int)) + (x : Int)) = ((s + t + x : Nat) : Int)) := Lib.hid (by push_cast; rfl)
  clear hsl htl hx
  clear h1 h2 hF hG hL hD hL15 hD15 hFm hGm e1 e2 hF' hG' hl1 hl2 hs ht hXB
  go_enter Tryz.func39, Tryz.ntmps39
  go_upto_region 1 with (fail)
  rw [← hX]
  clear hX
  have k0 : X.cell? ⟨w.heap.size, 0, none⟩ = some (.slice a1 n1 c1) := HC.out.cell 0
  have k2 : X.cell? ⟨w.heap.size, 2, none⟩ = some (.slice a2 n2 c2) := HC.out.cell 2
  have t0 : X.cell? ⟨w.heap.size + 1, 0, none⟩ = some (.slice (some ⟨g1, 0, none⟩) 286 286) := HT.out.cell 0
  have t1 : X.cell? ⟨w.heap.size + 1, 1, none⟩ = some (.slice (some ⟨g2, 0, none⟩) 32 32) := HT.out.cell 1
  have t2 : X.cell? ⟨w.heap.size + 1, 2, none⟩ = some (.int .i64 (x : Int)) := HT.out.cell 2
  go_quiet (first
    | (go_at_call 71; first | with_reducible exact Calls.quiet_of (HK1.out _) | with_reducible exact Calls.quiet_of (HK2.out _)))
  go_wp2_with fail
  go_ret
  exact ⟨ret_int (by rw [w2]; exact HZ.out), ⟨HXB.out.os, HXB.out.tape, HXB.out.output, HXB.out.size, HXB.out.block⟩⟩

end Go.Proofs.YtbjjkhlebdaoaaaGreatDoor.BlkC
end

section
/-
  Stored.
-/
namespace Go.Proofs.YtbjjkhlebdaoaaaGreatDoor.BlkC
open Go.RowKit Go.My BitMath
/-! ### Stored -/
def sto (n : Nat) : Nat := n + 5 * max 1 ((n + 65534) / 65535)
def stoZ (z : Int) : Nat := if z < 0 then 0 else sto (min z.toNat 1073741824)
theorem sto_nums {n : Nat} (hn : n ≤ 1073741824) : ∃ M : Nat, Hid (sto n = n + 5 * M) ∧ (if 1 < ((n : Int) + 65535 - 1) / 65535 then ((n : Int) + 65535 - 1) / 65535 else 1) = (M : Int) ∧ wrap64 (5 * (M : Int)) = 5 * (M : Int) ∧ wrap64 ((n : Int) + 5 * (M : Int)) = (n : Int) + 5 * (M : Int) := by
  obtain ⟨k, hk⟩ : ∃ k : Nat, k = (n + 65534) / 65535 := ⟨_, rfl⟩
  obtain ⟨M, hM⟩ : ∃ M : Nat, M = max 1 k := ⟨_, rfl⟩
  have hk2 : k ≤ 20000 := by omega
  have hM2 : M ≤ 20000 := by omega
  have e0 : ((n : Int) + 65535 - 1) / 65535 = (k : Int) := by omega
  refine ⟨M, Lib.hid (by unfold sto; rw [hM, hk]), ?_, IntWalk.wrap64_in _ (by clear e0; omega), IntWalk.wrap64_in _ (by clear e0; omega)⟩
  rw [e0]
  clear e0 hk
  split <;> omega
set_option maxRecDepth 100000 in
set_option maxHeartbeats 1000000 in
theorem stored_any (z : Int) (w : World) (hz : -9223372036854775808 ≤ z ∧ z ≤ 9223372036854775807) : Calls Tryz.prog 18 #[.int .i64 z] w fun e w' => e = .returned (.int .i64 (stoZ z : Int)) ∧ w = w' := by
  by_cases h : z < 0
  · have HS : Hid (stoZ z = 0) := Lib.hid (by unfold stoZ; rw [if_pos h])
    go_enter Tryz.func18, Tryz.ntmps18
    go_wp2_with fail
    go_ret
    exact ⟨by rw [HS.out]; rfl, rfl⟩
  · have HS : Hid (stoZ z = sto (min z.toNat 1073741824)) := Lib.hid (by unfold stoZ; rw [if_neg h])
    obtain ⟨n, hn⟩ : ∃ n : Nat, n = min z.toNat 1073741824 := ⟨_, rfl⟩
    have hn2 : n ≤ 1073741824 := by omega
    have hmin : (if (1073741824 : Int) < z then (1073741824 : Int) else z) = (n : Int) := by split <;> omega
    rw [← hn] at HS
    obtain ⟨M, HK, hmm, h5, h6⟩ := sto_nums hn2
    have HM := Lib.hid (And.intro hmm (And.intro h5 h6))
    have hz0 : decide (z < 0) = false := decide_eq_false h
    clear h hmm h5 h6 hn hz
    go_enter Tryz.func18, Tryz.ntmps18
    go_upto_region 4 with (fail)
    clear hmin hz0
    go_upto_region 5 with (fail)
    simp only [HM.out.1]
    have e5 := HM.out.2.1
    have e6 := HM.out.2.2
    go_wp2_with fail
    go_ret
    refine ⟨?_, rfl⟩
    rw [HS.out, HK.out]
    exact ret_int (by rw [HM.out.2.2]; push_cast; rfl)
end Go.Proofs.YtbjjkhlebdaoaaaGreatDoor.BlkC
end
