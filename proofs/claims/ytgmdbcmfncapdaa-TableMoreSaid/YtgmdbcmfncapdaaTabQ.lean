/-
  A symbol is placed in a table.
-/
import Derived.Test.YtgmdbcmfncapdaaTabP
namespace Go.Proofs.Ytgmdbcmfncapdaa.TabC
open Go.RowKit Go.My BitMath CanMath TabMath

theorem TabAt.mk' {w : World} {g ge f n : Nat} {T : Nat → El} (h : Blk w g 48 #[.int .u64 (f : Int), .slice (some ⟨ge, 0, none⟩) n n]) (h2 : Row w ge n T) : TabAt w g ge f n T := ⟨h, h2⟩
theorem TabAt.row' {w : World} {g ge f n : Nat} {T : Nat → El} (h : TabAt w g ge f n T) : Row w ge n T := h.row
theorem TabAt.ne {w : World} {g ge f n : Nat} {T : Nat → El} (h : TabAt w g ge f n T) : g ≠ ge := by
  obtain ⟨h3, C, h4, h5⟩ := h
  intro e
  subst e
  unfold Blk at h3 h4
  rw [h3] at h4
  injection h4 with h4
  injection h4 with _ h4
  revert h4; decide

set_option maxRecDepth 100000 in
set_option maxHeartbeats 4000000 in
theorem place_short (g ge f N i n W : Nat) (T : Nat → El) (w : World) (h : TabAt w g ge f N T) (hf : f ≤ 15) (hN : N ≤ 65536) (hi : i < 65536) (hn : n ≤ f) (hW : W < 2 ^ n) (hfN : 2 ^ f ≤ N) :
    Calls Try.prog 16 #[.pointer (some ⟨g, 0, none⟩), .int .i64 (i : Int), .int .u32 (W : Int), .int .i64 (n : Int)] w fun r w' =>
      r = .returned (.tuple #[]) ∧ TabAt w' g ge f N (fun j => if j < 2 ^ f ∧ j % 2 ^ n = W then ⟨i, n, 0⟩ else T j) ∧ Only (fun k => k = ge) w w' := by
  have HT := Lib.hid h
  have hp := pow_le15 hf
  have h0 := Nat.two_pow_pos f
  have hp2 : (2 : Int) ^ f = ((2 ^ f : Nat) : Int) := by push_cast; rfl
  have HW := Lib.hid hW
  have hc1 : IntKind.u16.wrap (i : Int) = (i : Int) := by rw [IntKind.wrap_u16]; omega
  have hc2 : IntKind.u8.wrap (n : Int) = (n : Int) := by rw [IntKind.wrap_u8]; omega
  clear h hW
  go_enter Try.func16, Try.ntmps16
  go_upto_region 1 with (fail)
  obtain ⟨w1, hw1⟩ : ∃ w1, w1 = w.alloc (.cells #[.int .u16 (i : Int), .int .u8 (n : Int), .int .u8 0] 54) := ⟨_, rfl⟩
  have HB1 : Hid (Only (fun k => k = ge) w w1) := Lib.hid (by rw [hw1]; exact (Only.refl _ w).alloc _)
  have HT1 : Hid (TabAt w1 g ge f N T) := Lib.hid (by rw [hw1]; exact HT.out.alloc _)
  have HX : Hid (Blk w1 w.heap.size 54 (ec ⟨i, n, 0⟩)) := Lib.hid (by rw [hw1]; exact Blk.new w _ _)
  rw [← hw1]
  clear hw1 HT
  have ht1 : w1.cell? ⟨g, 1, none⟩ = some (.slice (some ⟨ge, 0, none⟩) N N) := by rw [HT1.out.tab.cell]; rfl
  have ht0 : w1.cell? ⟨g, 0, none⟩ = some (.int .u64 (f : Int)) := by rw [HT1.out.tab.cell]; rfl
  have x0 : w1.cell? ⟨w.heap.size, 0, none⟩ = some (.int .u16 (i : Int)) := by rw [HX.out.cell]; rfl
  have x1 : w1.cell? ⟨w.heap.size, 1, none⟩ = some (.int .u8 (n : Int)) := by rw [HX.out.cell]; rfl
  have x2 : w1.cell? ⟨w.heap.size, 2, none⟩ = some (.int .u8 0) := by rw [HX.out.cell]; rfl
  have hc3 : IntKind.i64.wrap (f : Int) = (f : Int) := by rw [IntWalk.i64_in _ (by omega)]
  have hd : decide ((n : Int) ≤ (f : Int)) = true := by simp; omega
  obtain ⟨p, hpe⟩ : ∃ p, p = 2 ^ f := ⟨_, rfl⟩
  rw [← hpe] at hfN hp h0 hp2
  have HP := Lib.hid hpe
  clear hpe
  have hs3 : IntKind.i64.wrap (p : Int) = (p : Int) := by rw [IntWalk.i64_in _ (by omega)]
  have hpn : (p : Int) ≤ (N : Int) := by omega
  go_upto_region 2 with (fail)
  go_still_tail 13, (by kernel_rfl)
  change wpList _ _ _ _ _ w1.drew
  have HT2 : Hid (TabAt w1.drew g ge f N T) := Lib.hid HT1.out.drew
  have HB2 : Hid (Only (fun k => k = ge) w w1.drew) := Lib.hid HB1.out.drew
  clear HT1 HB1 HX ht1 ht0 x0 x1 x2
  generalize w1.drew = w2 at *
  go_wp2_with fail
  refine (spread_any ge N 0 0 p N n W T ⟨i, n, 0⟩ w2 HT2.out.row' (by omega) HW.out (by omega) hN rfl).mono ?_
  rintro r w3 ⟨rfl, hr, hb⟩
  have HR3 : Hid (Row w3 ge N (fun j => if j < p ∧ j % 2 ^ n = W then ⟨i, n, 0⟩ else T j)) := Lib.hid (by
    have e : (fun j => if 0 ≤ j ∧ j < 0 + p ∧ (j - 0) % 2 ^ n = W then (⟨i, n, 0⟩ : El) else T j) = (fun j => if j < p ∧ j % 2 ^ n = W then ⟨i, n, 0⟩ else T j) := by
      funext j; simp
    rw [← e]; exact hr)
  have HT3 : Hid (TabAt w3 g ge f N (fun j => if j < p ∧ j % 2 ^ n = W then ⟨i, n, 0⟩ else T j)) := Lib.hid ⟨hb.blk HT2.out.tab HT2.out.ne, HR3.out⟩
  have HB3 := Lib.hid (HB2.out.trans hb (fun _ _ h => h))
  clear hr hb HR3 HT2 HB2
  go_wp2_with fail
  refine bodyPost_ret (results_none rfl _ _ _) rfl ?_
  exact ⟨rfl, by rw [← HP.out]; exact HT3.out, HB3.out⟩

set_option maxRecDepth 100000 in
set_option maxHeartbeats 4000000 in
theorem place_long (g ge f N i n W : Nat) (T : Nat → El) (w : World) (h : TabAt w g ge f N T) (hf : 1 ≤ f) (hN : N ≤ 65536) (hi : i < 65536) (hn : f < n) (hn15 : n ≤ 15) (hW : W < 2 ^ n) (hp : W % 2 ^ f < N) (hm : (T (W % 2 ^ f)).m ≤ 14) (hto : (T (W % 2 ^ f)).v + 2 ^ (T (W % 2 ^ f)).m ≤ N) :
    Calls Try.prog 16 #[.pointer (some ⟨g, 0, none⟩), .int .i64 (i : Int), .int .u32 (W : Int), .int .i64 (n : Int)] w fun r w' =>
      r = .returned (.tuple #[]) ∧ TabAt w' g ge f N (fun j => if (T (W % 2 ^ f)).v ≤ j ∧ j < (T (W % 2 ^ f)).v + 2 ^ (T (W % 2 ^ f)).m ∧ (j - (T (W % 2 ^ f)).v) % 2 ^ (n - f) = W / 2 ^ f then ⟨i, n, 0⟩ else T j) ∧ Only (fun k => k = ge) w w' := by
  have HT := Lib.hid h
  have hWs : W < 32768 := by have := pow_le15 hn15; omega
  have HD : Hid (W / 2 ^ f < 2 ^ (n - f)) := Lib.hid (by
    rw [Nat.div_lt_iff_lt_mul (Nat.two_pow_pos _), ← Nat.pow_add, show n - f + f = n from by omega]; exact hW)
  have hc1 : IntKind.u16.wrap (i : Int) = (i : Int) := by rw [IntKind.wrap_u16]; omega
  have hc2 : IntKind.u8.wrap (n : Int) = (n : Int) := by rw [IntKind.wrap_u8]; omega
  have hc3 : IntKind.i64.wrap (f : Int) = (f : Int) := by rw [IntWalk.i64_in _ (by omega)]
  have hd : decide ((n : Int) ≤ (f : Int)) = false := by simp; omega
  clear h hW
  go_enter Try.func16, Try.ntmps16
  go_upto_region 1 with (fail)
  obtain ⟨w1, hw1⟩ : ∃ w1, w1 = w.alloc (.cells #[.int .u16 (i : Int), .int .u8 (n : Int), .int .u8 0] 54) := ⟨_, rfl⟩
  have HB1 : Hid (Only (fun k => k = ge) w w1) := Lib.hid (by rw [hw1]; exact (Only.refl _ w).alloc _)
  have HT1 : Hid (TabAt w1 g ge f N T) := Lib.hid (by rw [hw1]; exact HT.out.alloc _)
  have HX : Hid (Blk w1 w.heap.size 54 (ec ⟨i, n, 0⟩)) := Lib.hid (by rw [hw1]; exact Blk.new w _ _)
  rw [← hw1]
  clear hw1 HT
  have ht0 : w1.cell? ⟨g, 0, none⟩ = some (.int .u64 (f : Int)) := by rw [HT1.out.tab.cell]; rfl
  go_upto_region 3 with (fail)
  clear ht0
  obtain ⟨p, hpe⟩ : ∃ p, p = W % 2 ^ f := ⟨_, rfl⟩
  have HS : Hid (p = W % 2 ^ f ∧ f ≤ 15 ∧ W < 4294967296) := Lib.hid ⟨hpe, by omega, by omega⟩
  rw [← hpe] at hp hm hto
  have HP := Lib.hid hpe
  clear hpe
  obtain ⟨e, he⟩ : ∃ e, e = T p := ⟨_, rfl⟩
  rw [← he] at hm hto
  have hkeep : ∀ w', Below w1.heap.size w1 w' → Hid (Blk w' g 48 #[.int .u64 (f : Int), .slice (some ⟨ge, 0, none⟩) N N]) ∧ w'.cell? ⟨g, 1, none⟩ = some (.slice (some ⟨ge, 0, none⟩) N N) ∧ w'.cell? ⟨ge, p * 3, none⟩ = some (.int .u16 ((e.v : Nat) : Int)) ∧ w'.cell? ⟨ge, p * 3 + 1, none⟩ = some (.int .u8 ((e.l : Nat) : Int)) ∧ w'.cell? ⟨ge, p * 3 + 2, none⟩ = some (.int .u8 ((e.m : Nat) : Int)) := by
    intro w' hb
    have h1 := HT1.out.below hb
    obtain ⟨c1, c2, c3⟩ := h1.el _ hp
    rw [← he] at c1 c2 c3
    exact ⟨Lib.hid h1.tab, by rw [h1.tab.cell]; rfl, c1, c2, c3⟩
  have HK := Lib.hid hkeep
  have HE := Lib.hid he
  clear hkeep he
  have hpi : ((p : Nat) : Int) < (N : Int) := by omega
  go_cut [9] (fun u wc => u = .pointer (some ⟨w1.heap.size, 0, none⟩) ∧ Hid (TabAt wc g ge f N T) ∧ Hid (Blk wc w1.heap.size 54 (ec e)) ∧ Hid (Blk wc w.heap.size 54 (ec ⟨i, n, 0⟩)) ∧ Hid (Only (fun k => k = ge) w wc))
  case first =>
    obtain ⟨k1, k2, k3, k4, k5⟩ := HK.out w1.drew (Below.refl _ _).drew
    go_region_held3 (fun w' => Hid (Blk w' g 48 #[.int .u64 (f : Int), .slice (some ⟨ge, 0, none⟩) N N]) ∧ w'.cell? ⟨g, 1, none⟩ = some (.slice (some ⟨ge, 0, none⟩) N N) ∧ w'.cell? ⟨ge, p * 3, none⟩ = some (.int .u16 ((e.v : Nat) : Int)) ∧ w'.cell? ⟨ge, p * 3 + 1, none⟩ = some (.int .u8 ((e.l : Nat) : Int)) ∧ w'.cell? ⟨ge, p * 3 + 2, none⟩ = some (.int .u8 ((e.m : Nat) : Int))) (first | exact ⟨by assumption, by assumption, by assumption, by assumption, by assumption⟩ | exact HK.out _ (Below.refl _ _).drew | exact HK.out _ ((Below.refl _ _).drew.alloc (Nat.le_refl _) _)) (first | (go_at_call 26; refine (start_at (u := .slice (some ⟨ge, 0, none⟩) N N) HS.out _ (HK.out _ (by first | exact (Below.refl _ _).drew | exact ((Below.refl _ _).alloc (Nat.le_refl _) _).drew)).1).mono ?_; rintro e2 w2 ⟨rfl, rfl⟩))
    all_goals
      go_wp2_with fail
      go_meet
      case rel => exact ⟨rfl, Lib.hid (HT1.out.below ((Below.refl _ _).alloc (Nat.le_refl _) _).drew), Lib.hid (Blk.new w1 _ _).drew, Lib.hid ((HX.out.alloc _).drew), Lib.hid ((HB1.out.alloc _).drew)⟩
  obtain ⟨rfl, HT2, HY2, HX2, HB2⟩ := hcut
  clear HT1 HB1 HX HK HS
  generalize wc = w2 at *
  generalize w1.heap.size = g5 at *
  obtain ⟨ev, el, em⟩ := e
  have ht1 : w2.cell? ⟨g, 1, none⟩ = some (.slice (some ⟨ge, 0, none⟩) N N) := by rw [HT2.out.tab.cell]; rfl
  have ht0 : w2.cell? ⟨g, 0, none⟩ = some (.int .u64 (f : Int)) := by rw [HT2.out.tab.cell]; rfl
  have x0 : w2.cell? ⟨w.heap.size, 0, none⟩ = some (.int .u16 (i : Int)) := by rw [HX2.out.cell]; rfl
  have x1 : w2.cell? ⟨w.heap.size, 1, none⟩ = some (.int .u8 (n : Int)) := by rw [HX2.out.cell]; rfl
  have x2 : w2.cell? ⟨w.heap.size, 2, none⟩ = some (.int .u8 0) := by rw [HX2.out.cell]; rfl
  have y0 : w2.cell? ⟨g5, 0, none⟩ = some (.int .u16 (ev : Int)) := by rw [HY2.out.cell]; rfl
  have y2 : w2.cell? ⟨g5, 2, none⟩ = some (.int .u8 (em : Int)) := by rw [HY2.out.cell]; rfl
  have hto : ev + 2 ^ em ≤ N := hto
  have hm : em ≤ 14 := hm
  have h0 := Nat.two_pow_pos em
  have hp2 : (2 : Int) ^ em = ((2 ^ em : Nat) : Int) := by push_cast; rfl
  obtain ⟨L, hLe⟩ : ∃ L, L = 2 ^ em := ⟨_, rfl⟩
  rw [← hLe] at hto h0 hp2
  have HL := Lib.hid hLe
  clear hLe
  have hs3 : IntKind.i64.wrap (L : Int) = (L : Int) := by rw [IntWalk.i64_in _ (by omega)]
  have hs4 : IntKind.i64.wrap ((n : Int) - (f : Int)) = ((n - f : Nat) : Int) := by rw [IntWalk.i64_in _ (by omega)]; omega
  have hvN : (ev : Int) ≤ (N : Int) := by omega
  have hLN : (L : Int) ≤ ((N - ev : Nat) : Int) := by omega
  go_upto_region 4 with (fail)
  go_still_tail 25, (by kernel_rfl)
  change wpList _ _ _ _ _ w2.drew
  have HT3 : Hid (TabAt w2.drew g ge f N T) := Lib.hid HT2.out.drew
  have HB3 : Hid (Only (fun k => k = ge) w w2.drew) := Lib.hid HB2.out.drew
  clear HT2 HB2 HX2 HY2 ht1 ht0 x0 x1 x2 y0 y2
  generalize w2.drew = w3 at *
  go_wp2_with fail
  have hdv : (W : Int) / 2 ^ f = ((W / 2 ^ f : Nat) : Int) := by push_cast; rfl
  rw [hdv]
  clear hdv
  refine (spread_any ge N ev (ev * 3) L (N - ev) (n - f) (W / 2 ^ f) T ⟨i, n, 0⟩ w3 HT3.out.row' (by omega) HD.out (by omega) hN rfl).mono ?_
  rintro r w4 ⟨rfl, hr, hb⟩
  have HT4 : Hid (TabAt w4 g ge f N (fun j => if ev ≤ j ∧ j < ev + L ∧ (j - ev) % 2 ^ (n - f) = W / 2 ^ f then ⟨i, n, 0⟩ else T j)) := Lib.hid ⟨hb.blk HT3.out.tab HT3.out.ne, hr⟩
  have HB4 := Lib.hid (HB3.out.trans hb (fun _ _ h => h))
  clear hr hb HT3 HB3
  go_wp2_with fail
  go_end0
  refine ⟨rfl, ?_, HB4.out⟩
  have h1 := HT4.out
  rw [HL.out] at h1
  rw [← HP.out, ← HE.out]
  exact h1
end Go.Proofs.Ytgmdbcmfncapdaa.TabC
