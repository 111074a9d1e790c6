import Derived.Test.YtehlgnjbmdaakaaDoorClkB
import Derived.Laws.Rows
import Derived.Laws.CopyOwn
namespace Go.Proofs.YtehlgnjbmdaakaaDoor.ClkC
open Go.RowKit Go.My Clk

/-- A year is found from any beginning. -/
theorem year_at {y n : Int} (h1 : d2 y ≤ n) (h2 : n < d2 (y + 1)) {y' : Int} (h3 : d2 y' ≤ n) (h4 : n < d2 (y' + 1)) : y = y' := by
  by_cases h : y < y'
  · have := d2_mono (show y + 1 ≤ y' by omega); omega
  · by_cases h' : y' < y
    · have := d2_mono (show y' + 1 ≤ y by omega); omega
    · omega

def zeros6 : Array Value := #[.int .i64 0, .int .i64 0, .int .i64 0, .int .i64 0, .int .i64 0, .int .i64 0]

theorem date_ret2 {fn : Func} {p : Tmp} (hres : fn.results = #[.cell p 23]) {a : Act} {w : World} {g : Nat} {v1 v2 v3 v4 v5 v6 : Value} {R : Ending → World → Prop} (hd : a.defers = [])
    (hp : a.tmps.getD p undef = .pointer (some ⟨g, 0, none⟩)) (hg : w.heap[g]? = some (.cells zeros6 23)) (h : R (.returned (.agg #[v1, v2, v3, v4, v5, v6])) (w.setRow g #[v1, v2, v3, v4, v5, v6])) :
    bodyPost Tryd.prog fn R .ret a (w.setRow g #[v1, v2, v3, v4, v5, v6]) :=
  bodyPost_ret (results_cell_row hres _ _ g _ _ _ _ hp (setRow_heap _ _ _ _ _ _ hg) Tryd.underlying23 rfl info_date) hd h
theorem below_own {w w2 : World} {o : Obj} (h : Below (w.heap.size + 1) (w.alloc o) w2) (cs : Array Value) : Below w.heap.size w (w2.setRow w.heap.size cs) :=
  below_setRow ((alloc_below w o).trans (h.mono (Nat.le_succ _))) (Nat.le_refl _) cs

theorem refdate_lo (s : Int) (w : World) (h : s < -1099511627776) :
    Calls Tryd.prog 16 #[.int .i64 s] w fun e w' => e = .returned (dateV 0 0 0 0 0 0) ∧ Below w.heap.size w w' := by
  go_enter Tryd.func16, Tryd.ntmps16
  go_wp2_with fail
  exact date_ret rfl rfl rfl ⟨rfl, alloc_below _ _⟩
theorem refdate_hi (s : Int) (w : World) (h : 1099511627776 < s) :
    Calls Tryd.prog 16 #[.int .i64 s] w fun e w' => e = .returned (dateV 0 0 0 0 0 0) ∧ Below w.heap.size w w' := by
  go_enter Tryd.func16, Tryd.ntmps16
  go_wp2_with fail
  exact date_ret rfl rfl rfl ⟨rfl, alloc_below _ _⟩

/-- Where the year's search begins. -/
theorem search_from (n : Int) : (0 ≤ n → d2 (1970 + n / 366) ≤ n) ∧ (n < 0 → d2 (1970 + n / 365) ≤ n) := by
  unfold d2 Clk.ahead
  omega

theorem date_facts (s : Int) (h0 : -1099511627776 ≤ s) (h1 : s ≤ 1099511627776) :
    ∃ n r Y M D : Int, yy (dayN s) = Y ∧ mm (dayN s) = M ∧ dd (dayN s) = D ∧ restN s = r ∧ n = s / 86400 ∧ s - n * 86400 = r ∧ 0 ≤ r ∧ r < 86400 ∧ -13000000 ≤ n ∧ n ≤ 13000000 ∧ -100000 ≤ Y ∧ Y ≤ 100000 ∧ Valid Y M D ∧ d2 Y ≤ n ∧ n < d2 (Y + 1) ∧ n - d2 Y = cum Y M + (D - 1) := by
  have hok := date_ok (dayN s)
  have hn : dayN s - 37389815 = s / 86400 := by unfold dayN; omega
  have hr : restN s = s % 86400 := by unfold restN; omega
  rw [hn] at hok
  obtain ⟨hv, hd⟩ := hok
  have hyr := year_of hv
  rw [hd] at hyr
  refine ⟨s / 86400, s % 86400, yy (dayN s), mm (dayN s), dd (dayN s), rfl, rfl, rfl, hr, rfl, by omega, by omega, by omega, by omega, by omega, ?_, ?_, hv, hyr.1, hyr.2, ?_⟩
  · have h2 := hyr.2
    unfold d2 Clk.ahead at h2
    omega
  · have h2 := hyr.1
    unfold d2 Clk.ahead at h2
    omega
  · unfold days at hd
    omega
theorem start_ok (n k : Int) (h : (k = n / 366 ∧ 0 ≤ n) ∨ (k = n / 365 ∧ n < 0)) : d2 (1970 + k) ≤ n := by
  rcases h with ⟨rfl, h⟩ | ⟨rfl, h⟩
  · exact (search_from n).1 h
  · exact (search_from n).2 h

set_option maxRecDepth 100000 in
set_option maxHeartbeats 1000000 in
theorem refdate_in (s : Int) (w : World) (h0 : -1099511627776 ≤ s) (h1 : s ≤ 1099511627776) :
    Calls Tryd.prog 16 #[.int .i64 s] w fun e w' => e = .returned (dateOf s) ∧ Below w.heap.size w w' := by
  obtain ⟨n, r, Y, M, D, e1, e2, e3, e4, hn2, hs, hr3, hr4, hn3, hn4, hY1, hY2, hv, hd1, hd2, hd3⟩ := date_facts s h0 h1
  have HE : Hid (dateOf s = dateV Y M D (r / 3600) (r / 60 % 60) (r % 60)) := Lib.hid (by unfold dateOf; rw [e1, e2, e3, e4])
  rw [HE.out]
  have HV := Lib.hid hv
  have HD1 := Lib.hid hd1
  have HD2 := Lib.hid hd2
  have HD3 := Lib.hid hd3
  clear hv hd1 hd2 hd3 e1 e2 e3 e4 HE
  go_enter Tryd.func16, Tryd.ntmps16
  go_wp2_with fail
  refine (floor_any s 86400 _ (by omega) (by omega) (by omega)).mono ?_
  rintro e w' ⟨rfl, rfl⟩
  rw [← hn2]
  have hr5 : -1123200000000 ≤ n * 86400 := by omega
  have hr6 : n * 86400 ≤ 1123200000000 := by omega
  clear hn2
  have hk1 : -36000 ≤ n / 366 := by omega
  have hk2 : n / 366 ≤ 36000 := by omega
  have hk3 : -36000 ≤ n / 365 := by omega
  have hk4 : n / 365 ≤ 36000 := by omega
  go_wp2_with fail
  refine (floor_any n 366 _ (by omega) (by omega) (by omega)).mono ?_
  rintro e w' ⟨rfl, rfl⟩
  by_cases hneg : n < 0
  · go_wp2_with fail
    refine (floor_any n 365 _ (by omega) (by omega) (by omega)).mono ?_
    rintro e w' ⟨rfl, rfl⟩
    obtain ⟨k0, hk0⟩ : ∃ k, k = n / 365 := ⟨_, rfl⟩
    rw [← hk0] at hk3 hk4 ⊢
    have HX := Lib.hid (start_ok n k0 (.inr ⟨hk0, hneg⟩))
    clear hk0 hk1 hk2
    have hy0 : 1970 + k0 ≤ Y := by
      apply Int.le_of_not_gt
      intro h
      have a1 := d2_mono (show Y + 1 ≤ 1970 + k0 by omega)
      have a2 := HX.out
      have a3 := HD2.out
      omega
    go_wp2_with fail
    go_loop [5] (fun yv => ∃ y : Int, -40000 ≤ y ∧ y ≤ Y ∧ yv = .int .i64 y) (fun yv => (Y - intOf yv).toNat)
    case atStart => exact ⟨1970 + k0, by omega, hy0, rfl⟩
    case round =>
      clear hy0 HX hk3 hk4 hneg
      obtain ⟨y, hy1, hy2, rfl⟩ := hrel
      by_cases hlt : y < Y
      · have hle : d2 (y + 1) ≤ n := by
          have a1 := d2_mono (show y + 1 ≤ Y by omega)
          have a2 := HD1.out
          omega
        go_wp2_with fail
        refine (days2_any (y + 1) _ (by omega) (by omega)).mono ?_
        rintro e w' ⟨rfl, rfl⟩
        generalize d2 (y + 1) = Z at *
        go_wp2_with fail
        go_round
        case rel => exact ⟨y + 1, by omega, by omega, by go_num⟩
        case measure => simp [intOf]; omega
      · obtain rfl : y = Y := by omega
        have hgt := HD2.out
        go_wp2_with fail
        refine (days2_any (y + 1) _ (by omega) (by omega)).mono ?_
        rintro e w' ⟨rfl, rfl⟩
        generalize d2 (y + 1) = Z at hgt ⊢
        go_wp2_with fail
        clear hgt
        go_loop [5] (fun yv => yv = .int .i64 y) (fun _ => 0)
        case atStart => exact rfl
        case round =>
          obtain rfl := hrel
          have hle := HD1.out
          have hlo : -20000000 ≤ d2 y := by unfold d2 Clk.ahead; omega
          have hx1 : 0 ≤ cum y M + (D - 1) ∧ cum y M + (D - 1) ≤ 400 := by
            have a1 := HV.out
            have a2 := cum_mono y (m := 1) (n := M) (by omega) a1.1 (by omega)
            have a3 := cum_mono y (m := M) (n := 13) (by omega) (by omega) (by omega)
            rw [cum_one] at a2
            rw [cum_13] at a3
            have a4 := lp_01 y
            have a5 := mlen_pos y M
            omega
          obtain ⟨hx1, hx2⟩ := hx1
          go_wp2_with fail
          refine (days2_any y _ (by omega) (by omega)).mono ?_
          rintro e w' ⟨rfl, rfl⟩
          go_wp2_with fail
          refine (days2_any y _ (by omega) (by omega)).mono ?_
          rintro e w' ⟨rfl, rfl⟩
          go_wp2_with fail
          obtain ⟨x0, hx0⟩ : ∃ x, x = n - d2 y := ⟨_, rfl⟩
          rw [← hx0]
          have HX0 : Hid (x0 = cum y M + (D - 1) - cum y 1) := Lib.hid (by rw [cum_one, hx0, HD3.out]; omega)
          have hx3 : 0 ≤ x0 ∧ x0 ≤ 400 := by rw [hx0, HD3.out]; omega
          clear hle hlo hx0 hx1 hx2
          obtain ⟨vM1, vM2, vD1, vD2⟩ := HV.out
          have hml := (mlen_pos y M).2
          have hD31 : D ≤ 31 := by omega
          clear hml vD2
          go_loopw [3, 6] (fun dv mv wr => ∃ k x : Int, 1 ≤ k ∧ k ≤ M ∧ mv = .int .i64 k ∧ dv = .int .i64 x ∧ 0 ≤ x ∧ x ≤ 400 ∧ Hid (x = cum y M + (D - 1) - cum y k) ∧ Hid (Below (w.heap.size + 1) (w.alloc (.cells zeros6 23)) wr)) (fun _ mv _ => (M - intOf mv).toNat)
          case atStart => exact ⟨1, x0, by omega, by omega, rfl, rfl, hx3.1, hx3.2, HX0, Lib.hid (Below.refl _ _)⟩
          case round =>
            clear HX0 hx3
            obtain ⟨k, x, hk1, hk2, rfl, rfl, hx1, hx2, HX, HB⟩ := hrel
            have hp := mlen_pos y k
            obtain ⟨hp1, hp2⟩ := hp
            by_cases hlt : k < M
            · have HN := cum_next y k hk1 (by omega)
              have hm1 := cum_mono y (m := k + 1) (n := M) (by omega) (by omega) (by omega)
              have hge : mlen y k ≤ x := by have := HX.out; omega
              have HX1 : Hid (x - mlen y k = cum y M + (D - 1) - cum y (k + 1)) := Lib.hid (by have := HX.out; omega)
              clear HN hm1
              go_wp2_with fail
              refine (month_any y k _ hk1 (by omega)).mono ?_
              rintro e w2 ⟨rfl, hb2⟩
              have HB2 : Hid (Below (w.heap.size + 1) (w.alloc (.cells zeros6 23)) w2) := Lib.hid (HB.out.trans (hb2.mono (by have := HB.out.size; simp at this; omega)))
              clear hb2
              go_wp2_with fail
              refine (month_any y k _ hk1 (by omega)).mono ?_
              rintro e w3 ⟨rfl, hb3⟩
              have HB3 : Hid (Below (w.heap.size + 1) (w.alloc (.cells zeros6 23)) w3) := Lib.hid (HB2.out.trans (hb3.mono (by have := HB2.out.size; simp at this; omega)))
              clear hb3
              go_wp2_with fail
              go_roundw
              case rel => exact ⟨k + 1, x - mlen y k, by omega, by omega, by go_num, by go_num, by omega, by omega, HX1, HB3⟩
              case measure => simp [intOf]; omega
            · obtain rfl : k = M := by omega
              have hx : x = D - 1 := by have := HX.out; omega
              have hlt2 : x < mlen y k := by have := HV.out.2.2.2; omega
              subst hx
              go_wp2_with fail
              refine (month_any y k _ hk1 (by omega)).mono ?_
              rintro e w2 ⟨rfl, hb2⟩
              have HB2 : Hid (Below (w.heap.size + 1) (w.alloc (.cells zeros6 23)) w2) := Lib.hid (HB.out.trans (hb2.mono (by have := HB.out.size; simp at this; omega)))
              clear hb2
              have HC : Hid (w2.heap[w.heap.size]? = some (.cells zeros6 23)) := Lib.hid (by rw [HB2.out.block w.heap.size (by omega)]; exact heap_alloc_new _ _)
              go_wp2_with (refine wpList_store_row rfl _ _ _ rfl w.heap.size _ rfl rfl 23 zeros6 HC.out info_date rfl (by kernel_rfl) ?_)
              exact date_ret2 rfl rfl rfl HC.out ⟨date_eq rfl rfl rfl rfl rfl rfl, below_own HB2.out _⟩
  · obtain ⟨k0, hk0⟩ : ∃ k, k = n / 366 := ⟨_, rfl⟩
    rw [← hk0] at hk1 hk2 ⊢
    have HX := Lib.hid (start_ok n k0 (.inl ⟨hk0, by omega⟩))
    clear hk0 hk3 hk4
    have hy0 : 1970 + k0 ≤ Y := by
      apply Int.le_of_not_gt
      intro h
      have a1 := d2_mono (show Y + 1 ≤ 1970 + k0 by omega)
      have a2 := HX.out
      have a3 := HD2.out
      omega
    go_wp2_with fail
    go_loop [5] (fun yv => ∃ y : Int, -40000 ≤ y ∧ y ≤ Y ∧ yv = .int .i64 y) (fun yv => (Y - intOf yv).toNat)
    case atStart => exact ⟨1970 + k0, by omega, hy0, rfl⟩
    case round =>
      clear hy0 HX hk1 hk2 hneg
      obtain ⟨y, hy1, hy2, rfl⟩ := hrel
      by_cases hlt : y < Y
      · have hle : d2 (y + 1) ≤ n := by
          have a1 := d2_mono (show y + 1 ≤ Y by omega)
          have a2 := HD1.out
          omega
        go_wp2_with fail
        refine (days2_any (y + 1) _ (by omega) (by omega)).mono ?_
        rintro e w' ⟨rfl, rfl⟩
        generalize d2 (y + 1) = Z at *
        go_wp2_with fail
        go_round
        case rel => exact ⟨y + 1, by omega, by omega, by go_num⟩
        case measure => simp [intOf]; omega
      · obtain rfl : y = Y := by omega
        have hgt := HD2.out
        go_wp2_with fail
        refine (days2_any (y + 1) _ (by omega) (by omega)).mono ?_
        rintro e w' ⟨rfl, rfl⟩
        generalize d2 (y + 1) = Z at hgt ⊢
        go_wp2_with fail
        clear hgt
        go_loop [5] (fun yv => yv = .int .i64 y) (fun _ => 0)
        case atStart => exact rfl
        case round =>
          obtain rfl := hrel
          have hle := HD1.out
          have hlo : -20000000 ≤ d2 y := by unfold d2 Clk.ahead; omega
          have hx1 : 0 ≤ cum y M + (D - 1) ∧ cum y M + (D - 1) ≤ 400 := by
            have a1 := HV.out
            have a2 := cum_mono y (m := 1) (n := M) (by omega) a1.1 (by omega)
            have a3 := cum_mono y (m := M) (n := 13) (by omega) (by omega) (by omega)
            rw [cum_one] at a2
            rw [cum_13] at a3
            have a4 := lp_01 y
            have a5 := mlen_pos y M
            omega
          obtain ⟨hx1, hx2⟩ := hx1
          go_wp2_with fail
          refine (days2_any y _ (by omega) (by omega)).mono ?_
          rintro e w' ⟨rfl, rfl⟩
          go_wp2_with fail
          refine (days2_any y _ (by omega) (by omega)).mono ?_
          rintro e w' ⟨rfl, rfl⟩
          go_wp2_with fail
          obtain ⟨x0, hx0⟩ : ∃ x, x = n - d2 y := ⟨_, rfl⟩
          rw [← hx0]
          have HX0 : Hid (x0 = cum y M + (D - 1) - cum y 1) := Lib.hid (by rw [cum_one, hx0, HD3.out]; omega)
          have hx3 : 0 ≤ x0 ∧ x0 ≤ 400 := by rw [hx0, HD3.out]; omega
          clear hle hlo hx0 hx1 hx2
          obtain ⟨vM1, vM2, vD1, vD2⟩ := HV.out
          have hml := (mlen_pos y M).2
          have hD31 : D ≤ 31 := by omega
          clear hml vD2
          go_loopw [3, 6] (fun dv mv wr => ∃ k x : Int, 1 ≤ k ∧ k ≤ M ∧ mv = .int .i64 k ∧ dv = .int .i64 x ∧ 0 ≤ x ∧ x ≤ 400 ∧ Hid (x = cum y M + (D - 1) - cum y k) ∧ Hid (Below (w.heap.size + 1) (w.alloc (.cells zeros6 23)) wr)) (fun _ mv _ => (M - intOf mv).toNat)
          case atStart => exact ⟨1, x0, by omega, by omega, rfl, rfl, hx3.1, hx3.2, HX0, Lib.hid (Below.refl _ _)⟩
          case round =>
            clear HX0 hx3
            obtain ⟨k, x, hk1, hk2, rfl, rfl, hx1, hx2, HX, HB⟩ := hrel
            have hp := mlen_pos y k
            obtain ⟨hp1, hp2⟩ := hp
            by_cases hlt : k < M
            · have HN := cum_next y k hk1 (by omega)
              have hm1 := cum_mono y (m := k + 1) (n := M) (by omega) (by omega) (by omega)
              have hge : mlen y k ≤ x := by have := HX.out; omega
              have HX1 : Hid (x - mlen y k = cum y M + (D - 1) - cum y (k + 1)) := Lib.hid (by have := HX.out; omega)
              clear HN hm1
              go_wp2_with fail
              refine (month_any y k _ hk1 (by omega)).mono ?_
              rintro e w2 ⟨rfl, hb2⟩
              have HB2 : Hid (Below (w.heap.size + 1) (w.alloc (.cells zeros6 23)) w2) := Lib.hid (HB.out.trans (hb2.mono (by have := HB.out.size; simp at this; omega)))
              clear hb2
              go_wp2_with fail
              refine (month_any y k _ hk1 (by omega)).mono ?_
              rintro e w3 ⟨rfl, hb3⟩
              have HB3 : Hid (Below (w.heap.size + 1) (w.alloc (.cells zeros6 23)) w3) := Lib.hid (HB2.out.trans (hb3.mono (by have := HB2.out.size; simp at this; omega)))
              clear hb3
              go_wp2_with fail
              go_roundw
              case rel => exact ⟨k + 1, x - mlen y k, by omega, by omega, by go_num, by go_num, by omega, by omega, HX1, HB3⟩
              case measure => simp [intOf]; omega
            · obtain rfl : k = M := by omega
              have hx : x = D - 1 := by have := HX.out; omega
              have hlt2 : x < mlen y k := by have := HV.out.2.2.2; omega
              subst hx
              go_wp2_with fail
              refine (month_any y k _ hk1 (by omega)).mono ?_
              rintro e w2 ⟨rfl, hb2⟩
              have HB2 : Hid (Below (w.heap.size + 1) (w.alloc (.cells zeros6 23)) w2) := Lib.hid (HB.out.trans (hb2.mono (by have := HB.out.size; simp at this; omega)))
              clear hb2
              have HC : Hid (w2.heap[w.heap.size]? = some (.cells zeros6 23)) := Lib.hid (by rw [HB2.out.block w.heap.size (by omega)]; exact heap_alloc_new _ _)
              go_wp2_with (refine wpList_store_row rfl _ _ _ rfl w.heap.size _ rfl rfl 23 zeros6 HC.out info_date rfl (by kernel_rfl) ?_)
              exact date_ret2 rfl rfl rfl HC.out ⟨date_eq rfl rfl rfl rfl rfl rfl, below_own HB2.out _⟩

theorem refdate_any (s : Int) (w : World) :
    Calls Tryd.prog 16 #[.int .i64 s] w fun e w' => e = .returned (dateF s) ∧ Below w.heap.size w w' := by
  unfold dateF
  by_cases h1 : s < -1099511627776
  · rw [if_pos (.inl h1)]; exact refdate_lo s w h1
  by_cases h2 : 1099511627776 < s
  · rw [if_pos (.inr h2)]; exact refdate_hi s w h2
  rw [if_neg (by omega)]; exact refdate_in s w (by omega) (by omega)
end Go.Proofs.YtehlgnjbmdaakaaDoor.ClkC
