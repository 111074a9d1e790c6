import Derived.Test.YtehlgnjbmdaakaaDoorRows
import Derived.Test.YtehlgnjbmdaakaaDoorLib
import Derived.Test.YtehlgnjbmdaakaaDoorClk
namespace Go.Proofs.YtehlgnjbmdaakaaDoor.ClkC
open Go.RowKit Go.My Clk

theorem before_any (m : Int) (w : World) (h0 : 0 ≤ m) (h1 : m ≤ 20) :
    Calls Tryd.prog 33 #[.int .i64 m] w fun e w' => e = .returned (.int .i64 (bm m)) ∧ w = w' := by
  go_enter Tryd.func33, Tryd.ntmps33
  go_wp2
  go_ret
  exact ⟨ret_int (by unfold bm; omega), rfl⟩

theorem days_in (y m d : Int) (w : World) (hy : -100000 ≤ y) (hy2 : y ≤ 100000) (hm : 1 ≤ m) (hm2 : m ≤ 12) (hd : 1 ≤ d) (hd2 : d ≤ 31) :
    Calls Tryd.prog 13 #[.int .i64 y, .int .i64 m, .int .i64 d] w fun e w' => e = .returned (.int .i64 (days y m d)) ∧ w = w' := by
  by_cases h3 : m < 3
  · have H := Lib.hid (days_lo y m d hm h3)
    have hb : 0 ≤ bm (m + 12 - 3) ∧ bm (m + 12 - 3) ≤ 1000 := by unfold bm; omega
    go_enter Tryd.func13, Tryd.ntmps13
    go_wp2_with fail
    refine (before_any _ w (by omega) (by omega)).mono ?_
    rintro e w' ⟨rfl, rfl⟩
    go_wp2_with fail
    go_ret
    exact ⟨ret_int (by rw [← H.out]), rfl⟩
  · have H := Lib.hid (days_hi y m d (by omega) hm2)
    have hb : 0 ≤ bm (m - 3) ∧ bm (m - 3) ≤ 1000 := by unfold bm; omega
    go_enter Tryd.func13, Tryd.ntmps13
    go_wp2_with fail
    refine (before_any _ w (by omega) (by omega)).mono ?_
    rintro e w' ⟨rfl, rfl⟩
    go_wp2_with fail
    go_ret
    exact ⟨ret_int (by rw [← H.out]), rfl⟩
def daysF (y m d : Int) : Int := if y < -100000 ∨ 100000 < y ∨ m < 1 ∨ 12 < m ∨ d < 1 ∨ 31 < d then 0 else days y m d
theorem days_out (y m d : Int) (w : World) (h : y < -100000 ∨ 100000 < y ∨ m < 1 ∨ 12 < m ∨ d < 1 ∨ 31 < d) :
    Calls Tryd.prog 13 #[.int .i64 y, .int .i64 m, .int .i64 d] w fun e w' => e = .returned (.int .i64 0) ∧ w = w' := by
  by_cases h1 : y < -100000
  · go_enter Tryd.func13, Tryd.ntmps13
    go_wp2_with fail
    go_ret
    exact ⟨rfl, rfl⟩
  by_cases h2 : 100000 < y
  · go_enter Tryd.func13, Tryd.ntmps13
    go_wp2_with fail
    go_ret
    exact ⟨rfl, rfl⟩
  by_cases h3 : m < 1
  · go_enter Tryd.func13, Tryd.ntmps13
    go_wp2_with fail
    go_ret
    exact ⟨rfl, rfl⟩
  by_cases h4 : 12 < m
  · go_enter Tryd.func13, Tryd.ntmps13
    go_wp2_with fail
    go_ret
    exact ⟨rfl, rfl⟩
  by_cases h5 : d < 1
  · go_enter Tryd.func13, Tryd.ntmps13
    go_wp2_with fail
    go_ret
    exact ⟨rfl, rfl⟩
  have h6 : 31 < d := by omega
  go_enter Tryd.func13, Tryd.ntmps13
  go_wp2_with fail
  go_ret
  exact ⟨rfl, rfl⟩
theorem days_any (y m d : Int) (w : World) :
    Calls Tryd.prog 13 #[.int .i64 y, .int .i64 m, .int .i64 d] w fun e w' => e = .returned (.int .i64 (daysF y m d)) ∧ w = w' := by
  unfold daysF
  by_cases h : y < -100000 ∨ 100000 < y ∨ m < 1 ∨ 12 < m ∨ d < 1 ∨ 31 < d
  · rw [if_pos h]; exact days_out y m d w h
  · rw [if_neg h]; exact days_in y m d w (by omega) (by omega) (by omega) (by omega) (by omega) (by omega)

/-- A date as the program holds it. -/
def dateV (y m d h mi s : Int) : Value := .agg #[.int .i64 y, .int .i64 m, .int .i64 d, .int .i64 h, .int .i64 mi, .int .i64 s]
def dayN (s : Int) : Int := (s + 3230480016000) / 86400
def restN (s : Int) : Int := (s + 3230480016000) % 86400
def dateOf (s : Int) : Value := dateV (yy (dayN s)) (mm (dayN s)) (dd (dayN s)) (restN s / 3600) (restN s / 60 % 60) (restN s % 60)
def dateF (s : Int) : Value := if s < -1099511627776 ∨ 1099511627776 < s then dateV 0 0 0 0 0 0 else dateOf s

theorem info_date : (Tryd.prog.info? 23).map (·.size) = some 6 := by kernel_rfl
theorem date_ret {fn : Func} {p : Tmp} (hres : fn.results = #[.cell p 23]) {a : Act} {w : World} {v1 v2 v3 v4 v5 v6 : Value} {R : Ending → World → Prop} (hd : a.defers = [])
    (hp : a.tmps.getD p undef = .pointer (some ⟨w.heap.size, 0, none⟩)) (h : R (.returned (.agg #[v1, v2, v3, v4, v5, v6])) (w.alloc (.cells #[v1, v2, v3, v4, v5, v6] 23))) :
    bodyPost Tryd.prog fn R .ret a (w.alloc (.cells #[v1, v2, v3, v4, v5, v6] 23)) :=
  bodyPost_ret (results_cell_row hres _ _ w.heap.size _ _ _ _ hp (heap_alloc_new _ _) Tryd.underlying23 rfl info_date) hd h
theorem alloc_below (w : World) (o : Obj) : Below w.heap.size w (w.alloc o) := (Below.refl _ w).alloc (Nat.le_refl _) o

theorem date_lo (s : Int) (w : World) (h : s < -1099511627776) :
    Calls Tryd.prog 15 #[.int .i64 s] w fun e w' => e = .returned (dateV 0 0 0 0 0 0) ∧ Below w.heap.size w w' := by
  go_enter Tryd.func15, Tryd.ntmps15
  go_wp2_with fail
  exact date_ret rfl rfl rfl ⟨rfl, alloc_below _ _⟩
theorem date_hi (s : Int) (w : World) (h : 1099511627776 < s) :
    Calls Tryd.prog 15 #[.int .i64 s] w fun e w' => e = .returned (dateV 0 0 0 0 0 0) ∧ Below w.heap.size w w' := by
  go_enter Tryd.func15, Tryd.ntmps15
  go_wp2_with fail
  exact date_ret rfl rfl rfl ⟨rfl, alloc_below _ _⟩
theorem date_eq {y m d h mi s y' m' d' h' mi' s' : Int} (h1 : y = y') (h2 : m = m') (h3 : d = d') (h4 : h = h') (h5 : mi = mi') (h6 : s = s') :
    Ending.returned (.agg #[.int .i64 y, .int .i64 m, .int .i64 d, .int .i64 h, .int .i64 mi, .int .i64 s]) = .returned (dateV y' m' d' h' mi' s') := by
  rw [h1, h2, h3, h4, h5, h6]; rfl
set_option maxRecDepth 100000 in
theorem date_in (s : Int) (w : World) (h0 : -1099511627776 ≤ s) (h1 : s ≤ 1099511627776) :
    Calls Tryd.prog 15 #[.int .i64 s] w fun e w' => e = .returned (dateOf s) ∧ Below w.heap.size w w' := by
  have hy := yoe_ok (dayN s % 146097) (by omega) (by omega)
  have hl := lp_01 (yoe (dayN s % 146097) + 1)
  have hq := mp_ok _ _ hl hy.2.2.1 hy.2.2.2
  have hv : doy (dayN s % 146097) ≤ 365 := by omega
  obtain ⟨hy1, hy2, hy3, _⟩ := hy
  obtain ⟨hq1, hq2, hq3⟩ := hq
  clear hl
  have hb1 : 0 ≤ bm (mp (dayN s % 146097)) := by unfold bm; unfold mp; omega
  have hb2 : bm (mp (dayN s % 146097)) ≤ 1000 := by unfold bm; unfold mp; omega
  have HY : Hid (yy (dayN s) = yoe (dayN s % 146097) + (dayN s / 146097 * 400 - 100400) + (if 12 < mp (dayN s % 146097) + 3 then 1 else 0)) := Lib.hid (by unfold yy; omega)
  have HM : Hid (mm (dayN s) = (if 12 < mp (dayN s % 146097) + 3 then mp (dayN s % 146097) + 3 - 12 else mp (dayN s % 146097) + 3)) := Lib.hid rfl
  have HD : Hid (dd (dayN s) = doy (dayN s % 146097) - bm (mp (dayN s % 146097)) + 1) := Lib.hid rfl
  unfold dateOf
  unfold mp at hb1 hb2 HM HD HY
  generalize hR0 : restN s = R at *
  have HR := Lib.hid hR0
  clear hR0
  unfold restN at HR
  generalize yy (dayN s) = Y at *
  generalize mm (dayN s) = M at *
  generalize dd (dayN s) = D at *
  obtain ⟨V, hV⟩ : ∃ V, V = doy (dayN s % 146097) := ⟨_, rfl⟩
  obtain ⟨Yo, hYo⟩ : ∃ V, V = yoe (dayN s % 146097) := ⟨_, rfl⟩
  have HV : Hid (doy (dayN s % 146097) = V) := Lib.hid hV.symm
  have HYo : Hid (yoe (dayN s % 146097) = Yo) := Lib.hid hYo.symm
  have hv' := hv
  have hy1' := hy1
  have hy2' := hy2
  have hy3' := hy3
  have hq1' := hq1
  have hq2' := hq2
  have hb1' := hb1
  have hb2' := hb2
  rw [HV.out] at hv' hy3' hq1' hq2' hb1' hb2'
  rw [HYo.out] at hy1' hy2'
  rw [HV.out, HYo.out] at HY
  rw [HV.out] at HM HD
  unfold doy at hv hy3 hq1 hq2 hq3 hb1 hb2 HV
  unfold yoe dayN at hv hy1 hy2 hy3 hq1 hq2 hq3 hb1 hb2 HV HYo
  unfold dayN at HY
  go_enter Tryd.func15, Tryd.ntmps15
  go_wp2_with fail
  refine (before_any _ _ (by omega) (by omega)).mono ?_
  rintro e w' ⟨rfl, rfl⟩
  rw [HV.out, HYo.out]
  clear hv hy1 hy2 hy3 hq1 hq2 hq3 hb1 hb2 HV HYo hV hYo
  generalize (V * 5 + 2) / 153 = q at *
  have he1 : 0 ≤ (s + 3230480016000) / 86400 / 146097 := by omega
  have he2 : (s + 3230480016000) / 86400 / 146097 ≤ 1000 := by omega
  generalize (s + 3230480016000) / 86400 / 146097 = E at *
  have hr1 : 0 ≤ (s + 3230480016000) % 86400 := by omega
  have hr2 : (s + 3230480016000) % 86400 < 86400 := by omega
  rw [HR.out] at hr1 hr2 ⊢
  by_cases hm : 12 < q + 3
  · rw [if_pos hm] at HY HM
    go_wp2_with fail
    exact date_ret rfl rfl rfl ⟨date_eq (by rw [HY.out]; first | done | omega) (by rw [HM.out]) (by rw [HD.out]) rfl rfl rfl, alloc_below _ _⟩
  · rw [if_neg hm] at HY HM
    go_wp2_with fail
    exact date_ret rfl rfl rfl ⟨date_eq (by rw [HY.out]; first | done | omega) (by rw [HM.out]) (by rw [HD.out]) rfl rfl rfl, alloc_below _ _⟩
theorem date_any (s : Int) (w : World) :
    Calls Tryd.prog 15 #[.int .i64 s] w fun e w' => e = .returned (dateF s) ∧ Below w.heap.size w w' := by
  unfold dateF
  by_cases h1 : s < -1099511627776
  · rw [if_pos (.inl h1)]; exact date_lo s w h1
  by_cases h2 : 1099511627776 < s
  · rw [if_pos (.inr h2)]; exact date_hi s w h2
  rw [if_neg (by omega)]; exact date_in s w (by omega) (by omega)
end Go.Proofs.YtehlgnjbmdaakaaDoor.ClkC
