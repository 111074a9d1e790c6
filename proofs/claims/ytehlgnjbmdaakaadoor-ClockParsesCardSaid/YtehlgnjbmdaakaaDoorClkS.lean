import Derived.Test.YtehlgnjbmdaakaaDoorClkE
import Derived.Test.YtehlgnjbmdaakaaDoorLater
import Derived.Laws.StructEq
namespace Go.Proofs.YtehlgnjbmdaakaaDoor.ClkC
open Go.RowKit Go.My Clk

def Box6 (b : Nat) (v1 v2 v3 v4 v5 v6 : Int) (w' : World) : Prop :=
  w'.cell? ⟨b, 0, none⟩ = some (.int .i64 v1) ∧ w'.cell? ⟨b, 1, none⟩ = some (.int .i64 v2) ∧ w'.cell? ⟨b, 2, none⟩ = some (.int .i64 v3) ∧
  w'.cell? ⟨b, 3, none⟩ = some (.int .i64 v4) ∧ w'.cell? ⟨b, 4, none⟩ = some (.int .i64 v5) ∧ w'.cell? ⟨b, 5, none⟩ = some (.int .i64 v6)
theorem box6 {w w' : World} {v1 v2 v3 v4 v5 v6 : Int} (h : Below (w.heap.size + 1) (w.alloc (.cells #[.int .i64 v1, .int .i64 v2, .int .i64 v3, .int .i64 v4, .int .i64 v5, .int .i64 v6] 23)) w') :
    Box6 w.heap.size v1 v2 v3 v4 v5 v6 w' := by
  have hc : ∀ i, w'.cell? ⟨w.heap.size, i, none⟩ = (w.alloc (.cells #[.int .i64 v1, .int .i64 v2, .int .i64 v3, .int .i64 v4, .int .i64 v5, .int .i64 v6] 23)).cell? ⟨w.heap.size, i, none⟩ := fun i => h.cell (p := ⟨w.heap.size, i, none⟩) (Nat.lt_succ_self _)
  have hn := heap_alloc_new w (.cells #[.int .i64 v1, .int .i64 v2, .int .i64 v3, .int .i64 v4, .int .i64 v5, .int .i64 v6] 23)
  refine ⟨?_, ?_, ?_, ?_, ?_, ?_⟩ <;> (rw [hc, cell_of_row _ _ _ _ _ _ hn]; rfl)

theorem dateV_inj {a1 a2 a3 a4 a5 a6 b1 b2 b3 b4 b5 b6 : Int} (h : dateV a1 a2 a3 a4 a5 a6 = dateV b1 b2 b3 b4 b5 b6) : a1 = b1 ∧ a2 = b2 ∧ a3 = b3 ∧ a4 = b4 ∧ a5 = b5 ∧ a6 = b6 := by
  unfold dateV at h
  injection h with h
  have := congrArg Array.toList h
  simpa using this
theorem date_letters (x : Int) : ∃ y m d h mi s : Int, dateF x = dateV y m d h mi s ∧ ((-1099511627776 ≤ x ∧ x ≤ 1099511627776 ∧ Valid y m d ∧ days y m d = x / 86400 ∧ h = x % 86400 / 3600 ∧ mi = x % 86400 / 60 % 60 ∧ s = x % 86400 % 60 ∧ -100000 ≤ y ∧ y ≤ 100000) ∨ (y = 0 ∧ (x < -1099511627776 ∨ 1099511627776 < x))) := by
  unfold dateF
  by_cases h : x < -1099511627776 ∨ 1099511627776 < x
  · rw [if_pos h]; exact ⟨0, 0, 0, 0, 0, 0, rfl, .inr ⟨rfl, h⟩⟩
  · rw [if_neg h]
    obtain ⟨n, r, Y, M, D, e1, e2, e3, e4, hn2, hs, hr3, hr4, hn3, hn4, hY1, hY2, hv, hd1, hd2, hd3⟩ := date_facts x (by omega) (by omega)
    refine ⟨Y, M, D, r / 3600, r / 60 % 60, r % 60, by unfold dateOf; rw [e1, e2, e3, e4], .inl ⟨by omega, by omega, hv, by unfold days; omega, by rw [show x % 86400 = r by omega], by rw [show x % 86400 = r by omega], by rw [show x % 86400 = r by omega], hY1, hY2⟩⟩
abbrev ValidT (y m d h mi s : Int) : Prop := 1 ≤ y ∧ y ≤ 9999 ∧ Valid y m d ∧ 0 ≤ h ∧ h ≤ 23 ∧ 0 ≤ mi ∧ mi ≤ 59 ∧ 0 ≤ s ∧ s ≤ 59
def secV (y m d h mi s : Int) : Int := if ValidT y m d h mi s then days y m d * 86400 + h * 3600 + mi * 60 + s else 0
def secB (y m d h mi s : Int) : Bool := decide (ValidT y m d h mi s)

theorem days_small {y m d : Int} (hy : 1 ≤ y) (hy2 : y ≤ 9999) (hv : Valid y m d) : -800000 ≤ days y m d ∧ days y m d ≤ 3000000 := by
  have h := year_of hv
  have a1 := d2_mono (show 1 ≤ y by omega)
  have a2 := d2_mono (show y + 1 ≤ 10000 by omega)
  have e1 : d2 1 = -719162 := by decide
  have e2 : d2 10000 = 2932897 := by decide
  omega
/-- A date that there is has a time, which has that date. -/
theorem valid_date {y m d h mi s : Int} (hv : ValidT y m d h mi s) : dateF (days y m d * 86400 + h * 3600 + mi * 60 + s) = dateV y m d h mi s := by
  obtain ⟨hy, hy2, hv, h1, h2, h3, h4, h5, h6⟩ := hv
  obtain ⟨b1, b2⟩ := days_small hy hy2 hv
  obtain ⟨y', m', d', h', mi', s', hF, hC⟩ := date_letters (days y m d * 86400 + h * 3600 + mi * 60 + s)
  rw [hF]
  rcases hC with ⟨_, _, hv', hd', e4, e5, e6, _, _⟩ | hC
  · have q : (days y m d * 86400 + h * 3600 + mi * 60 + s) / 86400 = days y m d := by omega
    have r : (days y m d * 86400 + h * 3600 + mi * 60 + s) % 86400 = h * 3600 + mi * 60 + s := by omega
    rw [q] at hd'
    rw [r] at e4 e5 e6
    obtain ⟨rfl, rfl, rfl⟩ := days_inj hv' hv hd'
    obtain rfl : h' = h := by omega
    obtain rfl : mi' = mi := by omega
    obtain rfl : s' = s := by omega
    rfl
  · omega
/-- Whatever has such a date is its time. -/
theorem date_valid {x y m d h mi s : Int} (hy : 1 ≤ y) (hy2 : y ≤ 9999) (hF : dateF x = dateV y m d h mi s) : ValidT y m d h mi s ∧ x = days y m d * 86400 + h * 3600 + mi * 60 + s := by
  obtain ⟨y', m', d', h', mi', s', hF', hC⟩ := date_letters x
  rw [hF'] at hF
  obtain ⟨e1, e2, e3, e4, e5, e6⟩ := dateV_inj hF
  subst e1 e2 e3 e4 e5 e6
  rcases hC with ⟨_, _, hv', hd', e4, e5, e6, _, _⟩ | hC
  · refine ⟨⟨hy, hy2, hv', by omega, by omega, by omega, by omega, by omega, by omega⟩, ?_⟩
    rw [hd', e4, e5, e6]
    omega
  · omega

abbrev agg6 (a1 a2 a3 a4 a5 a6 : Int) : Value := .agg #[.int .i64 a1, .int .i64 a2, .int .i64 a3, .int .i64 a4, .int .i64 a5, .int .i64 a6]
theorem eq6 (w : World) (a1 a2 a3 a4 a5 a6 b1 b2 b3 b4 b5 b6 : Int) :
    (Op.equalIn 10000 23 (agg6 a1 a2 a3 a4 a5 a6) (agg6 b1 b2 b3 b4 b5 b6)).run Tryd.prog w
      = .ok (decide (a1 = b1 ∧ a2 = b2 ∧ a3 = b3 ∧ a4 = b4 ∧ a5 = b5 ∧ a6 = b6)) w := by
  rw [run_equalIn_agg w 9999 23 _ _ (by kernel_rfl) (by kernel_rfl)]
  simp only [Program.fieldsOf, Tryd.underlying23, Op.eqFields]
  simp [part, Sem.run_bind, Tryd.isAgg3, run_equalIn_int w 9998 3 .i64 .i64 _ _ Tryd.underlying3, Result.andThen]
  by_cases h1 : a1 = b1 <;> simp [h1]
  by_cases h2 : a2 = b2 <;> simp [h2]
  by_cases h3 : a3 = b3 <;> simp [h3]
  by_cases h4 : a4 = b4 <;> simp [h4]
  by_cases h5 : a5 = b5 <;> simp [h5]
  by_cases h6 : a6 = b6 <;> simp [h6]
theorem neq_dates {a1 a2 a3 a4 a5 a6 b1 b2 b3 b4 b5 b6 : Int} {r : Bool} (h : decide (a1 = b1 ∧ a2 = b2 ∧ a3 = b3 ∧ a4 = b4 ∧ a5 = b5 ∧ a6 = b6) = r) (w : World) :
    (binOp .neq 23 (agg6 a1 a2 a3 a4 a5 a6) (agg6 b1 b2 b3 b4 b5 b6)).run Tryd.prog w = .ok (.bool (!r)) w := by
  rw [run_neq_struct, eq6, h]; rfl
theorem eql_dates {a1 a2 a3 a4 a5 a6 b1 b2 b3 b4 b5 b6 : Int} {r : Bool} (h : decide (a1 = b1 ∧ a2 = b2 ∧ a3 = b3 ∧ a4 = b4 ∧ a5 = b5 ∧ a6 = b6) = r) (w : World) :
    (binOp .eql 23 (agg6 a1 a2 a3 a4 a5 a6) (agg6 b1 b2 b3 b4 b5 b6)).run Tryd.prog w = .ok (.bool r) w := by
  rw [run_eql_struct, eq6, h]; rfl
theorem guard_dates : Tryd.prog.eqGuardType Tryd.prog.depth 23 = false := by kernel_rfl
theorem later_box {w W2 : World} {v1 v2 v3 v4 v5 v6 : Int} (h : Below (w.heap.size + 1) (w.alloc (.cells #[.int .i64 v1, .int .i64 v2, .int .i64 v3, .int .i64 v4, .int .i64 v5, .int .i64 v6] 23)) W2) (hs : w.heap.size + 1 ≤ W2.heap.size) (p : Later W2) :
    Box6 w.heap.size v1 v2 v3 v4 v5 v6 p.at' := box6 (h.trans (p.kept.mono hs))
theorem drewN_below {B : Nat} {a w : World} (h : Below B a w) (n : Nat) : Below B a (w.drewN n) := ⟨h.os, h.tape, h.output, h.size, h.block⟩

theorem date_as (x : Int) {y m d h mi s : Int} (hF : dateF x = dateV y m d h mi s) (w : World) :
    Calls Tryd.prog 15 #[.int .i64 x] w fun e w' => e = .returned (.agg #[.int .i64 y, .int .i64 m, .int .i64 d, .int .i64 h, .int .i64 mi, .int .i64 s]) ∧ Below w.heap.size w w' := by
  have := date_any x w
  rw [hF] at this
  exact this
theorem ret_yes {a b : Int} {c d : Bool} (h : a = b) (h2 : c = d) : Ending.returned (.tuple #[.int .i64 a, .bool c]) = .returned (.tuple #[.int .i64 b, .bool d]) := by rw [h, h2]

theorem days_any' (y m d : Int) (w : World) :
    Calls Tryd.prog 13 #[.int .i64 y, .int .i64 m, .int .i64 d] w fun e w' => e = .returned (.int .i64 (daysF y m d)) ∧ w' = w := (days_any y m d w).mono fun _ _ ⟨h, h2⟩ => ⟨h, h2.symm⟩
theorem seconds_year (y m d h mi s : Int) (w : World) (hy : y < 1 ∨ 9999 < y) :
    Calls Tryd.prog 10 #[dateV y m d h mi s] w fun e w' => e = .returned (.tuple #[.int .i64 0, .bool false]) ∧ Below w.heap.size w w' := by
  unfold dateV
  by_cases h1 : y < 1
  · go_enter Tryd.func10, Tryd.ntmps10
    go_wp2_with fail
    go_ret2
    exact ⟨rfl, alloc_below _ _⟩
  · have h2 : 9999 < y := by omega
    go_enter Tryd.func10, Tryd.ntmps10
    go_wp2_with fail
    go_ret2
    exact ⟨rfl, alloc_below _ _⟩

set_option maxRecDepth 100000 in
set_option maxHeartbeats 1000000 in
theorem seconds_in (y m d h mi s : Int) (w : World) (hy : 1 ≤ y) (hy2 : y ≤ 9999) :
    Calls Tryd.prog 10 #[dateV y m d h mi s] w fun e w' => e = .returned (.tuple #[.int .i64 (secV y m d h mi s), .bool (secB y m d h mi s)]) ∧ Below w.heap.size w w' := by
  have hVX : ValidT y m d h mi s → wrap64 (wrap64 (wrap64 (wrap64 (daysF y m d * 86400) + wrap64 (h * 3600)) + wrap64 (mi * 60)) + s) = days y m d * 86400 + h * 3600 + mi * 60 + s := by
    rintro ⟨_, _, hv, h1, h2, h3, h4, h5, h6⟩
    obtain ⟨b1, b2⟩ := days_small hy hy2 hv
    have hm := (mlen_pos y m).2
    have hdf : daysF y m d = days y m d := if_neg (by obtain ⟨v1, v2, v3, v4⟩ := hv; omega)
    rw [hdf]
    unfold wrap64
    omega
  have HVX := Lib.hid hVX
  clear hVX
  unfold dateV
  go_enter Tryd.func10, Tryd.ntmps10
  go_wp2_with fail
  have hbox := box6 (v1 := y) (v2 := m) (v3 := d) (v4 := h) (v5 := mi) (v6 := s) (Below.refl (w.heap.size + 1) (w.alloc (.cells #[.int .i64 y, .int .i64 m, .int .i64 d, .int .i64 h, .int .i64 mi, .int .i64 s] 23)))
  obtain ⟨b1, b2, b3, b4, b5, b6⟩ := hbox
  go_quiet (first | (go_at_call 13; refine Calls.quiet_of_same (days_any' _ _ _ _)))
  go_wp2_with fail
  generalize wrap64 (wrap64 (wrap64 (wrap64 (daysF y m d * 86400) + wrap64 (h * 3600)) + wrap64 (mi * 60)) + s) = X at *
  have hB : Below (w.heap.size + 1) (w.alloc (.cells #[.int .i64 y, .int .i64 m, .int .i64 d, .int .i64 h, .int .i64 mi, .int .i64 s] 23)) ((w.alloc (.cells #[.int .i64 y, .int .i64 m, .int .i64 d, .int .i64 h, .int .i64 mi, .int .i64 s] 23)).drewN nq) := drewN_below (Below.refl _ _) nq
  have hs : w.heap.size + 1 ≤ ((w.alloc (.cells #[.int .i64 y, .int .i64 m, .int .i64 d, .int .i64 h, .int .i64 mi, .int .i64 s] 23)).drewN nq).heap.size := by simp
  clear b1 b2 b3 b4 b5 b6
  generalize (w.alloc (.cells #[.int .i64 y, .int .i64 m, .int .i64 d, .int .i64 h, .int .i64 mi, .int .i64 s] 23)).drewN nq = W2 at *
  have c1 := fun p : Later W2 => (later_box hB hs p).1
  have c2 := fun p : Later W2 => (later_box hB hs p).2.1
  have c3 := fun p : Later W2 => (later_box hB hs p).2.2.1
  have c4 := fun p : Later W2 => (later_box hB hs p).2.2.2.1
  have c5 := fun p : Later W2 => (later_box hB hs p).2.2.2.2.1
  have c6 := fun p : Later W2 => (later_box hB hs p).2.2.2.2.2
  have HB := Lib.hid hB
  have HS := Lib.hid hs
  clear hB hs
  obtain ⟨y', m', d', h', mi', s', hF, hC⟩ := date_letters X
  have HC := Lib.hid hC
  have HF := Lib.hid hF
  clear hC hF
  have hg := guard_dates
  by_cases hE : y' = y ∧ m' = m ∧ d' = d ∧ h' = h ∧ mi' = mi ∧ s' = s
  · have hne := neq_dates (decide_eq_true hE)
    have HE := Lib.hid hE
    clear hE
    refine wp_region_later (by kernel_rfl) (by kernel_rfl) ?_
    repeat (go_big_quiet_step (first | (go_at_call 15; refine later_of (v := .agg #[.int .i64 y', .int .i64 m', .int .i64 d', .int .i64 h', .int .i64 mi', .int .i64 s']) (date_as X HF.out _))))
    refine wpQuiet_nil ?_
    intro _ hw'
    obtain ⟨p, hw''⟩ := hw'
    subst hw''
    have HP := Lib.hid ((alloc_below w _).trans ((HB.out.trans (p.kept.mono HS.out)).mono (Nat.le_succ _)))
    go_wp2_with fail
    go_ret2
    obtain ⟨rfl, rfl, rfl, rfl, rfl, rfl⟩ := HE.out
    obtain ⟨hv, hx⟩ := date_valid hy hy2 HF.out
    exact ⟨ret_yes (by rw [hx]; exact (if_pos hv).symm) (decide_eq_true hv).symm, HP.out⟩
  have hne := neq_dates (decide_eq_false hE)
  have HE := Lib.hid hE
  clear hE
  refine wp_region_later (by kernel_rfl) (by kernel_rfl) ?_
  repeat (go_big_quiet_step (first | (go_at_call 15; refine later_of (v := .agg #[.int .i64 y', .int .i64 m', .int .i64 d', .int .i64 h', .int .i64 mi', .int .i64 s']) (date_as X HF.out _))))
  refine wpQuiet_nil ?_
  intro _ hw'
  obtain ⟨p, hw''⟩ := hw'
  subst hw''
  have HP := Lib.hid ((alloc_below w _).trans ((HB.out.trans (p.kept.mono HS.out)).mono (Nat.le_succ _)))
  go_wp2_with fail
  go_ret2
  have hv : ¬ ValidT y m d h mi s := fun hv => HE.out (by
    have hF := HF.out
    rw [HVX.out hv, valid_date hv] at hF
    obtain ⟨e1, e2, e3, e4, e5, e6⟩ := dateV_inj hF
    exact ⟨e1.symm, e2.symm, e3.symm, e4.symm, e5.symm, e6.symm⟩)
  exact ⟨ret_yes (if_neg hv).symm (decide_eq_false hv).symm, HP.out⟩
theorem seconds_any (y m d h mi s : Int) (w : World) :
    Calls Tryd.prog 10 #[dateV y m d h mi s] w fun e w' => e = .returned (.tuple #[.int .i64 (secV y m d h mi s), .bool (secB y m d h mi s)]) ∧ Below w.heap.size w w' := by
  by_cases hy : y < 1 ∨ 9999 < y
  · have hv : ¬ ValidT y m d h mi s := fun hv => by obtain ⟨h1, h2, _⟩ := hv; omega
    rw [show secV y m d h mi s = 0 from if_neg hv, show secB y m d h mi s = false from decide_eq_false hv]
    exact seconds_year y m d h mi s w hy
  · exact seconds_in y m d h mi s w (by omega) (by omega)
end Go.Proofs.YtehlgnjbmdaakaaDoor.ClkC
