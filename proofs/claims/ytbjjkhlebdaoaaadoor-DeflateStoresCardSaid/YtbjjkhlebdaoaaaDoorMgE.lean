import Derived.Test.YtbjjkhlebdaoaaaDoorRows
import Derived.Test.YtbjjkhlebdaoaaaDoorMgA
import Derived.Test.YtbjjkhlebdaoaaaDoorMgFl
import Derived.Laws.Externs
import Derived.Lib.LaidTab
import Derived.Lib.SmallJoins

section
/-
  Package effort: efforts as numbers, levels.
-/
namespace Go.Proofs.YtbjjkhlebdaoaaaDoor.EfC
open Go.RowKit Go.My Flt

theorem f_eq (x y : Nat) : (FloatKind.f64.format.order x y == some .eq) = (!isNaN x && !isNaN y && decide (K x = K y)) := cmp_eq x y
theorem f_ne (x y : Nat) : (FloatKind.f64.format.order x y != some .eq) = !(!isNaN x && !isNaN y && decide (K x = K y)) := by rw [← f_eq]; rfl
theorem f_lt (x y : Nat) : (FloatKind.f64.format.order x y == some .lt) = (!isNaN x && !isNaN y && decide (K x < K y)) := cmp_lt x y
theorem f_gt (x y : Nat) : (FloatKind.f64.format.order x y == some .gt) = (!isNaN x && !isNaN y && decide (K y < K x)) := cmp_gt x y
theorem f_ge (x y : Nat) : (FloatKind.f64.format.order x y == some .gt || FloatKind.f64.format.order x y == some .eq) = (!isNaN x && !isNaN y && decide (K y ≤ K x)) := by
  rw [f_gt, f_eq]
  cases isNaN x <;> cases isNaN y <;> simp
  rw [Bool.eq_iff_iff]; simp; omega
theorem self_nan {t : Nat} (h : isNaN t = true) : (FloatKind.f64.format.order t t != some .eq) = true := by rw [f_ne, h]; rfl
theorem self_num {t : Nat} (h : isNaN t = false) : (FloatKind.f64.format.order t t != some .eq) = false := by rw [f_ne, h]; simp

theorem U_Q : (U : Int) = 512 * (Q : Int) := by unfold U; rw [Int.natCast_mul]; rfl
theorem K_whole (n : Int) (h : (512 * n).natAbs < 9007199254740992) : K (fl (512 * n)) = n * (U : Int) := by
  rw [K_fl _ h, U_Q, Int.mul_comm 512 n, Int.mul_assoc]
theorem k_1 : fl (512 * 1) = 4607182418800017408 := by decide +kernel
theorem k_6 : fl (512 * 6) = 4618441417868443648 := by decide +kernel
theorem k_9 : fl (512 * 9) = 4621256167635550208 := by decide +kernel
theorem K_1 : K 4607182418800017408 = (U : Int) := by rw [← k_1, K_whole _ (by decide)]; omega
theorem K_6 : K 4618441417868443648 = 6 * (U : Int) := by rw [← k_6, K_whole _ (by decide)]
theorem K_9 : K 4621256167635550208 = 9 * (U : Int) := by rw [← k_9, K_whole _ (by decide)]
theorem K_0 : K 0 = 0 := by have := K_fl 0 (by decide); rw [fl_zero] at this; omega
theorem n_1 : isNaN 4607182418800017408 = false := by decide
theorem n_6 : isNaN 4618441417868443648 = false := by decide
theorem n_9 : isNaN 4621256167635550208 = false := by decide
theorem n_0 : isNaN 0 = false := by decide

/-- An effort as a number: its word. -/
def num (x : Nat) : Nat := if isNaN x then 4618441417868443648 else x
theorem num_nan (x : Nat) : isNaN (num x) = false := by
  unfold num
  cases h : isNaN x
  · simpa using h
  · exact n_6
theorem num_of {x : Nat} (h : isNaN x = false) : num x = x := by unfold num; rw [h]; rfl
theorem num_six {x : Nat} (h : isNaN x = true) : num x = 4618441417868443648 := by unfold num; rw [h]; rfl

/-- The level. -/
noncomputable def lv (x : Nat) : Nat := if K (num x) < (U : Int) then 0 else if 9 * (U : Int) ≤ K (num x) then 9 else (K (num x) / (U : Int)).toNat
theorem lv_lo {x : Nat} (h : K (num x) < (U : Int)) : lv x = 0 := by unfold lv; rw [if_pos h]
theorem lv_hi {x : Nat} (h : 9 * (U : Int) ≤ K (num x)) : lv x = 9 := by
  have := U_pos
  unfold lv; rw [if_neg (by omega), if_pos h]
theorem lv_mid {x : Nat} (h1 : (U : Int) ≤ K (num x)) (h2 : K (num x) < 9 * (U : Int)) : (lv x : Int) = K (num x) / (U : Int) ∧ 1 ≤ lv x ∧ lv x ≤ 8 := by
  have hU := U_pos
  have e1 : 1 ≤ K (num x) / (U : Int) := (Int.le_ediv_iff_mul_le hU).2 (by omega)
  have e2 : K (num x) / (U : Int) < 9 := (Int.ediv_lt_iff_lt_mul hU).2 h2
  have e : lv x = (K (num x) / (U : Int)).toNat := by unfold lv; rw [if_neg (by omega), if_neg (by omega)]
  omega
theorem lv_le (x : Nat) : lv x ≤ 9 := by
  by_cases h1 : K (num x) < (U : Int)
  · rw [lv_lo h1]; omega
  · by_cases h2 : 9 * (U : Int) ≤ K (num x)
    · rw [lv_hi h2]; omega
    · have := (lv_mid (x := x) (by omega) (by omega)).2.2; omega
/-- lv is n wherever the number lies from n to n + 1. -/
theorem lv_at {x : Nat} {n : Nat} (hn : n ≤ 8) (h1 : (n : Int) * (U : Int) ≤ K (num x)) (h2 : K (num x) < ((n : Int) + 1) * (U : Int)) : lv x = n := by
  have hU := U_pos
  by_cases h0 : n = 0
  · subst h0
    exact lv_lo (by simpa using h2)
  · have a1 : 1 * (U : Int) ≤ (n : Int) * (U : Int) := Int.mul_le_mul_of_nonneg_right (by omega) (by omega)
    have a2 : ((n : Int) + 1) * (U : Int) ≤ 9 * (U : Int) := Int.mul_le_mul_of_nonneg_right (by omega) (by omega)
    have h := (lv_mid (x := x) (by omega) (by omega)).1
    have e : K (num x) / (U : Int) = n := by
      have b1 : (n : Int) ≤ K (num x) / (U : Int) := (Int.le_ediv_iff_mul_le hU).2 h1
      have b2 : K (num x) / (U : Int) < (n : Int) + 1 := (Int.ediv_lt_iff_lt_mul hU).2 h2
      omega
    omega
theorem fin_of {x : Nat} (hn : isNaN x = false) (h1 : (U : Int) ≤ K x) (h2 : K x < 9 * (U : Int)) : fin x := by
  have hU := U_pos
  have hb : 9 * (U : Int) ≤ (big : Int) := by
    have h : 9 * U ≤ big := by
      have : 16 * U ≤ big := by
        rw [U_eq]
        unfold big
        rw [show (16 : Nat) = 2 ^ 4 from rfl, ← Nat.pow_add]
        exact Nat.pow_le_pow_right (by omega) (by rw [e1074_eq, e2200_eq]; omega)
      omega
    have := Int.ofNat_le.2 h
    rwa [Int.natCast_mul] at this
  exact fin_of_K hn (by omega) (by omega)
theorem r_int {x : Nat} (hn : isNaN x = false) (h1 : (U : Int) ≤ K x) (h2 : K x < 9 * (U : Int)) (w : World) :
    (convert 23 3 (.float .f64 x)).run Tryd.prog w = .ok (.int .i64 (lv x : Int)) w := by
  have hx := fin_of hn h1 h2
  have hU := U_pos
  have h := lv_mid (x := x) (by rw [num_of hn]; exact h1) (by rw [num_of hn]; exact h2)
  rw [num_of hn] at h
  refine run_convert_float_int w _ _ .f64 .i64 x _ (by kernel_rfl) Tryd.underlying3 ?_
  have ht : (FloatKind.f64.decode x).toInt .zero = some (lv x : Int) := by
    rw [h.1, ← Int.tdiv_eq_ediv_of_nonneg (by omega)]
    exact toInt_K x hx
  unfold floatToIntVal
  simp only [ht]
  rw [if_pos ⟨(show (-9223372036854775808 : Int) ≤ _ by omega), (show _ ≤ (9223372036854775807 : Int) by omega)⟩]

theorem number_any (x : Nat) (w : World) :
    Calls Tryd.prog 24 #[.float .f64 x] w fun e w' => e = .returned (.float .f64 (num x)) ∧ w = w' := by
  cases hn : isNaN x
  case true =>
    have e1 := self_nan hn
    rw [num_six hn]
    clear hn
    go_enter Tryd.func24, Tryd.ntmps24
    go_wp2_with fail
    go_ret
    exact ⟨rfl, rfl⟩
  case false =>
    have e1 := self_num hn
    rw [num_of hn]
    clear hn
    go_enter Tryd.func24, Tryd.ntmps24
    go_wp2_with fail
    go_ret
    exact ⟨rfl, rfl⟩
theorem lt_1 {x : Nat} (h : isNaN x = false) : (FloatKind.f64.format.order x 4607182418800017408 == some .lt) = decide (K x < (U : Int)) := by rw [f_lt, h, n_1, K_1]; rfl
theorem ge_9 {x : Nat} (h : isNaN x = false) : (FloatKind.f64.format.order x 4621256167635550208 == some .gt || FloatKind.f64.format.order x 4621256167635550208 == some .eq) = decide (9 * (U : Int) ≤ K x) := by rw [f_ge, h, n_9, K_9]; rfl
/-- How a number's level is found: three ways. -/
theorem three (y : Nat) (h : isNaN y = false) (L : Nat) (hL : L = (if K y < (U : Int) then 0 else if 9 * (U : Int) ≤ K y then 9 else (K y / (U : Int)).toNat)) :
    ((FloatKind.f64.format.order y 4607182418800017408 == some .lt) = true ∧ L = 0) ∨
    ((FloatKind.f64.format.order y 4607182418800017408 == some .lt) = false ∧ (FloatKind.f64.format.order y 4621256167635550208 == some .gt || FloatKind.f64.format.order y 4621256167635550208 == some .eq) = true ∧ L = 9) ∨
    ((FloatKind.f64.format.order y 4607182418800017408 == some .lt) = false ∧ (FloatKind.f64.format.order y 4621256167635550208 == some .gt || FloatKind.f64.format.order y 4621256167635550208 == some .eq) = false ∧
      ∀ w, (convert 23 3 (.float .f64 y)).run Tryd.prog w = .ok (.int .i64 (L : Int)) w) := by
  have hl : L = lv y := by unfold lv; rw [num_of h]; exact hL
  rw [lt_1 h, ge_9 h]
  by_cases h1 : K y < (U : Int)
  · exact .inl ⟨decide_eq_true h1, by rw [hl]; exact lv_lo (by rw [num_of h]; exact h1)⟩
  by_cases h2 : 9 * (U : Int) ≤ K y
  · exact .inr (.inl ⟨decide_eq_false h1, decide_eq_true h2, by rw [hl]; exact lv_hi (by rw [num_of h]; exact h2)⟩)
  · exact .inr (.inr ⟨decide_eq_false h1, decide_eq_false h2, by rw [hl]; exact r_int h (by omega) (by omega)⟩)
theorem level_any (x : Nat) (w : World) :
    Calls Tryd.prog 20 #[.float .f64 x] w fun e w' => e = .returned (.int .i64 (lv x : Int)) ∧ w = w' := by
  have HN := Lib.hid (number_any x w)
  have h3 := three (num x) (num_nan x) (lv x) rfl
  generalize lv x = L at *
  generalize num x = y at *
  rcases h3 with ⟨e1, rfl⟩ | ⟨e1, e2, rfl⟩ | ⟨e1, e2, e3⟩
  all_goals
    go_enter Tryd.func20, Tryd.ntmps20
    go_wp2_with fail
    refine HN.out.mono ?_
    rintro e w1 ⟨rfl, rfl⟩
    go_wp2_with fail
    go_ret
    exact ⟨rfl, rfl⟩
end Go.Proofs.YtbjjkhlebdaoaaaDoor.EfC
end

section
/-
  Package effort: plans.
-/
namespace Go.Proofs.YtbjjkhlebdaoaaaDoor.EfC
open Go.RowKit Go.My Flt

def chZ : List Int := [0, 1, 4, 8, 8, 16, 32, 64, 256, 1024]
def gdZ : List Int := [0, 8, 8, 16, 16, 32, 64, 128, 258, 258]
def ch (n : Nat) : Int := chZ.getD n 0
def gd (n : Nat) : Int := gdZ.getD n 0
def st (n : Nat) : Bool := n == 0
def lz (n : Nat) : Bool := decide (4 ≤ n)
def pv (s : Bool) (c : Int) (l : Bool) (g : Int) : Value := .agg #[.bool s, .int .i64 c, .bool l, .int .i64 g]
def pl (n : Nat) : Value := pv (st n) (ch n) (lz n) (gd n)
/-- The package's table. -/
structure Pls (w : World) : Prop where
  lt : 0 < w.heap.size
  c0 : ∀ n, n < 10 → w.cell? ⟨0, n * 4, none⟩ = some (.bool (st n))
  c1 : ∀ n, n < 10 → w.cell? ⟨0, n * 4 + 1, none⟩ = some (.int .i64 (ch n))
  c2 : ∀ n, n < 10 → w.cell? ⟨0, n * 4 + 2, none⟩ = some (.bool (lz n))
  c3 : ∀ n, n < 10 → w.cell? ⟨0, n * 4 + 3, none⟩ = some (.int .i64 (gd n))
theorem Pls.below {w w' : World} (h : Pls w) {B : Nat} (hB : w.heap.size ≤ B) (hb : Below B w w') : Pls w' :=
  ⟨Nat.lt_of_lt_of_le h.lt hb.size, fun n hn => by rw [hb.cell (Nat.lt_of_lt_of_le h.lt hB)]; exact h.c0 n hn, fun n hn => by rw [hb.cell (Nat.lt_of_lt_of_le h.lt hB)]; exact h.c1 n hn,
    fun n hn => by rw [hb.cell (Nat.lt_of_lt_of_le h.lt hB)]; exact h.c2 n hn, fun n hn => by rw [hb.cell (Nat.lt_of_lt_of_le h.lt hB)]; exact h.c3 n hn⟩

theorem gPl : Tryd.prog.globalNamed "stevedore/effort.plans" = some 0 := by kernel_rfl
theorem tPl : (Tryd.prog.globals[0]?).map (·.type) = some 45 := by kernel_rfl
def pd (n : Nat) : DataW Unit := .agg [.lit (.bool (st n)), .lit (.int .i64 (ch n)), .lit (.bool (lz n)), .lit (.int .i64 (gd n))]
theorem four_of {cs : List Value} {a b c d : Value} (hl : cs.length = 4) (h1 : (cs.drop 0).take 1 = [a]) (h2 : (cs.drop 1).take 1 = [b]) (h3 : (cs.drop 2).take 1 = [c]) (h4 : (cs.drop 3).take 1 = [d]) : cs = [a, b, c, d] := by
  match cs, hl with
  | [v1, v2, v3, v4], _ =>
    simp at h1 h2 h3 h4
    rw [h1, h2, h3, h4]
theorem plan_cells {enc : TypeId × Value → Unit} {w : World} {base : Nat} {sp : Nat → Bool} {held : Bool} {fuel : Nat} {cs : List Value} {a : Bool} {b : Int} {c : Bool} {d : Int} {p : List MemPlace}
    (h : DataW.trod enc Tryd.prog w base sp held fuel 36 cs = some (.agg [.lit (.bool a), .lit (.int .i64 b), .lit (.bool c), .lit (.int .i64 d)], p)) : cs = [.bool a, .int .i64 b, .bool c, .int .i64 d] := by
  have hi := Tryd.underlying3
  have hbo := Tryd.underlying4
  have hc1 : Tryd.prog.cellsOf 3 = 1 := by kernel_rfl
  have hc2 : Tryd.prog.cellsOf 4 = 1 := by kernel_rfl
  have hc4 : Tryd.prog.cellsOf 36 = 4 := by kernel_rfl
  obtain ⟨y1, y2, y3, y4, n, hx, hl, h1, h2, h3, h4⟩ := Go.Joins.trod_struct4 Tryd.underlying36 h
  obtain ⟨n1, e1, rfl⟩ := DataW.trod_bool hbo h1
  obtain ⟨n2, e2, rfl, -⟩ := DataW.trod_int hi h2
  obtain ⟨n3, e3, rfl⟩ := DataW.trod_bool hbo h3
  obtain ⟨n4, e4, rfl, -⟩ := DataW.trod_int hi h4
  simp at hx
  obtain ⟨⟨rfl, rfl, rfl, rfl⟩, -⟩ := hx
  rw [hc4] at hl
  rw [hc2] at e1 e3
  rw [hc1] at e2 e4
  exact four_of hl e1 e2 e3 e4
/-- An array of plans, cell by cell. -/
theorem tab_cells {enc : TypeId × Value → Unit} {w : World} {base : Nat} {sp : Nat → Bool} {held : Bool} {fuel : Nat} {cs : List Value} {p : List MemPlace}
    (h : DataW.trod enc Tryd.prog w base sp held fuel 45 cs = some (.agg ((List.range 10).map pd), p)) (n : Nat) (hn : n < 10) :
    cs[n * 4]? = some (.bool (st n)) ∧ cs[n * 4 + 1]? = some (.int .i64 (ch n)) ∧ cs[n * 4 + 2]? = some (.bool (lz n)) ∧ cs[n * 4 + 3]? = some (.int .i64 (gd n)) := by
  have ht := Tryd.underlying45
  have hce : Tryd.prog.cellsOf 36 = 4 := by kernel_rfl
  have hct : Tryd.prog.cellsOf 45 = 40 := by kernel_rfl
  cases fuel with
  | zero => simp [DataW.trod] at h
  | succ fuel =>
    simp only [DataW.trod, ht, hce, hct] at h
    split at h
    · rename_i hl
      obtain ⟨xs, hm, hx⟩ := Option.map_eq_some_iff.1 h
      have hxs : xs.map (·.1) = (List.range 10).map pd := by
        have := congrArg Prod.fst hx
        simpa using this
      obtain ⟨b, hb, hf⟩ := Lib.mapM_at hm n n (by simp [hn])
      have h2 : (xs.map (·.1))[n]? = some b.1 := by simp [hb]
      rw [hxs] at h2
      simp [hn] at h2
      obtain ⟨b1, b2⟩ := b
      simp only at h2
      subst h2
      have hc := plan_cells hf
      have at_ : ∀ j, j < 4 → cs[n * 4 + j]? = ([.bool (st n), .int .i64 (ch n), .bool (lz n), .int .i64 (gd n)] : List Value)[j]? := fun j hj => by
        rw [← hc, List.getElem?_take, if_pos hj, List.getElem?_drop]
      exact ⟨at_ 0 (by omega), at_ 1 (by omega), at_ 2 (by omega), at_ 3 (by omega)⟩
    · cases h
theorem pls_of_laid {rest : List (String × DataW Unit)} {W : World} (h : laidMet Tryd.prog (("stevedore/effort.plans", .agg ((List.range 10).map pd)) :: rest) W) : Pls W := by
  obtain ⟨ps, ⟨g1, t1, cs1, f1, p1, q1, hg1, ht1, hv1, hd1, _⟩, _⟩ := h
  obtain rfl := Option.some.inj (gPl.symm.trans hg1)
  obtain rfl := Option.some.inj (tPl.symm.trans ht1)
  have at1 : ∀ i v, cs1.toList[i]? = some v → W.cell? ⟨0, i, none⟩ = some v := fun i v hv => by
    rw [World.var?_cell hg1 hv1 i]
    simpa using hv
  have hc := tab_cells hd1
  exact ⟨block_lt_of_cell (at1 0 _ (hc 0 (by omega)).1), fun n hn => at1 _ _ (hc n hn).1, fun n hn => at1 _ _ (hc n hn).2.1, fun n hn => at1 _ _ (hc n hn).2.2.1, fun n hn => at1 _ _ (hc n hn).2.2.2⟩

theorem info_plan : (Tryd.prog.info? 36).map (·.size) = some 4 := by kernel_rfl
theorem plan_ret {fn : Func} {p : Tmp} (hres : fn.results = #[.cell p 36]) {a : Act} {w : World} {g : Nat} {v1 v2 v3 v4 : Value} {f : Nat × Nat} {R : Ending → World → Prop} (hd : a.defers = [])
    (hp : a.tmps.getD p undef = .pointer (some ⟨g, 0, none⟩)) (hg : w.heap[g]? = some (.cells #[v1, v2, v3, v4] 36 f)) (h : R (.returned (.agg #[v1, v2, v3, v4])) w) :
    bodyPost Tryd.prog fn R .ret a w :=
  bodyPost_ret (results_cell_row hres _ _ g _ _ _ _ hp hg Tryd.underlying36 rfl info_plan) hd h
set_option maxRecDepth 100000 in
theorem plan_any (x : Nat) (w : World) (h : Pls w) :
    Calls Tryd.prog 13 #[.float .f64 x] w fun e w' => e = .returned (pl (lv x)) ∧ Below w.heap.size w w' := by
  have HL := Lib.hid (fun w => level_any x w)
  have hl := lv_le x
  have hg := h.lt
  have c0 := h.c0 (lv x) (by omega)
  have c1 := h.c1 (lv x) (by omega)
  have c2 := h.c2 (lv x) (by omega)
  have c3 := h.c3 (lv x) (by omega)
  unfold pl pv
  clear h
  generalize lv x = L at *
  generalize st L = S at *
  generalize ch L = C at *
  generalize lz L = Z at *
  generalize gd L = G at *
  go_enter Tryd.func13, Tryd.ntmps13
  go_wp2_with fail
  refine (HL.out _).mono ?_
  rintro e w1 ⟨rfl, rfl⟩
  go_wp2_with fail
  exact plan_ret rfl rfl rfl (heap_alloc_new _ _) ⟨rfl, (Below.refl _ _).alloc (Nat.le_refl _) _⟩
end Go.Proofs.YtbjjkhlebdaoaaaDoor.EfC
end

section
/-
  The document's level.
-/
namespace Go.Proofs.YtbjjkhlebdaoaaaDoor.EfC
open Go.RowKit Go.My Flt

theorem rlevel_any (x : Nat) (w : World) :
    Calls Tryd.prog 7 #[.float .f64 x] w fun e w' => e = .returned (.int .i64 (lv x : Int)) ∧ w = w' := by
  cases hn : isNaN x
  case true =>
    have e1 := self_nan hn
    have hL : lv x = 6 := lv_at (n := 6) (by omega) (by rw [num_six hn, K_6]; simp) (by rw [num_six hn, K_6]; have := U_pos; simp; omega)
    rw [hL]
    clear hn hL
    go_enter Tryd.func7, Tryd.ntmps7
    go_wp2_with fail
    go_ret
    exact ⟨rfl, rfl⟩
  case false =>
    have e0 := self_num hn
    have h3 := three x hn (lv x) (by unfold lv; rw [num_of hn])
    clear hn
    generalize lv x = L at *
    rcases h3 with ⟨e1, rfl⟩ | ⟨e1, e2, rfl⟩ | ⟨e1, e2, e3⟩
    all_goals
      go_enter Tryd.func7, Tryd.ntmps7
      go_wp2_with fail
      go_ret
      exact ⟨rfl, rfl⟩
end Go.Proofs.YtbjjkhlebdaoaaaDoor.EfC
end
