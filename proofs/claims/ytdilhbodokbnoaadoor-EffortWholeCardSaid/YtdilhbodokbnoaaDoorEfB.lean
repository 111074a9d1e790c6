/-
  Package effort: plans.
-/
import Derived.Test.YtdilhbodokbnoaaDoorEfA
import Derived.Lib.LaidTab
import Derived.Lib.SmallJoins
namespace Go.Proofs.YtdilhbodokbnoaaDoor.EfC
open Go.RowKit Go.My Flt

def chZ : List Int := [0, 1, 4, 8, 8, 16, 32, 64, 256, 1024]
def gdZ : List Int := [0, 8, 8, 16, 16, 32, 64, 128, 258, 258]
def ch (n : Nat) : Int := chZ.getD n 0
def gd (n : Nat) : Int := gdZ.getD n 0
def st (n : Nat) : Bool := n == 0
def lz (n : Nat) : Bool := decide (4 ≤ n)
def pv (s : Bool) (c : Int) (l : Bool) (g : Int) : Value := .agg #[.bool s, .int .i64 c, .bool l, .int .i64 g]
def pl (n : Nat) : Value := pv (st n) (ch n) (lz n) (gd n)
/-- A longer chain for a higher level. -/
theorem ch_mono {m n : Nat} (h : m ≤ n) (hn : n ≤ 9) : ch m ≤ ch n := by
  have all : ∀ b : Fin 10, ∀ a : Fin 10, a.val ≤ b.val → ch a.val ≤ ch b.val := by decide
  exact all ⟨n, by omega⟩ ⟨m, by omega⟩ h

/-- The package's table. -/
structure Pls (w : World) : Prop where
  lt : 0 < w.heap.size
  c0 : ∀ n, n < 10 → w.cell? ⟨0, n * 4, none⟩ = some (.bool (st n))
  c1 : ∀ n, n < 10 → w.cell? ⟨0, n * 4 + 1, none⟩ = some (.int .i64 (ch n))
  c2 : ∀ n, n < 10 → w.cell? ⟨0, n * 4 + 2, none⟩ = some (.bool (lz n))
  c3 : ∀ n, n < 10 → w.cell? ⟨0, n * 4 + 3, none⟩ = some (.int .i64 (gd n))
theorem Pls.below {w w' : World} (h : Pls w) {B : Nat} (hB : w.heap.size ≤ B) (hb : Below B w w') : Pls w' :=
  ⟨Nat.lt_of_lt_of_le h.lt hb.size, fun n hn => by rw [hb.cell (Nat.lt_of_lt_of_le h.lt hB)]; exact h.c0 n hn, fun n hn => by rw [hb.cell (Nat.lt_of_lt_of_le h.lt hB)]; exact h.c1 n hn,
    fun n hn => by rw [hb.cell (Nat.lt_of_lt_of_le h.lt hB)]; exact h.c2 n hn, fun n hn => by rw [hb.cell (Nat.lt_of_lt_of_le h.lt hB)]; exact h.c3 n hn⟩

theorem gPl : Tryd.prog.globalNamed "stevedore/effort.plans" = some 0 := by kernel_rfl
theorem tPl : (Tryd.prog.globals[0]?).map (·.type) = some 34 := by kernel_rfl
def pd (n : Nat) : DataW Unit := .agg [.lit (.bool (st n)), .lit (.int .i64 (ch n)), .lit (.bool (lz n)), .lit (.int .i64 (gd n))]
theorem four_of {cs : List Value} {a b c d : Value} (hl : cs.length = 4) (h1 : (cs.drop 0).take 1 = [a]) (h2 : (cs.drop 1).take 1 = [b]) (h3 : (cs.drop 2).take 1 = [c]) (h4 : (cs.drop 3).take 1 = [d]) : cs = [a, b, c, d] := by
  match cs, hl with
  | [v1, v2, v3, v4], _ =>
    simp at h1 h2 h3 h4
    rw [h1, h2, h3, h4]
theorem plan_cells {enc : TypeId × Value → Unit} {w : World} {base : Nat} {sp : Nat → Bool} {held : Bool} {fuel : Nat} {cs : List Value} {a : Bool} {b : Int} {c : Bool} {d : Int} {p : List MemPlace}
    (h : DataW.trod enc Tryd.prog w base sp held fuel 26 cs = some (.agg [.lit (.bool a), .lit (.int .i64 b), .lit (.bool c), .lit (.int .i64 d)], p)) : cs = [.bool a, .int .i64 b, .bool c, .int .i64 d] := by
  have hi := Tryd.underlying3
  have hbo := Tryd.underlying4
  have hc1 : Tryd.prog.cellsOf 3 = 1 := by kernel_rfl
  have hc2 : Tryd.prog.cellsOf 4 = 1 := by kernel_rfl
  have hc4 : Tryd.prog.cellsOf 26 = 4 := by kernel_rfl
  obtain ⟨y1, y2, y3, y4, n, hx, hl, h1, h2, h3, h4⟩ := Go.Joins.trod_struct4 Tryd.underlying26 h
  obtain ⟨n1, e1, rfl⟩ := DataW.trod_bool hbo h1
  obtain ⟨n2, e2, rfl, -⟩ := DataW.trod_int hi h2
  obtain ⟨n3, e3, rfl⟩ := DataW.trod_bool hbo h3
  obtain ⟨n4, e4, rfl, -⟩ := DataW.trod_int hi h4
  simp at hx
  obtain ⟨⟨rfl, rfl, rfl, rfl⟩, -⟩ := hx
  rw [hc4] at hl
  rw [hc2] at e1 e3
  rw [hc1] at e2 e4
  exact four_of hl e1 e2 e3 e4
/-- An array of plans, cell by cell. -/
theorem tab_cells {enc : TypeId × Value → Unit} {w : World} {base : Nat} {sp : Nat → Bool} {held : Bool} {fuel : Nat} {cs : List Value} {p : List MemPlace}
    (h : DataW.trod enc Tryd.prog w base sp held fuel 34 cs = some (.agg ((List.range 10).map pd), p)) (n : Nat) (hn : n < 10) :
    cs[n * 4]? = some (.bool (st n)) ∧ cs[n * 4 + 1]? = some (.int .i64 (ch n)) ∧ cs[n * 4 + 2]? = some (.bool (lz n)) ∧ cs[n * 4 + 3]? = some (.int .i64 (gd n)) := by
  have ht := Tryd.underlying34
  have hce : Tryd.prog.cellsOf 26 = 4 := by kernel_rfl
  have hct : Tryd.prog.cellsOf 34 = 40 := by kernel_rfl
  cases fuel with
  | zero => simp [DataW.trod] at h
  | succ fuel =>
    simp only [DataW.trod, ht, hce, hct] at h
    split at h
    · rename_i hl
      obtain ⟨xs, hm, hx⟩ := Option.map_eq_some_iff.1 h
      have hxs : xs.map (·.1) = (List.range 10).map pd := by
        have := congrArg Prod.fst hx
        simpa using this
      obtain ⟨b, hb, hf⟩ := Lib.mapM_at hm n n (by simp [hn])
      have h2 : (xs.map (·.1))[n]? = some b.1 := by simp [hb]
      rw [hxs] at h2
      simp [hn] at h2
      obtain ⟨b1, b2⟩ := b
      simp only at h2
      subst h2
      have hc := plan_cells hf
      have at_ : ∀ j, j < 4 → cs[n * 4 + j]? = ([.bool (st n), .int .i64 (ch n), .bool (lz n), .int .i64 (gd n)] : List Value)[j]? := fun j hj => by
        rw [← hc, List.getElem?_take, if_pos hj, List.getElem?_drop]
      exact ⟨at_ 0 (by omega), at_ 1 (by omega), at_ 2 (by omega), at_ 3 (by omega)⟩
    · cases h
theorem pls_of_laid {rest : List (String × DataW Unit)} {W : World} (h : laidMet Tryd.prog (("stevedore/effort.plans", .agg ((List.range 10).map pd)) :: rest) W) : Pls W := by
  obtain ⟨ps, ⟨g1, t1, cs1, f1, p1, q1, hg1, ht1, hv1, hd1, _⟩, _⟩ := h
  obtain rfl := Option.some.inj (gPl.symm.trans hg1)
  obtain rfl := Option.some.inj (tPl.symm.trans ht1)
  have at1 : ∀ i v, cs1.toList[i]? = some v → W.cell? ⟨0, i, none⟩ = some v := fun i v hv => by
    rw [World.var?_cell hg1 hv1 i]
    simpa using hv
  have hc := tab_cells hd1
  exact ⟨block_lt_of_cell (at1 0 _ (hc 0 (by omega)).1), fun n hn => at1 _ _ (hc n hn).1, fun n hn => at1 _ _ (hc n hn).2.1, fun n hn => at1 _ _ (hc n hn).2.2.1, fun n hn => at1 _ _ (hc n hn).2.2.2⟩

theorem info_plan : (Tryd.prog.info? 26).map (·.size) = some 4 := by kernel_rfl
theorem plan_ret {fn : Func} {p : Tmp} (hres : fn.results = #[.cell p 26]) {a : Act} {w : World} {g : Nat} {v1 v2 v3 v4 : Value} {f : Nat × Nat} {R : Ending → World → Prop} (hd : a.defers = [])
    (hp : a.tmps.getD p undef = .pointer (some ⟨g, 0, none⟩)) (hg : w.heap[g]? = some (.cells #[v1, v2, v3, v4] 26 f)) (h : R (.returned (.agg #[v1, v2, v3, v4])) w) :
    bodyPost Tryd.prog fn R .ret a w :=
  bodyPost_ret (results_cell_row hres _ _ g _ _ _ _ hp hg Tryd.underlying26 rfl info_plan) hd h
set_option maxRecDepth 100000 in
theorem plan_any (x : Nat) (w : World) (h : Pls w) :
    Calls Tryd.prog 9 #[.float .f64 x] w fun e w' => e = .returned (pl (lv x)) ∧ Below w.heap.size w w' := by
  have HL := Lib.hid (fun w => level_any x w)
  have hl := lv_le x
  have hg := h.lt
  have c0 := h.c0 (lv x) (by omega)
  have c1 := h.c1 (lv x) (by omega)
  have c2 := h.c2 (lv x) (by omega)
  have c3 := h.c3 (lv x) (by omega)
  unfold pl pv
  clear h
  generalize lv x = L at *
  generalize st L = S at *
  generalize ch L = C at *
  generalize lz L = Z at *
  generalize gd L = G at *
  go_enter Tryd.func9, Tryd.ntmps9
  go_wp2_with fail
  refine (HL.out _).mono ?_
  rintro e w1 ⟨rfl, rfl⟩
  go_wp2_with fail
  exact plan_ret rfl rfl rfl (heap_alloc_new _ _) ⟨rfl, (Below.refl _ _).alloc (Nat.le_refl _) _⟩
theorem old_1 {w : World} {o1 o2 o3 : Obj} : (((w.alloc o1).alloc o2).alloc o3).drew.heap[w.heap.size]? = some o1 := by
  show (((w.alloc o1).alloc o2).alloc o3).heap[w.heap.size]? = some o1
  rw [heap_alloc_old _ _ (by rw [World.size_alloc, World.size_alloc]; omega), heap_alloc_old _ _ (by rw [World.size_alloc]; omega)]
  exact heap_alloc_new _ _
theorem old_2 {w : World} {o1 o2 o3 : Obj} : Below w.heap.size w (((w.alloc o1).alloc o2).alloc o3).drew :=
  ((((Below.refl _ w).alloc (Nat.le_refl _) o1).alloc (by rw [World.size_alloc]; omega) o2).alloc (by rw [World.size_alloc, World.size_alloc]; omega) o3).drew
theorem rl_any (x L : Nat) (hL : lv x = L) (w : World) :
    Calls Tryd.prog 8 #[.float .f64 x] w fun e w' => e = .returned (.int .i64 (L : Int)) ∧ w = w' := by rw [← hL]; exact rlevel_any x w
set_option maxRecDepth 100000 in
theorem rplan_0 (x : Nat) (w : World) (HL : Hid (∀ w, Calls Tryd.prog 8 #[.float .f64 x] w fun e w' => e = .returned (.int .i64 0) ∧ w = w')) :
    Calls Tryd.prog 10 #[.float .f64 x] w fun e w' => e = .returned (pl 0) ∧ Below w.heap.size w w' := by
  rw [show pl 0 = pv true 0 false 0 from rfl]
  unfold pv
  go_enter Tryd.func10, Tryd.ntmps10
  go_wp2_with fail
  refine (HL.out _).mono ?_
  rintro e w1 ⟨rfl, rfl⟩
  go_wp2_with fail
  go_region
  go_wp2_with fail
  exact plan_ret rfl rfl rfl old_1 ⟨rfl, old_2⟩
set_option maxRecDepth 100000 in
theorem rplan_1 (x : Nat) (w : World) (HL : Hid (∀ w, Calls Tryd.prog 8 #[.float .f64 x] w fun e w' => e = .returned (.int .i64 1) ∧ w = w')) :
    Calls Tryd.prog 10 #[.float .f64 x] w fun e w' => e = .returned (pl 1) ∧ Below w.heap.size w w' := by
  rw [show pl 1 = pv false 1 false 8 from rfl]
  unfold pv
  go_enter Tryd.func10, Tryd.ntmps10
  go_wp2_with fail
  refine (HL.out _).mono ?_
  rintro e w1 ⟨rfl, rfl⟩
  go_wp2_with fail
  go_region
  go_wp2_with fail
  exact plan_ret rfl rfl rfl old_1 ⟨rfl, old_2⟩
set_option maxRecDepth 100000 in
theorem rplan_2 (x : Nat) (w : World) (HL : Hid (∀ w, Calls Tryd.prog 8 #[.float .f64 x] w fun e w' => e = .returned (.int .i64 2) ∧ w = w')) :
    Calls Tryd.prog 10 #[.float .f64 x] w fun e w' => e = .returned (pl 2) ∧ Below w.heap.size w w' := by
  rw [show pl 2 = pv false 4 false 8 from rfl]
  unfold pv
  go_enter Tryd.func10, Tryd.ntmps10
  go_wp2_with fail
  refine (HL.out _).mono ?_
  rintro e w1 ⟨rfl, rfl⟩
  go_wp2_with fail
  go_region
  go_wp2_with fail
  exact plan_ret rfl rfl rfl old_1 ⟨rfl, old_2⟩
set_option maxRecDepth 100000 in
theorem rplan_3 (x : Nat) (w : World) (HL : Hid (∀ w, Calls Tryd.prog 8 #[.float .f64 x] w fun e w' => e = .returned (.int .i64 3) ∧ w = w')) :
    Calls Tryd.prog 10 #[.float .f64 x] w fun e w' => e = .returned (pl 3) ∧ Below w.heap.size w w' := by
  rw [show pl 3 = pv false 8 false 16 from rfl]
  unfold pv
  go_enter Tryd.func10, Tryd.ntmps10
  go_wp2_with fail
  refine (HL.out _).mono ?_
  rintro e w1 ⟨rfl, rfl⟩
  go_wp2_with fail
  go_region
  go_wp2_with fail
  exact plan_ret rfl rfl rfl old_1 ⟨rfl, old_2⟩
set_option maxRecDepth 100000 in
theorem rplan_4 (x : Nat) (w : World) (HL : Hid (∀ w, Calls Tryd.prog 8 #[.float .f64 x] w fun e w' => e = .returned (.int .i64 4) ∧ w = w')) :
    Calls Tryd.prog 10 #[.float .f64 x] w fun e w' => e = .returned (pl 4) ∧ Below w.heap.size w w' := by
  rw [show pl 4 = pv false 8 true 16 from rfl]
  unfold pv
  go_enter Tryd.func10, Tryd.ntmps10
  go_wp2_with fail
  refine (HL.out _).mono ?_
  rintro e w1 ⟨rfl, rfl⟩
  go_wp2_with fail
  go_region
  go_wp2_with fail
  exact plan_ret rfl rfl rfl old_1 ⟨rfl, old_2⟩
set_option maxRecDepth 100000 in
theorem rplan_5 (x : Nat) (w : World) (HL : Hid (∀ w, Calls Tryd.prog 8 #[.float .f64 x] w fun e w' => e = .returned (.int .i64 5) ∧ w = w')) :
    Calls Tryd.prog 10 #[.float .f64 x] w fun e w' => e = .returned (pl 5) ∧ Below w.heap.size w w' := by
  rw [show pl 5 = pv false 16 true 32 from rfl]
  unfold pv
  go_enter Tryd.func10, Tryd.ntmps10
  go_wp2_with fail
  refine (HL.out _).mono ?_
  rintro e w1 ⟨rfl, rfl⟩
  go_wp2_with fail
  go_region
  go_wp2_with fail
  exact plan_ret rfl rfl rfl old_1 ⟨rfl, old_2⟩
set_option maxRecDepth 100000 in
theorem rplan_6 (x : Nat) (w : World) (HL : Hid (∀ w, Calls Tryd.prog 8 #[.float .f64 x] w fun e w' => e = .returned (.int .i64 6) ∧ w = w')) :
    Calls Tryd.prog 10 #[.float .f64 x] w fun e w' => e = .returned (pl 6) ∧ Below w.heap.size w w' := by
  rw [show pl 6 = pv false 32 true 64 from rfl]
  unfold pv
  go_enter Tryd.func10, Tryd.ntmps10
  go_wp2_with fail
  refine (HL.out _).mono ?_
  rintro e w1 ⟨rfl, rfl⟩
  go_wp2_with fail
  go_region
  go_wp2_with fail
  exact plan_ret rfl rfl rfl old_1 ⟨rfl, old_2⟩
set_option maxRecDepth 100000 in
theorem rplan_7 (x : Nat) (w : World) (HL : Hid (∀ w, Calls Tryd.prog 8 #[.float .f64 x] w fun e w' => e = .returned (.int .i64 7) ∧ w = w')) :
    Calls Tryd.prog 10 #[.float .f64 x] w fun e w' => e = .returned (pl 7) ∧ Below w.heap.size w w' := by
  rw [show pl 7 = pv false 64 true 128 from rfl]
  unfold pv
  go_enter Tryd.func10, Tryd.ntmps10
  go_wp2_with fail
  refine (HL.out _).mono ?_
  rintro e w1 ⟨rfl, rfl⟩
  go_wp2_with fail
  go_region
  go_wp2_with fail
  exact plan_ret rfl rfl rfl old_1 ⟨rfl, old_2⟩
set_option maxRecDepth 100000 in
theorem rplan_8 (x : Nat) (w : World) (HL : Hid (∀ w, Calls Tryd.prog 8 #[.float .f64 x] w fun e w' => e = .returned (.int .i64 8) ∧ w = w')) :
    Calls Tryd.prog 10 #[.float .f64 x] w fun e w' => e = .returned (pl 8) ∧ Below w.heap.size w w' := by
  rw [show pl 8 = pv false 256 true 258 from rfl]
  unfold pv
  go_enter Tryd.func10, Tryd.ntmps10
  go_wp2_with fail
  refine (HL.out _).mono ?_
  rintro e w1 ⟨rfl, rfl⟩
  go_wp2_with fail
  go_region
  go_wp2_with fail
  exact plan_ret rfl rfl rfl old_1 ⟨rfl, old_2⟩
set_option maxRecDepth 100000 in
theorem rplan_9 (x : Nat) (w : World) (HL : Hid (∀ w, Calls Tryd.prog 8 #[.float .f64 x] w fun e w' => e = .returned (.int .i64 9) ∧ w = w')) :
    Calls Tryd.prog 10 #[.float .f64 x] w fun e w' => e = .returned (pl 9) ∧ Below w.heap.size w w' := by
  rw [show pl 9 = pv false 1024 true 258 from rfl]
  unfold pv
  go_enter Tryd.func10, Tryd.ntmps10
  go_wp2_with fail
  refine (HL.out _).mono ?_
  rintro e w1 ⟨rfl, rfl⟩
  go_wp2_with fail
  go_region
  go_wp2_with fail
  exact plan_ret rfl rfl rfl old_1 ⟨rfl, old_2⟩
theorem rplan_any (x : Nat) (w : World) :
    Calls Tryd.prog 10 #[.float .f64 x] w fun e w' => e = .returned (pl (lv x)) ∧ Below w.heap.size w w' := by
  have hl := lv_le x
  have HL := Lib.hid (fun w => rlevel_any x w)
  generalize lv x = L at *
  have : L = 0 ∨ L = 1 ∨ L = 2 ∨ L = 3 ∨ L = 4 ∨ L = 5 ∨ L = 6 ∨ L = 7 ∨ L = 8 ∨ L = 9 := by omega
  rcases this with rfl | rfl | rfl | rfl | rfl | rfl | rfl | rfl | rfl | rfl
  · exact rplan_0 x w HL
  · exact rplan_1 x w HL
  · exact rplan_2 x w HL
  · exact rplan_3 x w HL
  · exact rplan_4 x w HL
  · exact rplan_5 x w HL
  · exact rplan_6 x w HL
  · exact rplan_7 x w HL
  · exact rplan_8 x w HL
  · exact rplan_9 x w HL
/-- A field of a plan that is a value. -/
theorem fld0 (S : Bool) (C : Int) (Z : Bool) (G : Int) (w : World) : (Instr.field 26 (.agg #[.bool S, .int .i64 C, .bool Z, .int .i64 G]) 0).run Tryd.prog w = .ok (.bool S) w := by
  simp [Instr.field, run_underlying Tryd.underlying26, asAgg, part, isAgg, run_underlying Tryd.underlying4]
theorem fld1 (S : Bool) (C : Int) (Z : Bool) (G : Int) (w : World) : (Instr.field 26 (.agg #[.bool S, .int .i64 C, .bool Z, .int .i64 G]) 1).run Tryd.prog w = .ok (.int .i64 C) w := by
  simp [Instr.field, run_underlying Tryd.underlying26, asAgg, part, isAgg, run_underlying Tryd.underlying3]
end Go.Proofs.YtdilhbodokbnoaaDoor.EfC
