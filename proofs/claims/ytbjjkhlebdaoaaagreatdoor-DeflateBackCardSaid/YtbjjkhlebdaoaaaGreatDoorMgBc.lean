import Derived.Test.YtbjjkhlebdaoaaaGreatDoorMgBa
import Derived.Test.YtbjjkhlebdaoaaaGreatDoorMgA

section
/-
  count: how often symbols occur.
-/
namespace Go.Proofs.YtbjjkhlebdaoaaaGreatDoor.BlkC
open Go.RowKit Go.My BitMath
open LzMath (Tok May)
open LzC (TokIn tc)
open PkC (cel lv cel_zero cel_cell cel_upd)
open InfMath (Pc lp dp symL litc dstc xtr lite)

theorem Blk.later {w w' : World} {g : Nat} {t : TypeId} {cs : Array Value} (h : Blk w g t cs) (hb : Below w.heap.size w w') : Blk w' g t cs := h.same (hb.block g h.lt)
theorem Blk.rowfar {w : World} {g h : Nat} {t : TypeId} {cs new : Array Value} (hb : Blk w g t cs) (hn : h ≠ g) : Blk (w.setRow h new) g t cs := hb.same (setRow_other w h g new (Ne.symm hn))
theorem pc_one (p : Pc) : (pc p).all (·.oneCell') = true := by simp [pc, Value.oneCell']
def zz3 : Array Value := #[.int .i64 0, .int .i64 0, .int .i64 0]

/-! ### the region of two pieces -/
def V7 (q L D : Nat) (wide : Bool) : List (Nat × Tmp × Value) :=
  [(0, 30, .pointer (some ⟨q, 0, none⟩)), (1, 31, .int .i64 (L : Int)), (2, 32, .bool wide), (3, 33, .agg (pc (lp L wide))), (4, 34, .pointer (some ⟨q, 1, none⟩)), (5, 35, .int .i64 (D : Int)), (6, 36, .agg (pc (dp D)))]
def L7 : List Tmp := [8, 9, 30, 31, 32, 33, 34, 35, 36]
/-- A new piece: made, then filled. -/
structure Pce (W : World) (Dn : Nat → Bool) (m s : Nat) (d : Tmp) (p : Pc) (a : Act) (w : World) (b : Nat) : Prop where
  not : Dn m = false → Dn s = false
  slot : Dn m = true → a.eval (.tmp d) = .pointer (some ⟨b, 0, none⟩)
  base : Dn m = true → W.heap.size ≤ b
  blk : Dn m = true → Blk w b 111 (if Dn s then pc p else zz3)
structure I7 (A0 : Act) (W : World) (q L D : Nat) (wide : Bool) (Dn : Nat → Bool) (a : Act) (w : World) (b8 b9 : Nat) : Prop where
  sl : Slots A0 L7 (V7 q L D wide) Dn a
  below : Below W.heap.size W w
  p8 : Pce W Dn 7 9 8 (lp L wide) a w b8
  p9 : Pce W Dn 8 10 9 (dp D) a w b9
  ne : Dn 7 = true → Dn 8 = true → b8 ≠ b9
section
variable {W w w' : World} {Dn : Nat → Bool} {m s j b : Nat} {d e : Tmp} {p : Pc} {a : Act} {v : Value}
theorem Pce.keep (h : Pce W Dn m s d p a w b) (hm : m ≠ j) (hs : s ≠ j) (hb : Below w.heap.size w w') (hd : e ≠ d) : Pce W (on Dn j) m s d p (a.put (some e) v) w' b :=
  ⟨fun k => by rw [on_ne Dn hm] at k; rw [on_ne Dn hs]; exact h.not k, fun k => by rw [on_ne Dn hm] at k; rw [eval_put_ne hd]; exact h.slot k, fun k => by rw [on_ne Dn hm] at k; exact h.base k,
   fun k => by rw [on_ne Dn hm] at k; rw [on_ne Dn hs]; exact Blk.later (h.blk k) hb⟩
theorem Pce.far {c : Nat} {cs : Array Value} (h : Pce W Dn m s d p a w b) (hm : m ≠ j) (hs : s ≠ j) (hc : Dn m = true → c ≠ b) : Pce W (on Dn j) m s d p (a.put none v) (w.setRow c cs) b :=
  ⟨fun k => by rw [on_ne Dn hm] at k; rw [on_ne Dn hs]; exact h.not k, fun k => by rw [on_ne Dn hm] at k; exact h.slot k, fun k => by rw [on_ne Dn hm] at k; exact h.base k,
   fun k => by rw [on_ne Dn hm] at k; rw [on_ne Dn hs]; exact Blk.rowfar (h.blk k) (hc k)⟩
theorem Pce.made (hn : Dn m = false → Dn s = false) (h0 : Dn m = false) (hms : s ≠ m) (hd : d < a.tmps.size) (hW : W.heap.size ≤ w.heap.size) : Pce W (on Dn m) m s d p (a.put (some d) (.pointer (some ⟨w.heap.size, 0, none⟩))) (w.alloc (.cells zz3 111)) w.heap.size := by
  refine ⟨fun k => (by rw [on_self] at k; cases k), fun _ => eval_put_self hd, fun _ => hW, fun _ => ?_⟩
  rw [on_ne Dn hms, hn h0]
  exact Blk.new w _ _
theorem Pce.fill (h : Pce W Dn m s d p a w b) (hms : s ≠ m) (h1 : Dn m = true) : Pce W (on Dn s) m s d p (a.put none v) (w.setRow b (pc p)) b :=
  ⟨fun k => (by rw [on_ne Dn (Ne.symm hms)] at k; rw [h1] at k; cases k), fun _ => h.slot h1, fun _ => h.base h1, fun _ => by rw [on_self]; exact (h.blk h1).row _⟩
end
theorem wp_piece {o : Oper} {a : Act} {w : World} {K : Act → World → Prop} {Q : Exit → Act → World → Prop} {d : Tmp} (hd : o.dst = some d) (ho : o.op = .alloc 111) (h : K (a.put (some d) (.pointer (some ⟨w.heap.size, 0, none⟩))) (w.alloc (.cells zz3 111))) : o.wp Tryz.prog a w K Q :=
  wp_value hd (x_alloc ho) h
theorem x_field {a : Act} {o : Oper} (s : Operand) (k : Nat) {q : Nat} {w : World} (hk : k < 3) (ho : o.op = .fieldAddr 96 s k) (hs : a.eval s = .pointer (some ⟨q, 0, none⟩)) : (execOp a.eval o).run Tryz.prog w = .ok (.value (.pointer (some ⟨q, k, none⟩))) w := by
  unfold execOp; rw [ho]; simp only [hs]
  rcases (by omega : k = 0 ∨ k = 1 ∨ k = 2) with rfl | rfl | rfl <;> go_simp
theorem x_loadi {a : Act} {o : Oper} (p : Operand) {x : Addr} {y : Int} {w : World} (ho : o.op = Op.load 3 p) (hp : a.eval p = .pointer (some x)) (hc : w.cell? x = some (.int .i64 y)) :
    (execOp a.eval o).run Tryz.prog w = .ok (.value (.int .i64 y)) w := by
  unfold execOp
  rw [ho]
  simp only [hp]
  go_simp
theorem x_len {a : Act} {o : Oper} {s t : Operand} {ts : Array TypeId} {u v : Value} {w : World} (ho : o.op = .call { callee := .value (.func 63), args := #[s, t], argTypes := ts }) (hs : a.eval s = u) (ht : a.eval t = v) :
    (execOp a.eval o).run Tryz.prog w = .ok (.enter 63 #[u, v]) w := by
  unfold execOp; rw [ho]
  subst hs ht
  go_simp
theorem x_dst {a : Act} {o : Oper} {s : Operand} {ts : Array TypeId} {u : Value} {w : World} (ho : o.op = .call { callee := .value (.func 64), args := #[s], argTypes := ts }) (hs : a.eval s = u) :
    (execOp a.eval o).run Tryz.prog w = .ok (.enter 64 #[u]) w := by
  unfold execOp; rw [ho]
  subst hs
  go_simp
theorem V7_at (q L D : Nat) (wide : Bool) (x : Nat × Tmp × Value) (h : x = (0, 30, .pointer (some ⟨q, 0, none⟩)) ∨ x = (1, 31, .int .i64 (L : Int)) ∨ x = (2, 32, .bool wide) ∨ x = (3, 33, .agg (pc (lp L wide))) ∨ x = (4, 34, .pointer (some ⟨q, 1, none⟩)) ∨ x = (5, 35, .int .i64 (D : Int)) ∨ x = (6, 36, .agg (pc (dp D)))) :
    ∀ p ∈ V7 q L D wide, (p.1 = x.1 ∧ p.2.1 = x.2.1 ∧ p.2.2 = x.2.2) ∨ (p.1 ≠ x.1 ∧ p.2.1 ≠ x.2.1) := by
  intro p hp
  simp only [V7, List.mem_cons, List.not_mem_nil, or_false] at hp
  rcases h with rfl | rfl | rfl | rfl | rfl | rfl | rfl <;> rcases hp with rfl | rfl | rfl | rfl | rfl | rfl | rfl <;> first | exact .inl ⟨rfl, rfl, rfl⟩ | exact .inr ⟨by simp, by simp⟩
theorem V7_lt (q L D : Nat) (wide : Bool) : ∀ p ∈ V7 q L D wide, p.1 < 11 := by
  intro p hp
  simp only [V7, List.mem_cons, List.not_mem_nil, or_false] at hp
  rcases hp with rfl | rfl | rfl | rfl | rfl | rfl | rfl <;> simp
theorem I7.val {A0 a : Act} {W w w' : World} {q L D b8 b9 : Nat} {wide : Bool} {Dn : Nat → Bool} (h : I7 A0 W q L D wide Dn a w b8 b9) {j : Nat} {d : Tmp} {v : Value} (hj : j < 7) (hdL : L7.contains d = true) (h8 : d ≠ 8) (h9 : d ≠ 9) (hlt : d < A0.tmps.size)
    (hV : ∀ p ∈ V7 q L D wide, (p.1 = j ∧ p.2.1 = d ∧ p.2.2 = v) ∨ (p.1 ≠ j ∧ p.2.1 ≠ d)) (hb : Below w.heap.size w w') : I7 A0 W q L D wide (on Dn j) (a.put (some d) v) w' b8 b9 :=
  ⟨h.sl.put hdL hlt hV, h.below.trans (hb.mono h.below.size), h.p8.keep (by omega) (by omega) hb h8, h.p9.keep (by omega) (by omega) hb h9, fun k8 k9 => h.ne (by rwa [on_ne Dn (by omega)] at k8) (by rwa [on_ne Dn (by omega)] at k9)⟩
theorem I7.mk8 {A0 a : Act} {W w : World} {q L D b8 b9 : Nat} {wide : Bool} {Dn : Nat → Bool} (h : I7 A0 W q L D wide Dn a w b8 b9) (hD : Dn 7 = false) (hlt : 8 < A0.tmps.size) : I7 A0 W q L D wide (on Dn 7) (a.put (some 8) (.pointer (some ⟨w.heap.size, 0, none⟩))) (w.alloc (.cells zz3 111)) w.heap.size b9 := by
  have hb : Below w.heap.size w (w.alloc (.cells zz3 111)) := (Below.refl _ _).alloc (Nat.le_refl _) _
  refine ⟨h.sl.put (by decide) hlt fun p hp => ?_, h.below.trans (hb.mono h.below.size), .made h.p8.not hD (by decide) (by rw [h.sl.size]; exact hlt) h.below.size, h.p9.keep (by decide) (by decide) hb (by decide), fun _ k9 => ?_⟩
  · simp only [V7, List.mem_cons, List.not_mem_nil, or_false] at hp
    rcases hp with rfl | rfl | rfl | rfl | rfl | rfl | rfl <;> exact .inr ⟨by simp, by simp⟩
  · rw [on_ne Dn (by decide)] at k9
    have := (h.p9.blk k9).lt
    omega
theorem I7.mk9 {A0 a : Act} {W w : World} {q L D b8 b9 : Nat} {wide : Bool} {Dn : Nat → Bool} (h : I7 A0 W q L D wide Dn a w b8 b9) (hD : Dn 8 = false) (hlt : 9 < A0.tmps.size) : I7 A0 W q L D wide (on Dn 8) (a.put (some 9) (.pointer (some ⟨w.heap.size, 0, none⟩))) (w.alloc (.cells zz3 111)) b8 w.heap.size := by
  have hb : Below w.heap.size w (w.alloc (.cells zz3 111)) := (Below.refl _ _).alloc (Nat.le_refl _) _
  refine ⟨h.sl.put (by decide) hlt fun p hp => ?_, h.below.trans (hb.mono h.below.size), h.p8.keep (by decide) (by decide) hb (by decide), .made h.p9.not hD (by decide) (by rw [h.sl.size]; exact hlt) h.below.size, fun k8 _ => ?_⟩
  · simp only [V7, List.mem_cons, List.not_mem_nil, or_false] at hp
    rcases hp with rfl | rfl | rfl | rfl | rfl | rfl | rfl <;> exact .inr ⟨by simp, by simp⟩
  · rw [on_ne Dn (by decide)] at k8
    have := (h.p8.blk k8).lt
    omega
theorem V7_no {q L D : Nat} {wide : Bool} {j : Nat} (hj : 7 ≤ j) : ∀ p ∈ V7 q L D wide, p.1 ≠ j := by
  intro p hp
  simp only [V7, List.mem_cons, List.not_mem_nil, or_false] at hp
  rcases hp with rfl | rfl | rfl | rfl | rfl | rfl | rfl <;> (simp only; omega)
theorem I7.st8 {A0 a : Act} {W w : World} {q L D b8 b9 : Nat} {wide : Bool} {Dn : Nat → Bool} {v : Value} (h : I7 A0 W q L D wide Dn a w b8 b9) (h7 : Dn 7 = true) : I7 A0 W q L D wide (on Dn 9) (a.put none v) (w.setRow b8 (pc (lp L wide))) b8 b9 :=
  ⟨h.sl.skip (V7_no (by decide)) v, below_row h.below (h.p8.base h7) _, h.p8.fill (by decide) h7, h.p9.far (by decide) (by decide) fun k => h.ne h7 k, fun k8 k9 => h.ne (by rwa [on_ne Dn (by decide)] at k8) (by rwa [on_ne Dn (by decide)] at k9)⟩
theorem I7.st9 {A0 a : Act} {W w : World} {q L D b8 b9 : Nat} {wide : Bool} {Dn : Nat → Bool} {v : Value} (h : I7 A0 W q L D wide Dn a w b8 b9) (h8 : Dn 8 = true) : I7 A0 W q L D wide (on Dn 10) (a.put none v) (w.setRow b9 (pc (dp D))) b8 b9 :=
  ⟨h.sl.skip (V7_no (by decide)) v, below_row h.below (h.p9.base h8) _, h.p8.far (by decide) (by decide) fun k => Ne.symm (h.ne k h8), h.p9.fill (by decide) h8, fun k8 k9 => h.ne (by rwa [on_ne Dn (by decide)] at k8) (by rwa [on_ne Dn (by decide)] at k9)⟩
theorem info_pce : (Tryz.prog.info? 111).map (·.size) = some 3 := by kernel_rfl
theorem ops_cases {P : Program} {ops : Array Oper} {Q : Exit → Act → World → Prop} {I : (Nat → Bool) → Act → World → Prop} (hg : (ops.all fun o => o.guard.isNone) = true)
    (h : ∀ j (hj : j < ops.size), ∀ D a w, I D a w → D j = false → (∀ k, (ops[j].after.toList.any fun e => Region.binds .any e && e.on == k) = true → D k = true) → ops[j].wp P a w (fun a' w' => I (on D j) a' w') Q) :
    ∀ j o, ops[j]? = some o → ∀ D a w, I D a w → D j = false → (∀ e ∈ o.after, Region.binds .any e = true → D e.on = true) → wpOp P ops Q j (fun a' w' => I (on D j) a' w') a w := by
  intro j o ho D a w hI hD hpre
  obtain ⟨hj, rfl⟩ := Array.getElem?_eq_some_iff.1 ho
  refine op_wp ho ?_ (h j hj D a w hI hD (pre_done hpre))
  have := (Array.all_eq_true_iff_forall_mem.1 hg) ops[j] (Array.getElem_mem hj)
  cases hgg : ops[j].guard with
  | none => rfl
  | some x => rw [hgg] at this; cases this
theorem act_named {P : Program} {c : Code} {Q : Exit → Act → World → Prop} {a : Act} {w : World} (h : ∀ A, A = a → c.wp P Q A w) : c.wp P Q a w := h a rfl
theorem xtr_le {wide : Bool} {f : Nat → Tok} : ∀ {n : Nat}, (∀ i, i < n → May wide (f i)) → xtr wide f n ≤ 30 * n
  | 0, _ => Nat.le_refl _
  | n + 1, h => by
    have ih := xtr_le (n := n) fun i hi => h i (by omega)
    rw [xtr]
    by_cases h0 : (f n).len = 0
    · rw [if_pos h0]; omega
    · rw [if_neg h0]
      obtain ⟨q1, q2, q3, q4, -⟩ := InfMath.mat_of (h n (by omega)) h0
      obtain ⟨l, -, -, -, -, -, a6⟩ := InfMath.lp_base (f n).len.toNat wide q1 q2
      obtain ⟨d, -, -, -, -, b5⟩ := InfMath.dp_far (f n).dist.toNat wide q3 q4
      omega
section
variable {B gt g1 g2 x : Nat} {w0 w w' : World} {F G F' G' : Nat → Nat}
theorem Tal.congr (h : Tal B w0 w gt g1 g2 F G x) (hF : ∀ j, j < 286 → F j = F' j) (hG : ∀ j, j < 32 → G j = G' j) {y : Nat} (hx : x = y) : Tal B w0 w gt g1 g2 F' G' y := by
  subst hx
  have e1 : cel 286 F = cel 286 F' := by
    unfold cel
    exact List.map_congr_left fun j hj => by rw [hF j (by simpa using hj)]
  have e2 : cel 32 G = cel 32 G' := by
    unfold cel
    exact List.map_congr_left fun j hj => by rw [hG j (by simpa using hj)]
  exact ⟨h.t, by rw [← e1]; exact h.l, by rw [← e2]; exact h.d, h.ne, h.bt, h.b1, h.b2, h.below⟩
theorem Tal.lit (h : Tal B w0 w gt g1 g2 F G x) (s v : Nat) : Tal B w0 (w.setCell ⟨g1, s, none⟩ (.int .i64 (v : Int))) gt g1 g2 (fun j => if j = s then v else F j) G x := by
  have hn1 : gt ≠ g1 := blk_ne h.t h.l (by decide)
  exact ⟨PkC.Blk.set_far h.t hn1 _ _, PkC.Blk.set_cel h.l s v, PkC.Blk.set_far h.d (Ne.symm h.ne) _ _, h.ne, h.bt, h.b1, h.b2, h.below.setCell (p := ⟨g1, s, none⟩) h.b1 _⟩
theorem Tal.dst (h : Tal B w0 w gt g1 g2 F G x) (s v : Nat) : Tal B w0 (w.setCell ⟨g2, s, none⟩ (.int .i64 (v : Int))) gt g1 g2 F (fun j => if j = s then v else G j) x := by
  have hn1 : gt ≠ g2 := blk_ne h.t h.d (by decide)
  exact ⟨PkC.Blk.set_far h.t hn1 _ _, PkC.Blk.set_far h.l h.ne _ _, PkC.Blk.set_cel h.d s v, h.ne, h.bt, h.b1, h.b2, h.below.setCell (p := ⟨g2, s, none⟩) h.b2 _⟩
theorem Tal.ext (h : Tal B w0 w gt g1 g2 F G x) (v : Nat) : Tal B w0 (w.setCell ⟨gt, 2, none⟩ (.int .i64 (v : Int))) gt g1 g2 F G v := by
  have hn1 : gt ≠ g1 := blk_ne h.t h.l (by decide)
  have hn2 : gt ≠ g2 := blk_ne h.t h.d (by decide)
  exact ⟨h.t.set_ 2 _, PkC.Blk.set_far h.l (Ne.symm hn1) _ _, PkC.Blk.set_far h.d (Ne.symm hn2) _ _, h.ne, h.bt, h.b1, h.b2, h.below.setCell (p := ⟨gt, 2, none⟩) h.bt _⟩
end
theorem lit_is {wide : Bool} {f : Nat → Tok} {k s : Nat} (hs : symL wide (f k) = s) : ∀ j, j < 286 → (if j = s then litc wide f k s + 1 else litc wide f k j) = litc wide f (k + 1) j := by
  intro j _
  rw [litc, hs]
  by_cases e : j = s
  · subst e; simp
  · rw [if_neg e, if_neg e]
theorem dst_is {f : Nat → Tok} {k s : Nat} (h0 : (f k).len ≠ 0) (hs : (dp (f k).dist.toNat).s = s) : ∀ j, j < 32 → (if j = s then dstc f k s + 1 else dstc f k j) = dstc f (k + 1) j := by
  intro j _
  rw [dstc, hs]
  by_cases e : j = s
  · subst e; rw [if_pos rfl, if_pos ⟨h0, rfl⟩]
  · rw [if_neg e, if_neg (fun h => e h.2)]
theorem dst_no {f : Nat → Tok} {k : Nat} (h0 : (f k).len = 0) : ∀ j, j < 32 → dstc f k j = dstc f (k + 1) j := by
  intro j _
  rw [dstc, if_neg (fun h => h.1 h0)]
set_option maxRecDepth 100000 in
set_option maxHeartbeats 8000000 in
theorem count_any (wide : Bool) (a : Option Addr) (len c : Nat) (f : Nat → Tok) (w : World) (h : TokIn w a len c f) (hM : ∀ i, i < len → May wide (f i)) (hn : len ≤ 1000000) :
    Calls Tryz.prog 35 #[.slice a len c, .bool wide] w (Counted w (lite wide f len) (dstc f len) (xtr wide f len)) := by
  have H := Lib.hid h
  have HM := Lib.hid hM
  clear h hM
  go_enter Tryz.func35, Tryz.ntmps35
  have hm1 := make_ints 286 (by omega)
  have hm2 := make_ints 32 (by omega)
  obtain ⟨Z1, hZ1⟩ : ∃ Z1, Z1 = (cel 286 fun _ => 0).toArray := ⟨_, rfl⟩
  obtain ⟨Z2, hZ2⟩ : ∃ Z2, Z2 = (cel 32 fun _ => 0).toArray := ⟨_, rfl⟩
  rw [← hZ1] at hm1
  rw [← hZ2] at hm2
  have hm1' : ∀ W : World, (Instr.makeSlice 67 (.int .i64 286) (.int .i64 286)).run Tryz.prog W = .ok (.slice (some ⟨W.heap.size, 0, none⟩) 286 286) (W.alloc (.cells Z1 3)) := hm1
  have hm2' : ∀ W : World, (Instr.makeSlice 67 (.int .i64 32) (.int .i64 32)).run Tryz.prog W = .ok (.slice (some ⟨W.heap.size, 0, none⟩) 32 32) (W.alloc (.cells Z2 3)) := hm2
  have HZ := Lib.hid (And.intro hZ1 hZ2)
  clear hm1 hm2 hZ1 hZ2
  obtain ⟨X, hX⟩ : ∃ X, X = w.alloc (.cells #[.slice none 0 0, .slice none 0 0, .int .i64 0] 69) := ⟨_, rfl⟩
  go_upto_region 1 with (fail)
  rw [← hX]
  have HBX : Hid (Blk X w.heap.size 69 #[.slice none 0 0, .slice none 0 0, .int .i64 0]) := Lib.hid (by rw [hX]; exact Blk.new w _ _)
  have HXB : Hid (Below w.heap.size w X) := Lib.hid (by rw [hX]; exact (Below.refl _ _).alloc (Nat.le_refl _) _)
  clear hX
  have hB : X.heap.size ≤ X.heap.size := Nat.le_refl _
  go_cut [5] (fun v wr => ∃ gt g1 g2, v = .pointer (some ⟨gt, 0, none⟩) ∧ Hid (Tal X.heap.size X wr gt g1 g2 (fun _ => 0) (fun _ => 0) 0))
  case first =>
    go_region
    all_goals
      go_wp2_with fail
      go_meet
      case rel =>
        first
          | exact ⟨_, _, _, rfl, Lib.hid (tal_zero HZ.out.1 HZ.out.2 (blk1 _ _ _ _ _) (blk2 _ _ _ _ _) (blk3 _ _ _ _ _) (by omega) (by omega) (by omega) (by omega) (below3 _ _ _ _))⟩
          | exact ⟨_, _, _, rfl, Lib.hid (tal_zero HZ.out.1 HZ.out.2 (blk1 _ _ _ _ _) (blk3 _ _ _ _ _) (blk2 _ _ _ _ _) (by omega) (by omega) (by omega) (by omega) (below3 _ _ _ _))⟩
          | exact ⟨_, _, _, rfl, Lib.hid (tal_zero HZ.out.1 HZ.out.2 (blk2 _ _ _ _ _) (blk1 _ _ _ _ _) (blk3 _ _ _ _ _) (by omega) (by omega) (by omega) (by omega) (below3 _ _ _ _))⟩
          | exact ⟨_, _, _, rfl, Lib.hid (tal_zero HZ.out.1 HZ.out.2 (blk2 _ _ _ _ _) (blk3 _ _ _ _ _) (blk1 _ _ _ _ _) (by omega) (by omega) (by omega) (by omega) (below3 _ _ _ _))⟩
          | exact ⟨_, _, _, rfl, Lib.hid (tal_zero HZ.out.1 HZ.out.2 (blk3 _ _ _ _ _) (blk1 _ _ _ _ _) (blk2 _ _ _ _ _) (by omega) (by omega) (by omega) (by omega) (below3 _ _ _ _))⟩
          | exact ⟨_, _, _, rfl, Lib.hid (tal_zero HZ.out.1 HZ.out.2 (blk3 _ _ _ _ _) (blk2 _ _ _ _ _) (blk1 _ _ _ _ _) (by omega) (by omega) (by omega) (by omega) (below3 _ _ _ _))⟩
  case rest =>
    obtain ⟨gt, g1, g2, rfl, HT⟩ := hcut
    clear hm1' hm2' hB
    have HTX := Lib.hid (H.out.below (Nat.le_refl _) HXB.out)
    have hlc := H.out.le_cap
    have hcm := H.out.cap_le
    go_wp2_with fail
    go_loopw [15] (fun iv wr => ∃ k : Nat, k ≤ len ∧ iv = .int .i64 (k : Int) ∧ Hid (Tal X.heap.size X wr gt g1 g2 (litc wide f k) (dstc f k) (xtr wide f k))) (fun iv _ => len - (intOf iv).toNat)
    case atStart => exact ⟨0, Nat.zero_le _, rfl, HT⟩
    case round =>
      clear HT HZ
      obtain ⟨k, hk, rfl, HT⟩ := hrel
      by_cases hlt : k < len
      · obtain ⟨b, off, rfl, ho⟩ := (HTX.out.below (Nat.le_refl _) HT.out.below).get hlt
        obtain ⟨c0, c1, c2, hbl, wf⟩ := ho
        have hmay := HM.out k hlt
        have hxe := xtr_le (n := k) fun i hi => HM.out i (by omega)
        obtain ⟨t, ht⟩ : ∃ t, t = f k := ⟨_, rfl⟩
        rw [← ht] at c0 c1 c2 wf hmay
        obtain ⟨W, hW⟩ : ∃ W, W = wr.alloc (.cells (tc t) 96) := ⟨_, rfl⟩
        have HBL : Hid (Blk W wr.heap.size 96 (tc t)) := Lib.hid (by rw [hW]; exact Blk.new wr _ _)
        have HTW : Hid (Tal X.heap.size X W gt g1 g2 (litc wide f k) (dstc f k) (xtr wide f k)) := Lib.hid (by rw [hW]; exact HT.out.later ((Below.refl _ _).alloc (Nat.le_refl _) _))
        have HWF := Lib.hid wf
        have HMY := Lib.hid hmay
        have HFT := Lib.hid ht
        have HXE := Lib.hid hxe
        unfold tc at hW
        clear HT wf hmay ht hxe
        go_upto_region 5 with (fail)
        rw [← hW]
        clear hW c0 c1 c2 hbl
        generalize wr.heap.size = q at *
        have x0 : W.cell? ⟨q, 0, none⟩ = some (.int .i64 t.len) := HBL.out.cell 0
        have x1 : W.cell? ⟨q, 1, none⟩ = some (.int .i64 t.dist) := HBL.out.cell 1
        have x2 : W.cell? ⟨q, 2, none⟩ = some (.int .u8 (t.byte.toNat : Int)) := HBL.out.cell 2
        by_cases h0 : t.len = 0
        · have hbt := t.byte.toNat_lt
          obtain ⟨A, hA⟩ : ∃ A : Nat, A = t.byte.toNat := ⟨_, rfl⟩
          rw [← hA] at x2 hbt
          have HS : Hid (symL wide (f k) = A ∧ (f k).len = 0) := Lib.hid (by rw [← HFT.out]; unfold symL; rw [if_pos h0]; exact ⟨hA.symm, h0⟩)
          have hA1 : (A : Int) < 286 := by omega
          have t0 : W.cell? ⟨gt, 0, none⟩ = some (.slice (some ⟨g1, 0, none⟩) 286 286) := HTW.out.t.cell 0
          have l0 : W.cell? ⟨g1, A, none⟩ = some (.int .i64 (litc wide f k A : Int)) := cel_cell HTW.out.l A (by omega)
          have f0 := HTW.out.l.frozen A
          have hle := InfMath.litc_le wide f k A
          obtain ⟨N, hN⟩ : ∃ N : Nat, N = litc wide f k A := ⟨_, rfl⟩
          rw [← hN] at l0 hle
          have HN := Lib.hid hN
          clear hA hN
          rw [h0] at x0
          go_wp2_with fail
          go_roundw
          case rel =>
            refine ⟨k + 1, by omega, by go_num, Lib.hid ?_⟩
            have h1 := (HTW.out.lit A (N + 1)).congr (F' := litc wide f (k + 1)) (G' := dstc f (k + 1)) (y := xtr wide f (k + 1)) (by rw [HN.out]; exact lit_is HS.out.1) (dst_no HS.out.2) (by rw [xtr, if_pos HS.out.2]; rfl)
            rw [Int.natCast_add] at h1
            exact h1
          case measure => simp [intOf]; omega
        · obtain ⟨q1, q2, q3, q4, e1, e2⟩ := InfMath.mat_of HMY.out h0
          obtain ⟨L, hL⟩ : ∃ L, L = t.len.toNat := ⟨_, rfl⟩
          obtain ⟨D, hD⟩ : ∃ D, D = t.dist.toNat := ⟨_, rfl⟩
          rw [← hL] at q1 q2 e1
          rw [← hD] at q3 q4 e2
          rw [← e1] at x0
          rw [← e2] at x1
          have hl0 : ((L : Int) == 0) = false := by simp; omega
          have hL6 : L ≤ 65538 := by cases wide <;> simp at q2 <;> omega
          have hD6 : D ≤ 65536 := by cases wide <;> simp at q4 <;> omega
          obtain ⟨lb, -, -, -, la5, la4, la6⟩ := InfMath.lp_base L wide q1 q2
          obtain ⟨db, -, -, -, db4, db5⟩ := InfMath.dp_far D wide q3 q4
          have hlast : InfMath.lastD wide ≤ 31 := by cases wide <;> decide
          have HSY : Hid (symL wide (f k) = (lp L wide).s ∧ (f k).len ≠ 0 ∧ (dp (f k).dist.toNat).s = (dp D).s ∧ xtr wide f (k + 1) = xtr wide f k + ((lp L wide).x + (dp D).x)) := Lib.hid (by
            rw [xtr, ← HFT.out, ← hD, if_neg h0, ← hL]
            unfold symL
            rw [if_neg h0, ← hL]
            exact ⟨rfl, h0, rfl, rfl⟩)
          have HLD := Lib.hid (And.intro q1 (And.intro hL6 (And.intro q3 (And.intro hD6 (And.intro la4 (And.intro la6 (And.intro (show (dp D).s ≤ 31 by omega) db5)))))))
          clear hL hD h0 e1 e2 q2 q4 q1 q3 la5 la4 la6 db4 db5 hlast
          go_upto_region 7 with (fail)
          go_cut [8, 9] (fun v8 v9 wr => ∃ b8 b9, v8 = .pointer (some ⟨b8, 0, none⟩) ∧ v9 = .pointer (some ⟨b9, 0, none⟩) ∧ Hid (Below W.heap.size W wr ∧ Blk wr b8 111 (pc (lp L wide)) ∧ Blk wr b9 111 (pc (dp D)) ∧ W.heap.size ≤ b8 ∧ W.heap.size ≤ b9))
          case first =>
            refine act_named fun A0 hA0 => ?_
            have hsz : A0.tmps.size = 70 := by rw [hA0]; rfl
            have e7 : A0.eval (.tmp 7) = .pointer (some ⟨q, 0, none⟩) := by rw [hA0]; rfl
            have e1 : A0.eval (.tmp 1) = .bool wide := by rw [hA0]; rfl
            have hqW : q < W.heap.size := HBL.out.lt
            refine wp_region_inv (fun Dn a w => ∃ b8 b9, I7 A0 W q L D wide Dn a w b8 b9) rfl (by kernel_rfl) ⟨0, 0, Slots.start 11 (V7_lt _ _ _ _), (Below.refl _ _).drew, ⟨fun _ => rfl, by simp [none_], by simp [none_], by simp [none_]⟩, ⟨fun _ => rfl, by simp [none_], by simp [none_], by simp [none_]⟩, by simp [none_]⟩ (ops_cases (by kernel_rfl) ?_) ?_
            · intro j hj Dn a w6 ⟨b8, b9, hI⟩ hD pre
              have hv : ∀ (j : Nat) (d : Tmp) (v : Value), (∀ p ∈ V7 q L D wide, (p.1 = j ∧ p.2.1 = d ∧ p.2.2 = v) ∨ (p.1 ≠ j ∧ p.2.1 ≠ d)) → True := fun _ _ _ _ => trivial
              have hBQ := hI.below
              have hcl : w6.cell? ⟨q, 0, none⟩ = some (.int .i64 (L : Int)) := (hBQ.cell (p := ⟨q, 0, none⟩) hqW).trans x0
              have hcd : w6.cell? ⟨q, 1, none⟩ = some (.int .i64 (D : Int)) := (hBQ.cell (p := ⟨q, 1, none⟩) hqW).trans x1
              have e7' : a.eval (.tmp 7) = .pointer (some ⟨q, 0, none⟩) := (hI.sl.keep 7 (by decide)).trans e7
              have e1' : a.eval (.tmp 1) = .bool wide := (hI.sl.keep 1 (by decide)).trans e1
              obtain ⟨l1, l2, l3, l4, -⟩ := HLD.out
              rcases (by have : j < 11 := hj; omega : j = 0 ∨ j = 1 ∨ j = 2 ∨ j = 3 ∨ j = 4 ∨ j = 5 ∨ j = 6 ∨ j = 7 ∨ j = 8 ∨ j = 9 ∨ j = 10) with rfl | rfl | rfl | rfl | rfl | rfl | rfl | rfl | rfl | rfl | rfl
              · exact wp_value (d := some 30) rfl (x_field (.tmp 7) 0 (by decide) rfl e7') ⟨b8, b9, hI.val (by decide) (by decide) (by decide) (by decide) (by rw [hsz]; decide) (V7_at _ _ _ _ _ (.inl rfl)) (Below.refl _ _)⟩
              · exact wp_value (d := some 31) rfl (x_loadi (.tmp 30) rfl (hI.sl.get (j := 0) (by simp [V7]) (pre 0 rfl)) hcl) ⟨b8, b9, hI.val (by decide) (by decide) (by decide) (by decide) (by rw [hsz]; decide) (V7_at _ _ _ _ _ (.inr (.inl rfl))) (Below.refl _ _)⟩
              · exact wp_value (d := some 32) rfl (x_move (.tmp 1) rfl e1') ⟨b8, b9, hI.val (by decide) (by decide) (by decide) (by decide) (by rw [hsz]; decide) (V7_at _ _ _ _ _ (.inr (.inr (.inl rfl)))) (Below.refl _ _)⟩
              · refine wp_enter (d := some 33) rfl (x_len rfl (hI.sl.get (j := 1) (by simp [V7]) (pre 1 rfl)) (hI.sl.get (j := 2) (by simp [V7]) (pre 2 rfl))) (length_any L wide w6 l1 l2) ?_
                rintro e w9 ⟨rfl, hb9⟩
                exact ⟨_, rfl, b8, b9, hI.val (by decide) (by decide) (by decide) (by decide) (by rw [hsz]; decide) (V7_at _ _ _ _ _ (.inr (.inr (.inr (.inl rfl))))) hb9⟩
              · exact wp_value (d := some 34) rfl (x_field (.tmp 7) 1 (by decide) rfl e7') ⟨b8, b9, hI.val (by decide) (by decide) (by decide) (by decide) (by rw [hsz]; decide) (V7_at _ _ _ _ _ (.inr (.inr (.inr (.inr (.inl rfl)))))) (Below.refl _ _)⟩
              · exact wp_value (d := some 35) rfl (x_loadi (.tmp 34) rfl (hI.sl.get (j := 4) (by simp [V7]) (pre 4 rfl)) hcd) ⟨b8, b9, hI.val (by decide) (by decide) (by decide) (by decide) (by rw [hsz]; decide) (V7_at _ _ _ _ _ (.inr (.inr (.inr (.inr (.inr (.inl rfl))))))) (Below.refl _ _)⟩
              · refine wp_enter (d := some 36) rfl (x_dst rfl (hI.sl.get (j := 5) (by simp [V7]) (pre 5 rfl))) (distance_any D w6 l3 l4) ?_
                rintro e w9 ⟨rfl, hb9⟩
                exact ⟨_, rfl, b8, b9, hI.val (by decide) (by decide) (by decide) (by decide) (by rw [hsz]; decide) (V7_at _ _ _ _ _ (.inr (.inr (.inr (.inr (.inr (.inr rfl))))))) hb9⟩
              · exact wp_piece rfl rfl ⟨_, b9, hI.mk8 hD (by rw [hsz]; decide)⟩
              · exact wp_piece rfl rfl ⟨b8, _, hI.mk9 hD (by rw [hsz]; decide)⟩
              · have h7 := pre 7 rfl
                have hbk := hI.p8.blk h7
                rw [hD] at hbk
                exact wp_store_row 111 (.tmp 8) (.tmp 33) rfl b8 (pc (lp L wide)) (hI.p8.slot h7) (hI.sl.get (j := 3) (by simp [V7]) (pre 3 rfl)) 111 zz3 hbk info_pce rfl (pc_one _) ⟨b8, b9, hI.st8 h7⟩
              · have h8 := pre 8 rfl
                have hbk := hI.p9.blk h8
                rw [hD] at hbk
                exact wp_store_row 111 (.tmp 9) (.tmp 36) rfl b9 (pc (dp D)) (hI.p9.slot h8) (hI.sl.get (j := 6) (by simp [V7]) (pre 6 rfl)) 111 zz3 hbk info_pce rfl (pc_one _) ⟨b8, b9, hI.st9 h8⟩
            · intro a w6 ⟨b8, b9, hI⟩
              rename_i J K1 hJ hK
              obtain ⟨vs, hvs, ea⟩ := hI.sl.eq (by rw [hsz]; decide)
              have s8 := (hvs 8).trans (hI.p8.slot rfl)
              have s9 := (hvs 9).trans (hI.p9.slot rfl)
              have HR : Hid (Below W.heap.size W w6 ∧ Blk w6 b8 111 (pc (lp L wide)) ∧ Blk w6 b9 111 (pc (dp D)) ∧ W.heap.size ≤ b8 ∧ W.heap.size ≤ b9) := Lib.hid ⟨hI.below, hI.p8.blk rfl, hI.p9.blk rfl, hI.p8.base rfl, hI.p9.base rfl⟩
              rw [hA0] at ea
              simp only [L7, List.foldl_cons, List.foldl_nil, put_lit, List.set_cons_succ, List.set_cons_zero] at ea
              rw [s8, s9] at ea
              clear hvs hI hA0 hsz e7 e1 s8 s9
              subst ea
              refine hK _ _ ?_
              go_meet
              case rel => exact ⟨_, _, rfl, rfl, HR⟩
          case rest =>
            obtain ⟨b8, b9, rfl, rfl, HR⟩ := hcut
            clear x0 x1 x2 hl0
            obtain ⟨A, LX, LV, hA⟩ : ∃ A LX LV, lp L wide = ⟨A, LX, LV⟩ := ⟨_, _, _, rfl⟩
            obtain ⟨B, DX, DV, hB⟩ : ∃ B DX DV, dp D = ⟨B, DX, DV⟩ := ⟨_, _, _, rfl⟩
            have HNB : Hid (A ≤ 285 ∧ LX ≤ 16 ∧ B ≤ 31 ∧ DX ≤ 14) := Lib.hid (by
              have h := HLD.out
              rw [hA, hB] at h
              exact ⟨h.2.2.2.2.1, h.2.2.2.2.2.1, h.2.2.2.2.2.2.1, h.2.2.2.2.2.2.2⟩)
            have HS : Hid (symL wide (f k) = A ∧ (f k).len ≠ 0 ∧ (dp (f k).dist.toNat).s = B ∧ xtr wide f (k + 1) = xtr wide f k + (LX + DX)) := Lib.hid (by
              have h := HSY.out
              rw [hA, hB] at h
              exact h)
            have HP8 : Hid (Blk wc b8 111 (pc ⟨A, LX, LV⟩)) := Lib.hid (by rw [← hA]; exact HR.out.2.1)
            have HP9 : Hid (Blk wc b9 111 (pc ⟨B, DX, DV⟩)) := Lib.hid (by rw [← hB]; exact HR.out.2.2.1)
            have r0 : wc.cell? ⟨b8, 0, none⟩ = some (.int .i64 (A : Int)) := HP8.out.cell 0
            have HTC := Lib.hid (HTW.out.later HR.out.1)
            have HB8 : Hid (W.heap.size ≤ b8 ∧ W.heap.size ≤ b9) := Lib.hid HR.out.2.2.2
            have HBC : Hid (∀ b, b < W.heap.size → b ≠ b8 ∧ b ≠ b9) := Lib.hid fun b hb => by have := HB8.out; omega
            have n1 : g1 ≠ b8 ∧ g1 ≠ b9 := HBC.out g1 HTW.out.l.lt
            have n2 : g2 ≠ b8 ∧ g2 ≠ b9 := HBC.out g2 HTW.out.d.lt
            have n3 : gt ≠ b8 ∧ gt ≠ b9 := HBC.out gt HTW.out.t.lt
            have hA1 : (A : Int) < 286 := by have := HNB.out; omega
            have hB1 : (B : Int) < 32 := by have := HNB.out; omega
            have hle1 := InfMath.litc_le wide f k A
            have hle2 := InfMath.dstc_le f k B
            obtain ⟨N, hN⟩ : ∃ N : Nat, N = litc wide f k A := ⟨_, rfl⟩
            obtain ⟨M, hM⟩ : ∃ M : Nat, M = dstc f k B := ⟨_, rfl⟩
            obtain ⟨E, hE⟩ : ∃ E : Nat, E = xtr wide f k := ⟨_, rfl⟩
            have t0 : wc.cell? ⟨gt, 0, none⟩ = some (.slice (some ⟨g1, 0, none⟩) 286 286) := HTC.out.t.cell 0
            have l0 : wc.cell? ⟨g1, A, none⟩ = some (.int .i64 (N : Int)) := by rw [hN]; exact cel_cell HTC.out.l A (by omega)
            have f0 := HTC.out.l.frozen A
            rw [← hN] at hle1
            rw [← hM] at hle2
            have HXb := HXE.out
            rw [← hE] at HXb
            have HN := Lib.hid (And.intro hN (And.intro hM hE))
            clear hN hM hE hA hB HLD HSY HFT
            go_upto_region 9 with (fail)
            obtain ⟨Y, hY⟩ : ∃ Y, Y = wc.setCell ⟨g1, A, none⟩ (.int .i64 ((N : Int) + 1)) := ⟨_, rfl⟩
            rw [← hY]
            have HTY : Hid (Tal X.heap.size X Y gt g1 g2 (fun j => if j = A then N + 1 else litc wide f k j) (dstc f k) E) := Lib.hid (by
              have h1 := HTC.out.lit A (N + 1)
              rw [Int.natCast_add, ← HN.out.2.2] at h1
              rw [hY]
              exact h1)
            have HQ8 : Hid (Blk Y b8 111 (pc ⟨A, LX, LV⟩)) := Lib.hid (by rw [hY]; exact PkC.Blk.set_far HP8.out (Ne.symm n1.1) _ _)
            have HQ9 : Hid (Blk Y b9 111 (pc ⟨B, DX, DV⟩)) := Lib.hid (by rw [hY]; exact PkC.Blk.set_far HP9.out (Ne.symm n1.2) _ _)
            clear hY t0 l0 f0 r0 HTC HP8 HP9 HR
            have t1 : Y.cell? ⟨gt, 1, none⟩ = some (.slice (some ⟨g2, 0, none⟩) 32 32) := HTY.out.t.cell 1
            have l1 : Y.cell? ⟨g2, B, none⟩ = some (.int .i64 (M : Int)) := by rw [HN.out.2.1]; exact cel_cell HTY.out.d B (by omega)
            have r2 : Y.cell? ⟨b9, 0, none⟩ = some (.int .i64 (B : Int)) := HQ9.out.cell 0
            have f1 := HTY.out.d.frozen B
            go_upto_region 10 with (fail)
            obtain ⟨Z, hZ⟩ : ∃ Z, Z = Y.setCell ⟨g2, B, none⟩ (.int .i64 ((M : Int) + 1)) := ⟨_, rfl⟩
            rw [← hZ]
            have HTZ : Hid (Tal X.heap.size X Z gt g1 g2 (fun j => if j = A then N + 1 else litc wide f k j) (fun j => if j = B then M + 1 else dstc f k j) E) := Lib.hid (by
              have h1 := HTY.out.dst B (M + 1)
              rw [Int.natCast_add] at h1
              rw [hZ]
              exact h1)
            have HR8 : Hid (Blk Z b8 111 (pc ⟨A, LX, LV⟩)) := Lib.hid (by rw [hZ]; exact PkC.Blk.set_far HQ8.out (Ne.symm n2.1) _ _)
            have HR9 : Hid (Blk Z b9 111 (pc ⟨B, DX, DV⟩)) := Lib.hid (by rw [hZ]; exact PkC.Blk.set_far HQ9.out (Ne.symm n2.2) _ _)
            clear hZ t1 l1 f1 r2 HTY HQ8 HQ9
            have t2 : Z.cell? ⟨gt, 2, none⟩ = some (.int .i64 (E : Int)) := HTZ.out.t.cell 2
            have f2 := HTZ.out.t.frozen 2
            have r1 : Z.cell? ⟨b8, 1, none⟩ = some (.int .i64 (LX : Int)) := HR8.out.cell 1
            have r3 : Z.cell? ⟨b9, 1, none⟩ = some (.int .i64 (DX : Int)) := HR9.out.cell 1
            have hq1 : LX ≤ 16 := HNB.out.2.1
            have hq2 : DX ≤ 14 := HNB.out.2.2.2
            go_wp2_with fail
            go_roundw
            case rel =>
              refine ⟨k + 1, by omega, by go_num, Lib.hid ?_⟩
              have h1 := (HTZ.out.ext (E + (LX + DX))).congr (F' := litc wide f (k + 1)) (G' := dstc f (k + 1)) (y := xtr wide f (k + 1)) (by rw [HN.out.1]; exact lit_is HS.out.1) (by rw [HN.out.2.1]; exact dst_is HS.out.2.1 HS.out.2.2.1) (by rw [HS.out.2.2.2, HN.out.2.2])
              rw [Int.natCast_add, Int.natCast_add] at h1
              exact h1
            case measure => simp [intOf]; omega
      · obtain rfl : k = len := by omega
        have t0 : wr.cell? ⟨gt, 0, none⟩ = some (.slice (some ⟨g1, 0, none⟩) 286 286) := HT.out.t.cell 0
        have l0 : wr.cell? ⟨g1, 256, none⟩ = some (.int .i64 (litc wide f k 256 : Int)) := cel_cell HT.out.l 256 (by omega)
        have f0 := HT.out.l.frozen 256
        have hle := InfMath.litc_le wide f k 256
        obtain ⟨N, hN⟩ : ∃ N : Nat, N = litc wide f k 256 := ⟨_, rfl⟩
        rw [← hN] at l0 hle
        have HN := Lib.hid hN
        clear hN
        go_upto_region 13 with (fail)
        obtain ⟨Z, hZ⟩ : ∃ Z, Z = wr.setCell ⟨g1, 256, none⟩ (.int .i64 ((N + 1 : Nat) : Int)) := ⟨_, rfl⟩
        have hZ' : Z = wr.setCell ⟨g1, 256, none⟩ (.int .i64 ((N : Int) + 1)) := hZ
        rw [← hZ']
        have HFin := Lib.hid (tal_end HT.out HBX.out (v := N + 1) hZ)
        clear hZ hZ' t0 l0 f0 HT HBX
        have t0 : Z.cell? ⟨gt, 0, none⟩ = some (.slice (some ⟨g1, 0, none⟩) 286 286) := HFin.out.1.t.cell 0
        have t1 : Z.cell? ⟨gt, 1, none⟩ = some (.slice (some ⟨g2, 0, none⟩) 32 32) := HFin.out.1.t.cell 1
        have t2 : Z.cell? ⟨gt, 2, none⟩ = some (.int .i64 (xtr wide f k : Int)) := HFin.out.1.t.cell 2
        have r0 : Z.cell? ⟨w.heap.size, 0, none⟩ = some (.slice none 0 0) := HFin.out.2.1.cell 0
        have r1 : Z.cell? ⟨w.heap.size, 1, none⟩ = some (.slice none 0 0) := HFin.out.2.1.cell 1
        have r2 : Z.cell? ⟨w.heap.size, 2, none⟩ = some (.int .i64 0) := HFin.out.2.1.cell 2
        have f0 := HFin.out.2.1.frozen 0
        have f1 := HFin.out.2.1.frozen 1
        have f2 := HFin.out.2.1.frozen 2
        go_wp2_with fail
        have HB3 := ((HFin.out.2.1.set_ 0 (.slice (some ⟨g1, 0, none⟩) 286 286)).set_ 1 (.slice (some ⟨g2, 0, none⟩) 32 32)).set_ 2 (.int .i64 (xtr wide f k : Int))
        refine tal_ret rfl rfl HB3 rfl (counted_of HFin.out.1 HXB.out HFin.out.2.2 (fun j _ => ?_) _ _ _)
        unfold lite
        by_cases hj : j = 256
        · subst hj; rw [if_pos rfl, if_pos rfl, HN.out]
        · rw [if_neg hj, if_neg hj]
end Go.Proofs.YtbjjkhlebdaoaaaGreatDoor.BlkC
end
