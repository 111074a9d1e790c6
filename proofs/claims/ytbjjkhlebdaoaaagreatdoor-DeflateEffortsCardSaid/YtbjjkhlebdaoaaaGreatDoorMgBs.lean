import Derived.Test.YtbjjkhlebdaoaaaGreatDoorMgBh
import Derived.Test.YtbjjkhlebdaoaaaGreatDoorMgBv
import Derived.Test.YtbjjkhlebdaoaaaGreatDoorMgBc
import Derived.Test.YtbjjkhlebdaoaaaGreatDoorMgBa

section
/-
  Write's region of two codes: made in any order.
-/
namespace Go.Proofs.YtbjjkhlebdaoaaaGreatDoor.BlkC
open Go.RowKit Go.My BitMath CanMath TabMath
open PkC (cel lv Best)
open InfMath (CodeOk fixL fixD)

theorem Slots.alter {A0 a : Act} {L : List Tmp} {V V' : List (Nat × Tmp × Value)} {D : Nat → Bool} (h : Slots A0 L V D a) (k : ∀ p ∈ V', D p.1 = true → p ∈ V) : Slots A0 L V' D a :=
  ⟨h.defers, h.size, h.keep, fun p hp hD => h.val p (k p hp hD) hD⟩
/-- The fixed codes, at hand. -/
def CF (B : Nat) (w : World) (u : Array Value) : Prop :=
  ∃ a1 c1 b1 a2 c2 b2, u = #[.slice a1 288 c1, .slice (some ⟨b1, 0, none⟩) 288 288, .slice a2 32 c2, .slice (some ⟨b2, 0, none⟩) 32 32] ∧ CodeIn B w a1 (some ⟨b1, 0, none⟩) 288 c1 288 fixL ∧ CodeIn B w a2 (some ⟨b2, 0, none⟩) 32 c2 32 fixD
/-- Codes of one's own, at hand. -/
def CO (F G : Nat → Nat) (B : Nat) (w : World) (u : Array Value) : Prop :=
  ∃ a1 c1 b1 k1 L a2 c2 b2 k2 D, u = #[.slice a1 k1 c1, .slice (some ⟨b1, 0, none⟩) k1 286, .slice a2 k2 c2, .slice (some ⟨b2, 0, none⟩) k2 32] ∧ Trim L k1 ∧ Trim D k2 ∧ Best ((List.range 286).map F) L 15 ∧ Best ((List.range 32).map G) D 15 ∧
    CodeIn B w a1 (some ⟨b1, 0, none⟩) k1 c1 286 (L.take k1) ∧ CodeIn B w a2 (some ⟨b2, 0, none⟩) k2 c2 32 (D.take k2)
def Sl4 (cs : Array Value) : Prop := cs.size = 4 ∧ cs.all (·.oneCell') = true ∧ ∀ (i : Nat) u, cs[i]? = some u → ∃ p m c, u = Value.slice p m c
theorem sl4_of {p1 p2 p3 p4 : Option Addr} {m1 m2 m3 m4 c1 c2 c3 c4 : Nat} : Sl4 #[Value.slice p1 m1 c1, .slice p2 m2 c2, .slice p3 m3 c3, .slice p4 m4 c4] := ⟨rfl, by simp [Value.oneCell'], slices4⟩
theorem CF.sl {B : Nat} {w : World} {u : Array Value} (h : CF B w u) : Sl4 u := by obtain ⟨a1, c1, b1, a2, c2, b2, rfl, -⟩ := h; exact sl4_of
theorem CO.sl {F G : Nat → Nat} {B : Nat} {w : World} {u : Array Value} (h : CO F G B w u) : Sl4 u := by obtain ⟨a1, c1, b1, k1, L, a2, c2, b2, k2, D, rfl, -⟩ := h; exact sl4_of
theorem CodeIn.rowoff {B g : Nat} {w : World} {a b : Option Addr} {n c1 c2 : Nat} {ls : List Nat} {t : TypeId} {old cs : Array Value} (h : CodeIn B w a b n c1 c2 ls) (hn : 1 ≤ n) (hg : Blk w g t old) (ho : Sl4 old) : CodeIn B (w.setRow g cs) a b n c1 c2 ls :=
  h.off (only_row w g cs) (cells_ne h.lens (by omega) hg (lv_ints _) ho.2.2) (cells_ne h.words (by omega) hg (words_ints _) ho.2.2)
theorem CF.below {B : Nat} {w w' : World} {u : Array Value} (h : CF B w u) (hb : Below w.heap.size w w') : CF B w' u := by
  obtain ⟨a1, c1, b1, a2, c2, b2, e, h1, h2⟩ := h
  exact ⟨a1, c1, b1, a2, c2, b2, e, h1.below hb, h2.below hb⟩
theorem CF.row {B g : Nat} {w : World} {u : Array Value} {t : TypeId} {old cs : Array Value} (h : CF B w u) (hg : Blk w g t old) (ho : Sl4 old) : CF B (w.setRow g cs) u := by
  obtain ⟨a1, c1, b1, a2, c2, b2, e, h1, h2⟩ := h
  exact ⟨a1, c1, b1, a2, c2, b2, e, h1.rowoff (by omega) hg ho, h2.rowoff (by omega) hg ho⟩
theorem CO.below {F G : Nat → Nat} {B : Nat} {w w' : World} {u : Array Value} (h : CO F G B w u) (hb : Below w.heap.size w w') : CO F G B w' u := by
  obtain ⟨a1, c1, b1, k1, L, a2, c2, b2, k2, D, e, t1, t2, p1, p2, h1, h2⟩ := h
  exact ⟨a1, c1, b1, k1, L, a2, c2, b2, k2, D, e, t1, t2, p1, p2, h1.below hb, h2.below hb⟩
theorem CO.row {F G : Nat → Nat} {B g : Nat} {w : World} {u : Array Value} {t : TypeId} {old cs : Array Value} (h : CO F G B w u) (hg : Blk w g t old) (ho : Sl4 old) : CO F G B (w.setRow g cs) u := by
  obtain ⟨a1, c1, b1, k1, L, a2, c2, b2, k2, D, e, t1, t2, p1, p2, h1, h2⟩ := h
  exact ⟨a1, c1, b1, k1, L, a2, c2, b2, k2, D, e, t1, t2, p1, p2, h1.rowoff t1.one hg ho, h2.rowoff t2.one hg ho⟩
/-- A box: made, then filled. -/
structure Mk (t : TypeId) (zz full : Array Value) (W : World) (Dn : Nat → Bool) (m s : Nat) (d : Tmp) (a : Act) (w : World) (b : Nat) : Prop where
  not : Dn m = false → Dn s = false
  slot : Dn m = true → a.eval (.tmp d) = .pointer (some ⟨b, 0, none⟩)
  base : Dn m = true → W.heap.size ≤ b
  blk : Dn m = true → Blk w b t (if Dn s then full else zz)
section
variable {t : TypeId} {zz full full' : Array Value} {W w w' : World} {Dn : Nat → Bool} {m s j b : Nat} {d e : Tmp} {a : Act} {v : Value}
theorem Mk.keep (h : Mk t zz full W Dn m s d a w b) (hm : m ≠ j) (hs : s ≠ j) (hb : Below w.heap.size w w') (hd : e ≠ d) : Mk t zz full W (on Dn j) m s d (a.put (some e) v) w' b :=
  ⟨fun k => by rw [on_ne Dn hm] at k; rw [on_ne Dn hs]; exact h.not k, fun k => by rw [on_ne Dn hm] at k; rw [eval_put_ne hd]; exact h.slot k, fun k => by rw [on_ne Dn hm] at k; exact h.base k,
   fun k => by rw [on_ne Dn hm] at k; rw [on_ne Dn hs]; exact Blk.later (h.blk k) hb⟩
theorem Mk.alter (h : Mk t zz full W Dn m s d a w b) (hs : Dn s = false) : Mk t zz full' W Dn m s d a w b :=
  ⟨h.not, h.slot, h.base, fun k => by have := h.blk k; rw [hs] at this ⊢; exact this⟩
theorem Mk.far {c : Nat} {cs : Array Value} (h : Mk t zz full W Dn m s d a w b) (hm : m ≠ j) (hs : s ≠ j) (hc : Dn m = true → c ≠ b) : Mk t zz full W (on Dn j) m s d (a.put none v) (w.setRow c cs) b :=
  ⟨fun k => by rw [on_ne Dn hm] at k; rw [on_ne Dn hs]; exact h.not k, fun k => by rw [on_ne Dn hm] at k; exact h.slot k, fun k => by rw [on_ne Dn hm] at k; exact h.base k,
   fun k => by rw [on_ne Dn hm] at k; rw [on_ne Dn hs]; exact Blk.rowfar (h.blk k) (hc k)⟩
theorem Mk.made (hn : Dn m = false → Dn s = false) (h0 : Dn m = false) (hms : s ≠ m) (hd : d < a.tmps.size) (hW : W.heap.size ≤ w.heap.size) : Mk t zz full W (on Dn m) m s d (a.put (some d) (.pointer (some ⟨w.heap.size, 0, none⟩))) (w.alloc (.cells zz t)) w.heap.size := by
  refine ⟨fun k => (by rw [on_self] at k; cases k), fun _ => eval_put_self hd, fun _ => hW, fun _ => ?_⟩
  rw [on_ne Dn hms, hn h0]
  exact Blk.new w _ _
theorem Mk.fill (h : Mk t zz full W Dn m s d a w b) (hms : s ≠ m) (h1 : Dn m = true) : Mk t zz full W (on Dn s) m s d (a.put none v) (w.setRow b full) b :=
  ⟨fun k => (by rw [on_ne Dn (Ne.symm hms)] at k; rw [h1] at k; cases k), fun _ => h.slot h1, fun _ => h.base h1, fun _ => by rw [on_self]; exact (h.blk h1).row _⟩
end
def zz4 : Array Value := #[.slice none 0 0, .slice none 0 0, .slice none 0 0, .slice none 0 0]
def V4 (u v tl : Array Value) : List (Nat × Tmp × Value) := [(0, 29, .agg u), (1, 30, .agg tl), (2, 31, .agg v)]
def L4 : List Tmp := [10, 11, 29, 30, 31]
structure I4 (F G : Nat → Nat) (B0 : Nat) (A0 : Act) (W : World) (tl : Array Value) (Dn : Nat → Bool) (a : Act) (w : World) (u v : Array Value) (b10 b11 : Nat) : Prop where
  sl : Slots A0 L4 (V4 u v tl) Dn a
  bel : Below W.heap.size W w
  f : Dn 0 = true → CF B0 w u
  o : Dn 2 = true → CO F G B0 w v
  p10 : Mk 75 zz4 u W Dn 3 5 10 a w b10
  p11 : Mk 75 zz4 v W Dn 4 6 11 a w b11
  ne : Dn 3 = true → Dn 4 = true → b10 ≠ b11
  n5 : Dn 0 = false → Dn 5 = false
  n6 : Dn 2 = false → Dn 6 = false
section
variable {F G : Nat → Nat} {B0 : Nat} {A0 a : Act} {W w w' : World} {tl u v u' v' : Array Value} {Dn : Nat → Bool} {b10 b11 : Nat} {x : Value}
theorem I4.fix (h : I4 F G B0 A0 W tl Dn a w u v b10 b11) (h0 : Dn 0 = false) (hlt : 29 < A0.tmps.size) (hb : Below w.heap.size w w') (hf : CF B0 w' u') : I4 F G B0 A0 W tl (on Dn 0) (a.put (some 29) (.agg u')) w' u' v b10 b11 := by
  have hs := Slots.alter (V' := V4 u' v tl) h.sl fun p hp hD => by
    simp only [V4, List.mem_cons, List.not_mem_nil, or_false] at hp ⊢
    rcases hp with rfl | rfl | rfl
    · simp only at hD; rw [h0] at hD; cases hD
    · exact .inr (.inl rfl)
    · exact .inr (.inr rfl)
  refine ⟨hs.put (by decide) hlt fun p hp => ?_, h.bel.trans (hb.mono h.bel.size), fun _ => hf, fun k => (h.o (by rwa [on_ne Dn (by decide)] at k)).below hb, (h.p10.alter (h.n5 h0)).keep (by decide) (by decide) hb (by decide), h.p11.keep (by decide) (by decide) hb (by decide),
    fun k1 k2 => h.ne (by rwa [on_ne Dn (by decide)] at k1) (by rwa [on_ne Dn (by decide)] at k2), fun k => (by rw [on_self] at k; cases k), fun k => by rw [on_ne Dn (by decide)] at k ⊢; exact h.n6 k⟩
  simp only [V4, List.mem_cons, List.not_mem_nil, or_false] at hp
  rcases hp with rfl | rfl | rfl <;> first | exact .inl ⟨rfl, rfl, rfl⟩ | exact .inr ⟨by simp, by simp⟩
theorem I4.tal (h : I4 F G B0 A0 W tl Dn a w u v b10 b11) (hlt : 30 < A0.tmps.size) : I4 F G B0 A0 W tl (on Dn 1) (a.put (some 30) (.agg tl)) w u v b10 b11 := by
  refine ⟨h.sl.put (by decide) hlt fun p hp => ?_, h.bel, fun k => h.f (by rwa [on_ne Dn (by decide)] at k), fun k => h.o (by rwa [on_ne Dn (by decide)] at k), h.p10.keep (by decide) (by decide) (Below.refl _ _) (by decide), h.p11.keep (by decide) (by decide) (Below.refl _ _) (by decide),
    fun k1 k2 => h.ne (by rwa [on_ne Dn (by decide)] at k1) (by rwa [on_ne Dn (by decide)] at k2), fun k => by rw [on_ne Dn (by decide)] at k ⊢; exact h.n5 k, fun k => by rw [on_ne Dn (by decide)] at k ⊢; exact h.n6 k⟩
  simp only [V4, List.mem_cons, List.not_mem_nil, or_false] at hp
  rcases hp with rfl | rfl | rfl <;> first | exact .inl ⟨rfl, rfl, rfl⟩ | exact .inr ⟨by simp, by simp⟩
theorem I4.own (h : I4 F G B0 A0 W tl Dn a w u v b10 b11) (h0 : Dn 2 = false) (hlt : 31 < A0.tmps.size) (hb : Below w.heap.size w w') (hf : CO F G B0 w' v') : I4 F G B0 A0 W tl (on Dn 2) (a.put (some 31) (.agg v')) w' u v' b10 b11 := by
  have hs := Slots.alter (V' := V4 u v' tl) h.sl fun p hp hD => by
    simp only [V4, List.mem_cons, List.not_mem_nil, or_false] at hp ⊢
    rcases hp with rfl | rfl | rfl
    · exact .inl rfl
    · exact .inr (.inl rfl)
    · simp only at hD; rw [h0] at hD; cases hD
  refine ⟨hs.put (by decide) hlt fun p hp => ?_, h.bel.trans (hb.mono h.bel.size), fun k => (h.f (by rwa [on_ne Dn (by decide)] at k)).below hb, fun _ => hf, h.p10.keep (by decide) (by decide) hb (by decide), (h.p11.alter (h.n6 h0)).keep (by decide) (by decide) hb (by decide),
    fun k1 k2 => h.ne (by rwa [on_ne Dn (by decide)] at k1) (by rwa [on_ne Dn (by decide)] at k2), fun k => by rw [on_ne Dn (by decide)] at k ⊢; exact h.n5 k, fun k => (by rw [on_self] at k; cases k)⟩
  simp only [V4, List.mem_cons, List.not_mem_nil, or_false] at hp
  rcases hp with rfl | rfl | rfl <;> first | exact .inl ⟨rfl, rfl, rfl⟩ | exact .inr ⟨by simp, by simp⟩
theorem V4_no {j : Nat} (hj : 3 ≤ j) : ∀ p ∈ V4 u v tl, p.1 ≠ j := by
  intro p hp
  simp only [V4, List.mem_cons, List.not_mem_nil, or_false] at hp
  rcases hp with rfl | rfl | rfl <;> (simp only; omega)
theorem V4_put {j : Nat} {d : Tmp} (hj : 3 ≤ j) (hd : d = 10 ∨ d = 11) : ∀ p ∈ V4 u v tl, (p.1 = j ∧ p.2.1 = d ∧ p.2.2 = x) ∨ (p.1 ≠ j ∧ p.2.1 ≠ d) := by
  intro p hp
  right
  simp only [V4, List.mem_cons, List.not_mem_nil, or_false] at hp
  rcases hp with rfl | rfl | rfl <;> rcases hd with rfl | rfl <;> exact ⟨by simp only; omega, by simp⟩
theorem I4.mk10 (h : I4 F G B0 A0 W tl Dn a w u v b10 b11) (h0 : Dn 3 = false) (hlt : 10 < A0.tmps.size) : I4 F G B0 A0 W tl (on Dn 3) (a.put (some 10) (.pointer (some ⟨w.heap.size, 0, none⟩))) (w.alloc (.cells zz4 75)) u v w.heap.size b11 := by
  have hb : Below w.heap.size w (w.alloc (.cells zz4 75)) := (Below.refl _ _).alloc (Nat.le_refl _) _
  refine ⟨h.sl.put (by decide) hlt (V4_put (by omega) (.inl rfl)), h.bel.trans (hb.mono h.bel.size), fun k => (h.f (by rwa [on_ne Dn (by decide)] at k)).below hb, fun k => (h.o (by rwa [on_ne Dn (by decide)] at k)).below hb, .made h.p10.not h0 (by decide) (by rw [h.sl.size]; exact hlt) h.bel.size, h.p11.keep (by decide) (by decide) hb (by decide), fun _ k9 => ?_,
    fun k => by rw [on_ne Dn (by decide)] at k ⊢; exact h.n5 k, fun k => by rw [on_ne Dn (by decide)] at k ⊢; exact h.n6 k⟩
  rw [on_ne Dn (by decide)] at k9
  have := (h.p11.blk k9).lt
  omega
theorem I4.mk11 (h : I4 F G B0 A0 W tl Dn a w u v b10 b11) (h0 : Dn 4 = false) (hlt : 11 < A0.tmps.size) : I4 F G B0 A0 W tl (on Dn 4) (a.put (some 11) (.pointer (some ⟨w.heap.size, 0, none⟩))) (w.alloc (.cells zz4 75)) u v b10 w.heap.size := by
  have hb : Below w.heap.size w (w.alloc (.cells zz4 75)) := (Below.refl _ _).alloc (Nat.le_refl _) _
  refine ⟨h.sl.put (by decide) hlt (V4_put (by omega) (.inr rfl)), h.bel.trans (hb.mono h.bel.size), fun k => (h.f (by rwa [on_ne Dn (by decide)] at k)).below hb, fun k => (h.o (by rwa [on_ne Dn (by decide)] at k)).below hb, h.p10.keep (by decide) (by decide) hb (by decide), .made h.p11.not h0 (by decide) (by rw [h.sl.size]; exact hlt) h.bel.size, fun k9 _ => ?_,
    fun k => by rw [on_ne Dn (by decide)] at k ⊢; exact h.n5 k, fun k => by rw [on_ne Dn (by decide)] at k ⊢; exact h.n6 k⟩
  rw [on_ne Dn (by decide)] at k9
  have := (h.p10.blk k9).lt
  omega
theorem sl_zz4 : Sl4 zz4 := sl4_of
theorem I4.st10 (h : I4 F G B0 A0 W tl Dn a w u v b10 b11) (h3 : Dn 3 = true) (h5 : Dn 5 = false) (h0 : Dn 0 = true) : I4 F G B0 A0 W tl (on Dn 5) (a.put none x) (w.setRow b10 u) u v b10 b11 := by
  have hk := h.p10.blk h3
  rw [h5] at hk
  exact ⟨h.sl.skip (V4_no (by omega)) x, below_row h.bel (h.p10.base h3) _, fun k => (h.f (by rwa [on_ne Dn (by decide)] at k)).row hk sl_zz4, fun k => (h.o (by rwa [on_ne Dn (by decide)] at k)).row hk sl_zz4, h.p10.fill (by decide) h3, h.p11.far (by decide) (by decide) fun k => h.ne h3 k,
    fun k1 k2 => h.ne (by rwa [on_ne Dn (by decide)] at k1) (by rwa [on_ne Dn (by decide)] at k2), fun k => (by rw [on_ne Dn (by decide), h0] at k; cases k), fun k => by rw [on_ne Dn (by decide)] at k ⊢; exact h.n6 k⟩
theorem I4.st11 (h : I4 F G B0 A0 W tl Dn a w u v b10 b11) (h4 : Dn 4 = true) (h6 : Dn 6 = false) (h2 : Dn 2 = true) : I4 F G B0 A0 W tl (on Dn 6) (a.put none x) (w.setRow b11 v) u v b10 b11 := by
  have hk := h.p11.blk h4
  rw [h6] at hk
  exact ⟨h.sl.skip (V4_no (by omega)) x, below_row h.bel (h.p11.base h4) _, fun k => (h.f (by rwa [on_ne Dn (by decide)] at k)).row hk sl_zz4, fun k => (h.o (by rwa [on_ne Dn (by decide)] at k)).row hk sl_zz4, h.p10.far (by decide) (by decide) fun k => Ne.symm (h.ne k h4), h.p11.fill (by decide) h4,
    fun k1 k2 => h.ne (by rwa [on_ne Dn (by decide)] at k1) (by rwa [on_ne Dn (by decide)] at k2), fun k => by rw [on_ne Dn (by decide)] at k ⊢; exact h.n5 k, fun k => (by rw [on_ne Dn (by decide), h2] at k; cases k)⟩
end
theorem x_alloc4 {a : Act} {o : Oper} {w : World} (ho : o.op = .alloc 75) : (execOp a.eval o).run Tryz.prog w = .ok (.value (.pointer (some ⟨w.heap.size, 0, none⟩))) (w.alloc (.cells zz4 75)) := by
  unfold execOp; rw [ho]
  unfold zz4
  go_simp
theorem x_fix {a : Act} {o : Oper} {ts : Array TypeId} {w : World} (ho : o.op = .call { callee := .value (.func 36), args := #[], argTypes := ts }) :
    (execOp a.eval o).run Tryz.prog w = .ok (.enter 36 #[]) w := by
  unfold execOp; rw [ho]
  go_simp
theorem x_own {a : Act} {o : Oper} {s : Operand} {ts : Array TypeId} {u : Value} {w : World} (ho : o.op = .call { callee := .value (.func 37), args := #[s], argTypes := ts }) (hs : a.eval s = u) :
    (execOp a.eval o).run Tryz.prog w = .ok (.enter 37 #[u]) w := by
  unfold execOp; rw [ho]
  subst hs
  go_simp
theorem x_ldtal {a : Act} {o : Oper} (s : Operand) {q : Nat} {u v x : Value} {w : World} (ho : o.op = .load 69 s) (hs : a.eval s = .pointer (some ⟨q, 0, none⟩)) (hb : Blk w q 69 #[u, v, x]) :
    (execOp a.eval o).run Tryz.prog w = .ok (.value (.agg #[u, v, x])) w := by
  unfold execOp; rw [ho]
  simp only [hs, Instr.loadAt, Instr.sureAddr, Sem.run_bind, Sem.run_pure, Result.andThen_ok, run_loadVar_row (P := Tryz.prog) w q 69 69 #[u, v, x] (0, 0) _ hb Tryz.underlying69 rfl info_tal]
theorem V4_lt (u v tl : Array Value) : ∀ p ∈ V4 u v tl, p.1 < 7 := by
  intro p hp
  simp only [V4, List.mem_cons, List.not_mem_nil, or_false] at hp
  rcases hp with rfl | rfl | rfl <;> simp
end Go.Proofs.YtbjjkhlebdaoaaaGreatDoor.BlkC
end

section
/-
  What tokens take in the fixed codes: plain.
-/
namespace Go.Proofs.YtbjjkhlebdaoaaaGreatDoor.BlkC
open Go.RowKit Go.My BitMath CanMath TabMath
open LzMath (Tok May)
open PackMath (sm)
open InfMath (Pc lp dp symL litc dstc xtr lite cst fixL fixD)

/-! ### what the document adds up -/
def fxl (s : Nat) : Nat := if s < 144 ∨ 280 ≤ s then 8 else if s < 256 then 9 else 7
def rtk (wide : Bool) (t : Tok) : Nat := fxl (symL wide t) + if t.len = 0 then 0 else (lp t.len.toNat wide).x + 5 + (dp t.dist.toNat).x
def rfx (wide : Bool) (f : Nat → Tok) : Nat → Nat
  | 0 => 10
  | k + 1 => rfx wide f k + rtk wide (f k)
theorem fixL_size : ∀ v : Fin 288, ln fixL v.val = fxl v.val := by decide +kernel
theorem tkb_len {wide : Bool} {t : Tok} (h : May wide t) : (InfMath.tkb fixL fixD wide t).length = rtk wide t := by
  have hs := InfMath.sym_small h
  have h1 := fixL_size ⟨symL wide t, by omega⟩
  simp only at h1
  unfold InfMath.tkb rtk
  rw [← h1]
  unfold symL
  by_cases h0 : t.len = 0
  · rw [if_pos h0, if_pos h0, if_pos h0, InfMath.bits_ln, Nat.add_zero]
  · have h2 := InfMath.fixD_ln ⟨(dp t.dist.toNat).s, InfMath.dist_small h h0⟩
    simp only at h2
    rw [if_neg h0, if_neg h0, if_neg h0]
    unfold InfMath.pbits
    simp only [List.length_append, InfMath.bits_ln, lows_len]
    omega
theorem rfx_cst {wide : Bool} {f : Nat → Tok} {n : Nat} (hM : ∀ i, i < n → May wide (f i)) : rfx wide f n = 3 + cst wide f n (ln fixL) (ln fixD) := by
  rw [← InfMath.blk_cost fixL fixD wide f n hM, List.length_append, InfMath.bits_ln]
  have h7 : ln fixL 256 = 7 := fixL_size ⟨256, by omega⟩
  have h : ∀ k, k ≤ n → rfx wide f k = 10 + (InfMath.tks fixL fixD wide f k).length := by
    intro k
    induction k with
    | zero => intro _; rfl
    | succ k ih =>
      intro hk
      rw [rfx, ih (by omega), InfMath.tks, List.length_append, tkb_len (hM k (by omega))]
      omega
  rw [h n (Nat.le_refl _), h7]
  omega
theorem sm_bound (n c : Nat) (F : Nat → Nat) (h : ∀ j, j < n → F j ≤ c) : sm n F ≤ n * c := by
  induction n with
  | zero => exact Nat.zero_le _
  | succ n ih =>
    show sm n F + F n ≤ _
    have := ih fun j hj => h j (by omega)
    have := h n (by omega)
    rw [Nat.succ_mul]
    omega
theorem ln15 {ls : List Nat} (h : ∀ x ∈ ls, x ≤ 15) (j : Nat) : ln ls j ≤ 15 := ln_le h j
theorem cost_small {n m : Nat} {F : Nat → Nat} {ls : List Nat} (h : ∀ x ∈ ls, x ≤ 15) (hF : ∀ j, F j ≤ m) (hm : m ≤ 1000000) (hn : n ≤ 1000) : sm n (fun j => F j * ln ls j) ≤ 1000000000000 := by
  have := sm_bound n (1000000 * 15) (fun j => F j * ln ls j) fun j _ => Nat.mul_le_mul (Nat.le_trans (hF j) hm) (ln15 h j)
  have h2 : n * (1000000 * 15) ≤ 1000 * (1000000 * 15) := Nat.mul_le_mul_right _ hn
  omega
end Go.Proofs.YtbjjkhlebdaoaaaGreatDoor.BlkC
end
