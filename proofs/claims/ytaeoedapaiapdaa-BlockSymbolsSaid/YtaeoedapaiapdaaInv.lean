/-
  A drawn region by an invariant: what holds of frame and world once these operations are done. One obligation an operation, whatever the order: nothing is branched over. No dump.
-/
import Derived.Test.YtaeoedapaiapdaaAct
namespace Go.My
open Go.RowKit
/-- One more is done. -/
def on (D : Nat → Bool) (j : Nat) : Nat → Bool := fun k => if k = j then true else D k
theorem on_self (D : Nat → Bool) (j : Nat) : on D j j = true := by simp [on]
theorem on_ne (D : Nat → Bool) {j k : Nat} (h : k ≠ j) : on D j k = D k := by simp [on, h]
theorem on_had {D : Nat → Bool} {j k : Nat} (h : D k = true) : on D j k = true := by unfold on; split <;> simp [h]
/-- How many are not done. -/
def cntU (D : Nat → Bool) : Nat → Nat
  | 0 => 0
  | n + 1 => cntU D n + if D n then 0 else 1
theorem cntU_on {D : Nat → Bool} {j : Nat} (h : D j = false) : ∀ n, j < n → cntU (on D j) n + 1 = cntU D n
  | 0, hj => by omega
  | n + 1, hj => by
    unfold cntU
    by_cases e : n = j
    · subst e
      rw [on_self, h]
      have : cntU (on D n) n = cntU D n := by
        clear h hj
        have : ∀ m, m ≤ n → cntU (on D n) m = cntU D m := by
          intro m
          induction m with
          | zero => intro _; rfl
          | succ m ih => intro hm; unfold cntU; rw [ih (by omega), on_ne D (by omega)]
        exact this n (Nat.le_refl _)
      simp [this]
    · rw [on_ne D e]
      have := cntU_on h n (by omega)
      omega
theorem cntU_zero {D : Nat → Bool} : ∀ n, cntU D n = 0 → ∀ j, j < n → D j = true
  | 0, _, j, hj => by omega
  | n + 1, h, j, hj => by
    unfold cntU at h
    by_cases e : j = n
    · subst e
      cases hd : D j
      · rw [hd] at h; simp at h
      · rfl
    · exact cntU_zero n (by omega) j (by omega)
theorem getD_tf {l : Array Bool} {k : Nat} (h : l.getD k false = true) : l.getD k true = true := by
  by_cases hk : k < l.size
  · simp [hk] at h ⊢; exact h
  · simp [Array.getElem?_eq_none (Nat.le_of_not_lt hk)]
theorem getD_ft {l : Array Bool} {k : Nat} (h : l.getD k true = true) (hk : k < l.size) : l.getD k false = true := by
  simp [hk] at h ⊢; exact h
theorem getD_on (l : Array Bool) (j : Nat) : (fun k => (l.setIfInBounds j true).getD k true) = on (fun k => l.getD k true) j := by
  funext k
  by_cases e : k = j
  · subst e
    rw [on_self]
    by_cases hk : k < l.size
    · simp [hk]
    · rw [Array.getD_eq_getD_getElem?, Array.getElem?_eq_none (by simp; omega)]; rfl
  · rw [on_ne _ e, getD_set_ne true (Ne.symm e)]
section
variable {P : Program} {ops : Array Oper} {Q : Exit → Act → World → Prop} {md : Region.Mode} {I : (Nat → Bool) → Act → World → Prop}
/-- Each operation waits for earlier ones alone. -/
def Back (ops : Array Oper) : Bool := (List.range ops.size).all fun j => match ops[j]? with
  | some o => o.after.all fun e => decide (e.on < j)
  | none => true
theorem back_spec (h : Back ops = true) {j : Nat} {o : Oper} (ho : ops[j]? = some o) : ∀ e ∈ o.after, e.on < j := by
  intro e he
  have hj : j < ops.size := (Array.getElem?_eq_some_iff.1 ho).1
  have := List.all_eq_true.1 h j (List.mem_range.2 hj)
  rw [ho] at this
  exact of_decide_eq_true ((Array.all_eq_true_iff_forall_mem.1 this) e he)
theorem all_done (hb : Back ops = true) {l : Array Bool} (hl : l.size = ops.size) (hr : Region.ready md ops l = []) : (fun k => l.getD k true) = fun _ => true := by
  have h : ∀ n, ∀ j, j < n → l.getD j true = true := by
    intro n
    induction n with
    | zero => intro j hj; omega
    | succ n ih =>
      intro j hj
      by_cases e : j = n
      · subst e
        cases hd : l.getD j true with
        | true => rfl
        | false =>
          exfalso
          have hj : j < ops.size := by
            refine Classical.byContradiction fun hc => ?_
            rw [Array.getD_eq_getD_getElem?, Array.getElem?_eq_none (by omega)] at hd
            cases hd
          have hm : j ∈ Region.ready md ops l := by
            rw [mem_ready]
            refine ⟨hd, ops[j], Array.getElem?_eq_getElem hj, fun e he _ => ?_⟩
            have hlt := back_spec hb (Array.getElem?_eq_getElem hj) e he
            exact getD_ft (ih e.on hlt) (by omega)
          rw [hr] at hm
          cases hm
      · exact ih j (by omega)
  funext k
  exact h (k + 1) k (by omega)
theorem any_inv (hb : Back ops = true)
    (hstep : ∀ j o, ops[j]? = some o → ∀ D a w, I D a w → D j = false → (∀ e ∈ o.after, Region.binds md e = true → D e.on = true) → wpOp P ops Q j (fun a' w' => I (on D j) a' w') a w)
    (hend : ∀ a w, I (fun _ => true) a w → Q .normal a w) :
    ∀ (f : Nat) (l : Array Bool) (a : Act) (w : World), l.size = ops.size → cntU (fun k => l.getD k true) ops.size ≤ f → I (fun k => l.getD k true) a w → wpAny P md ops Q f l a w
  | 0, l, a, w, hl, hc, hI => by
    have hr : Region.ready md ops l = [] := by
      rw [List.eq_nil_iff_forall_not_mem]
      intro j hj
      obtain ⟨h0, o, ho, -⟩ := mem_ready.1 hj
      have hj2 : j < ops.size := (Array.getElem?_eq_some_iff.1 ho).1
      have h1 : (fun k => l.getD k true) j = true := cntU_zero (D := fun k => l.getD k true) ops.size (by omega) j hj2
      simp only at h1
      rw [h1] at h0
      cases h0
    exact ⟨hr, hend a w (by rw [all_done hb hl hr] at hI; exact hI)⟩
  | f + 1, l, a, w, hl, hc, hI => by
    refine ⟨fun hr => hend a w (by rw [all_done hb hl hr] at hI; exact hI), fun j hj => ?_⟩
    obtain ⟨h0, o, ho, hall⟩ := mem_ready.1 hj
    have hj2 : j < ops.size := (Array.getElem?_eq_some_iff.1 ho).1
    refine wpOp_mono (fun a' w' k => any_inv hb hstep hend f _ a' w' (by simpa using hl) ?_ (by rw [getD_on]; exact k)) (hstep j o ho _ a w hI h0 fun e he hbi => getD_tf (hall e he hbi))
    rw [getD_on]
    have := cntU_on (D := fun k => l.getD k true) h0 ops.size hj2
    omega
theorem cntU_le (D : Nat → Bool) : ∀ n, cntU D n ≤ n
  | 0 => Nat.le_refl _
  | n + 1 => by unfold cntU; have := cntU_le D n; split <;> omega
/-- What is done at the start: nothing. -/
def none_ (n : Nat) : Nat → Bool := fun k => !decide (k < n)
theorem wp_region_inv (I : (Nat → Bool) → Act → World → Prop) {id : Nat} {a : Act} {w : World} (hm : P.follows .mixedOrders = true) (hb : Back ops = true) (h0 : I (none_ ops.size) a w.drew)
    (hstep : ∀ j o, ops[j]? = some o → ∀ D a w, I D a w → D j = false → (∀ e ∈ o.after, Region.binds .any e = true → D e.on = true) → wpOp P ops Q j (fun a' w' => I (on D j) a' w') a w)
    (hend : ∀ a w, I (fun _ => true) a w → Q .normal a w) : (Code.region id ops true).wp P Q a w := by
  refine wp_region_any hm (any_inv hb hstep hend _ _ _ _ (by simp) (cntU_le _ _) ?_)
  have : (fun k => (Array.replicate ops.size false).getD k true) = none_ ops.size := by
    funext k
    unfold none_
    by_cases hk : k < ops.size
    · simp [hk]
    · rw [Array.getD_eq_getD_getElem?, Array.getElem?_eq_none (by simp; omega)]; simp [hk]
  rw [this]
  exact h0
/-- What an operation waits for is done. -/
theorem pre_done {o : Oper} {D : Nat → Bool} (h : ∀ e ∈ o.after, Region.binds .any e = true → D e.on = true) (k : Nat) (hk : (o.after.toList.any fun e => Region.binds .any e && e.on == k) = true) : D k = true := by
  obtain ⟨e, he, hb⟩ := List.any_eq_true.1 hk
  simp only [Bool.and_eq_true, beq_iff_eq] at hb
  rw [← hb.2]
  exact h e (by simpa using he) hb.1
/-- A frame that is A0 but for the slots L; operation p.1, once it is done, has left p.2.2 in slot p.2.1. -/
structure Slots (A0 : Act) (L : List Tmp) (V : List (Nat × Tmp × Value)) (D : Nat → Bool) (a : Act) : Prop where
  defers : a.defers = A0.defers
  size : a.tmps.size = A0.tmps.size
  keep : ∀ t, t ∉ L → a.eval (.tmp t) = A0.eval (.tmp t)
  val : ∀ p ∈ V, D p.1 = true → a.eval (.tmp p.2.1) = p.2.2
theorem eval_put_ne {a : Act} {d t : Nat} {v : Value} (h : d ≠ t) : (a.put (some d) v).eval (.tmp t) = a.eval (.tmp t) := by
  simp [Act.eval, Act.put, Array.getD_eq_getD_getElem?, h]
theorem eval_put_self {a : Act} {d : Nat} {v : Value} (h : d < a.tmps.size) : (a.put (some d) v).eval (.tmp d) = v := by
  simp [Act.eval, Act.put, Array.getD, h]
section
variable {A0 a : Act} {L : List Tmp} {V : List (Nat × Tmp × Value)} {D : Nat → Bool}
theorem Slots.start (n : Nat) (hV : ∀ p ∈ V, p.1 < n) : Slots A0 L V (none_ n) A0 := ⟨rfl, rfl, fun _ _ => rfl, fun p hp h => by have := hV p hp; simp [none_, this] at h⟩
theorem Slots.get (h : Slots A0 L V D a) {j : Nat} {d : Tmp} {v : Value} (hp : (j, d, v) ∈ V) (hD : D j = true) : a.eval (.tmp d) = v := h.val _ hp hD
theorem Slots.put {j : Nat} {d : Tmp} {v : Value} (h : Slots A0 L V D a) (hd : L.contains d = true) (hlt : d < A0.tmps.size) (hV : ∀ p ∈ V, (p.1 = j ∧ p.2.1 = d ∧ p.2.2 = v) ∨ (p.1 ≠ j ∧ p.2.1 ≠ d)) : Slots A0 L V (on D j) (a.put (some d) v) := by
  have hd : d ∈ L := by simpa using hd
  refine ⟨h.defers, by rw [← h.size]; simp [Act.put], fun t ht => ?_, fun p hp hD => ?_⟩
  · rw [eval_put_ne (fun (e : d = t) => ht (by rw [← e]; exact hd))]; exact h.keep t ht
  · rcases hV p hp with ⟨e1, e2, e3⟩ | ⟨e1, e2⟩
    · rw [e2, e3]; exact eval_put_self (by rw [h.size]; exact hlt)
    · rw [eval_put_ne (Ne.symm e2)]
      rw [on_ne D e1] at hD
      exact h.val p hp hD
theorem Slots.skip {j : Nat} (h : Slots A0 L V D a) (hV : ∀ p ∈ V, p.1 ≠ j) (v : Value) : Slots A0 L V (on D j) (a.put none v) :=
  ⟨h.defers, h.size, h.keep, fun p hp hD => by rw [on_ne D (hV p hp)] at hD; exact h.val p hp hD⟩
/-- A frame out of its slots. -/
theorem Slots.eq (h : Slots A0 L V D a) (hL : L.all (fun d => decide (d < A0.tmps.size)) = true) : ∃ vs : Tmp → Value, (∀ d, vs d = a.eval (.tmp d)) ∧ a = L.foldl (fun b d => b.put (some d) (vs d)) A0 := by
  refine ⟨fun d => a.eval (.tmp d), fun _ => rfl, ?_⟩
  have key : ∀ (M : List Tmp) (b : Act), b.defers = a.defers → b.tmps.size = a.tmps.size → (∀ d ∈ M, d < a.tmps.size) → (∀ t, t ∉ M → a.eval (.tmp t) = b.eval (.tmp t)) → a = M.foldl (fun b d => b.put (some d) (a.eval (.tmp d))) b := by
    intro M
    induction M with
    | nil =>
      intro b h1 h2 _ h4
      cases a with
      | mk ta da =>
        cases b with
        | mk tb db =>
          simp only at h1 h2
          subst h1
          have : ta = tb := by
            apply Array.ext h2.symm
            intro i hi hj
            have := h4 i (by simp)
            simpa [Act.eval, Array.getD, hi, hj] using this
          subst this
          rfl
    | cons d M ih =>
      intro b h1 h2 h3 h4
      rw [List.foldl_cons]
      refine ih _ h1 (by simpa [Act.put] using h2) (fun x hx => h3 x (by simp [hx])) fun t ht => ?_
      by_cases e : t = d
      · subst e
        rw [eval_put_self (by rw [h2]; exact h3 t (by simp))]
      · rw [eval_put_ne (Ne.symm e)]
        exact h4 t (by simp [e, ht])
  refine key L A0 h.defers.symm h.size.symm (fun d hd => ?_) (fun t ht => h.keep t ht)
  rw [h.size]
  exact of_decide_eq_true (List.all_eq_true.1 hL d hd)
end
theorem op_wp {j : Nat} {o : Oper} {K : Act → World → Prop} {a : Act} {w : World} (ho : ops[j]? = some o) (hg : o.guard = none) (h : o.wp P a w K Q) : wpOp P ops Q j K a w := by
  unfold wpOp
  simp only [ho, show Region.wanted o (yielded ops a.tmps) = true by simp [Region.wanted, hg], if_true]
  exact .inl h
end
end Go.My
