import Derived.Test.YtdbcendnibgcaaaGreatDoorMgBs
import Derived.Test.YtdbcendnibgcaaaGreatDoorMgBu

section
/-
  Laws of single operations over a frame that is a letter (as in PkLsA), for the document's token.
-/
namespace Go.Proofs.YtdbcendnibgcaaaGreatDoor.RfC
open Go.RowKit Go.My

theorem x_nil {a : Act} {o : Oper} (s : Operand) {p : Addr} {w : World} (ho : o.op = .nilCheck s) (hs : a.eval s = .pointer (some p)) : (execOp a.eval o).run Tryz.prog w = .ok (.value (.pointer (some p))) w := by
  unfold execOp; rw [ho]; simp only [hs]; rfl
theorem x_field2 {a : Act} {o : Oper} (s : Operand) {g : Nat} {w : World} (ho : o.op = .fieldAddr 76 s 2) (hs : a.eval s = .pointer (some ⟨g, 0, none⟩)) : (execOp a.eval o).run Tryz.prog w = .ok (.value (.pointer (some ⟨g, 2, none⟩))) w := by
  unfold execOp; rw [ho]; simp only [hs]
  go_simp
theorem x_len {a : Act} {o : Oper} (s : Operand) {ad : Option Addr} {n c : Nat} {w : World} (ho : o.op = .call { callee := .builtin .len, args := #[s], argTypes := #[22] }) (hs : a.eval s = .slice ad n c) : (execOp a.eval o).run Tryz.prog w = .ok (.value (.int .i64 (n : Int))) w := by
  unfold execOp; rw [ho]
  simp only [resolve, List.map_toArray, List.map_cons, List.map_nil, hs]
  go_simp
theorem x_sub {a : Act} {o : Oper} (s t : Operand) {x y z : Int} {w : World} (ho : o.op = Op.binOp BinOp.sub 3 s t 3) (hs : a.eval s = .int .i64 x) (ht : a.eval t = .int .i64 y) (hz : IntKind.i64.wrap (x - y) = z) :
    (execOp a.eval o).run Tryz.prog w = .ok (.value (.int .i64 z)) w := by
  unfold execOp
  rw [ho]
  simp only [hs, ht]
  go_simp
theorem x_idx {a : Act} {o : Oper} (s i : Operand) {b off len cap k : Nat} {w : World} (ho : o.op = Op.indexAddr 22 s i) (hs : a.eval s = .slice (some ⟨b, off, none⟩) len cap) (hi : a.eval i = .int .i64 (k : Int)) (hk : k < len) :
    (execOp a.eval o).run Tryz.prog w = .ok (.value (.pointer (some ⟨b, off + k, none⟩))) w := by
  have hki : (k : Int) < (len : Int) := by omega
  unfold execOp
  rw [ho]
  simp only [hs, hi]
  go_simp
theorem x_load {a : Act} {o : Oper} (p : Operand) {x : Addr} {y : Int} {w : World} (ho : o.op = Op.load 5 p) (hp : a.eval p = .pointer (some x)) (hc : w.cell? x = some (.int .u8 y)) :
    (execOp a.eval o).run Tryz.prog w = .ok (.value (.int .u8 y)) w := by
  unfold execOp
  rw [ho]
  simp only [hp]
  go_simp
theorem x_loads {a : Act} {o : Oper} (p : Operand) {x : Addr} {ad : Option Addr} {n c : Nat} {w : World} (ho : o.op = Op.load 22 p) (hp : a.eval p = .pointer (some x)) (hc : w.cell? x = some (.slice ad n c)) :
    (execOp a.eval o).run Tryz.prog w = .ok (.value (.slice ad n c)) w := by
  unfold execOp
  rw [ho]
  simp only [hp]
  go_simp
theorem x_build {a : Act} {o : Oper} (s : Operand) {y : Int} {w : World} (ho : o.op = Op.buildSlice 22 1 #[(0, s)]) (hs : a.eval s = .int .u8 y) :
    (execOp a.eval o).run Tryz.prog w = .ok (.value (.slice (some ⟨w.heap.size, 0, none⟩) 1 1)) (w.alloc (.cells #[.int .u8 y] 5)) := by
  unfold execOp
  rw [ho]
  simp only [List.map_toArray, List.map_cons, List.map_nil, hs]
  go_simp
theorem x_store {a : Act} {o : Oper} (p v : Operand) {x : Addr} {ad ad' : Option Addr} {n c n' c' : Nat} {w : World} (ho : o.op = Op.store 22 p v) (hp : a.eval p = .pointer (some x)) (hv : a.eval v = .slice ad n c) (hc : w.cell? x = some (.slice ad' n' c')) (hf : w.frozen? x = false) :
    (execOp a.eval o).run Tryz.prog w = .ok .skip (w.setCell x (.slice ad n c)) := by
  unfold execOp
  rw [ho]
  simp only [hp, hv]
  go_simp
end Go.Proofs.YtdbcendnibgcaaaGreatDoor.RfC
end

section
/-
  A drawn region whose last operation turns what the others read (x.f = append(x.f, ..)): S is asked behind every operation but number L, which waits for the one that is taken first. No dump.
-/
namespace Go.My
open Go.RowKit
section
variable {P : Program} {ops : Array Oper} {Q : Exit → Act → World → Prop} {md : Region.Mode} {S : World → Prop} {L : Nat}
/-- Whatever order is picked: S holds behind every operation but number L. -/
def Till (P : Program) (md : Region.Mode) (ops : Array Oper) (Q : Exit → Act → World → Prop) (S : World → Prop) (L : Nat) : Nat → Array Bool → Act → World → Prop
  | 0, done, a, w => Region.ready md ops done = [] ∧ Q .normal a w
  | f + 1, done, a, w => (Region.ready md ops done = [] → Q .normal a w) ∧
      ∀ j ∈ Region.ready md ops done, wpOp P ops Q j (fun a' w' => (j ≠ L → S w') ∧ Till P md ops Q S L f (done.setIfInBounds j true) a' w') a w
theorem Till.any : ∀ (f : Nat) (done : Array Bool) (a : Act) (w : World), Till P md ops Q S L f done a w → wpAny P md ops Q f done a w
  | 0, _, _, _, h => h
  | f + 1, _, _, _, h => ⟨h.1, fun j hj => wpOp_mono (fun _ _ k => Till.any f _ _ _ k.2) (h.2 j hj)⟩
/-- Operation L waits for operation i. -/
def Awaits (md : Region.Mode) (ops : Array Oper) (L i : Nat) : Bool := match ops[L]? with
  | some o => o.after.any fun e => Region.binds md e && e.on == i
  | none => false
theorem not_yet {i j : Nat} {done : Array Bool} (hw : Awaits md ops L i = true) (hi : i ∈ Region.ready md ops done) (hj : j ∈ Region.ready md ops done) : j ≠ L := by
  rintro rfl
  obtain ⟨-, o, ho, hall⟩ := mem_ready.1 hj
  unfold Awaits at hw
  rw [ho] at hw
  simp only [Array.any_eq_true] at hw
  obtain ⟨k, hk, hb⟩ := hw
  obtain ⟨e, hee⟩ : ∃ e, e = o.after[k] := ⟨_, rfl⟩
  have he : e ∈ o.after := by rw [hee]; exact Array.getElem_mem hk
  rw [← hee] at hb
  simp only [Bool.and_eq_true, beq_iff_eq] at hb
  have h1 := hall e he hb.1
  have h0 := (mem_ready.1 hi).1
  rw [hb.2] at h1
  by_cases hs : i < done.size
  · simp [hs] at h0 h1
    rw [h0] at h1; cases h1
  · rw [Array.getD_eq_getD_getElem?, Array.getElem?_eq_none (by omega)] at h1
    cases h1
theorem Till.take {i : Nat} {o : Oper} {d : Option Tmp} (v : Value) (hi : ops[i]? = some o) (hd : o.dst = d) (hs : Region.noSelect ops = true) (hL : Awaits md ops L i = true)
    (hQ : ∀ c a w, Q (.panic c) (a.put d v) w → Q (.panic c) a w) : ∀ {f : Nat} {done : Array Bool} {a : Act} {w : World}, Region.free md ops done i = true → (Region.ready md ops done).contains i = true →
    YieldsIf P ops S o v a → S w → Till P md ops Q S L f (done.setIfInBounds i true) (a.put d v) w → Till P md ops Q S L (f + 1) done a w := by
  subst hd
  intro f done a w hf hr
  have hfree := Region.free_spec hi hf
  have hr' : i ∈ Region.ready md ops done := by simpa using hr
  clear hf hr
  induction f generalizing done a w with
  | zero =>
    intro hy hS h
    refine ⟨fun e => absurd hr' (by rw [e]; simp), fun j hj => ?_⟩
    have hji : j = i := Classical.byContradiction fun hne => by
      have := ready_mono hj hne
      rw [h.1] at this
      cases this
    subst hji
    exact hy.wpOp hi hS ⟨fun _ => hS, h⟩
  | succ f ih =>
    intro hy hS h
    refine ⟨fun e => absurd hr' (by rw [e]; simp), fun j hj => ?_⟩
    by_cases hji : j = i
    · subst hji; exact hy.wpOp hi hS ⟨fun _ => hS, h⟩
    · obtain ⟨hun, oj, hoj, hall⟩ := mem_ready.1 hj
      have hjL := not_yet hL hr' hj
      have hno : ∀ e ∈ oj.after, Region.binds md e = true → e.on ≠ i := fun e he hb heq => by
        have h1 := hall e he hb
        have h0 := (mem_ready.1 hr').1
        rw [heq] at h1
        by_cases hsz : i < done.size
        · simp [hsz] at h0 h1
          rw [h0] at h1; cases h1
        · rw [Array.getD_eq_getD_getElem?, Array.getElem?_eq_none (by omega)] at h1
          cases h1
      have hsel := fun cs b => Region.noSelect_spec hs i o cs b hi
      have hselj := fun cs b => Region.noSelect_spec hs j oj cs b hoj
      refine wpOp_mono (fun a' w' k => ⟨fun _ => k.2.1 hjL, ih (done := done.setIfInBounds j true) ?_ (ready_mono hr' (Ne.symm hji)) k.1 (k.2.1 hjL) ?_⟩) (wpOp_putIf hoj (hfree j oj hoj hji hun hno) hsel hselj hQ hy (h.2 j (ready_mono hj hji)))
      · intro m om hm hmi hmun
        refine hfree m om hm hmi ?_
        by_cases hjm : j = m
        · subst hjm; exact hun
        · rw [getD_set_ne true hjm] at hmun; exact hmun
      · have := k.2.2
        rw [Array.setIfInBounds_comm _ _ (Ne.symm hji)] at this
        exact this
/-- As ord_step, with S asked till L. -/
theorem till_step {i : Nat} {o : Oper} {d : Option Tmp} (v : Value) {f : Nat} {done : Array Bool} {a : Act} {w : World} (hi : ops[i]? = some o) (hd : o.dst = d)
    (hs : Region.noSelect ops = true) (hL : Awaits md ops L i = true) (hf : Region.free md ops done i = true) (hr : (Region.ready md ops done).contains i = true)
    (hQ : ∀ c a w, Q (.panic c) (a.put d v) w → Q (.panic c) a w) (hg : o.guard = none) (hS : S w) (hy : ∀ w, S w → (execOp a.eval o).run P w = .ok (.value v) w)
    (h : ∀ B, B = a.put d v → Till P md ops Q S L f (done.setIfInBounds i true) B w) : Till P md ops Q S L (f + 1) done a w :=
  Till.take v hi hd hs hL hQ hf hr (.inl ⟨by simp [Region.wanted, hg], hy⟩) hS (h _ rfl)
/-- The one operation that may come up. -/
theorem till_lone {i : Nat} {o : Oper} {f : Nat} {done : Array Bool} {a : Act} {w : World} (hi : ops[i]? = some o) (hr : Region.ready md ops done = [i]) (hg : o.guard = none)
    (h : o.wp P a w (fun a' w' => (i ≠ L → S w') ∧ Till P md ops Q S L f (done.setIfInBounds i true) a' w') Q) : Till P md ops Q S L (f + 1) done a w := by
  refine ⟨fun e => (by rw [hr] at e; cases e), fun j hj => ?_⟩
  rw [hr] at hj
  obtain rfl : j = i := by simpa using hj
  unfold wpOp
  simp only [hi, show Region.wanted o (yielded ops a.tmps) = true by simp [Region.wanted, hg], if_true]
  exact .inl h
theorem till_done {done : Array Bool} {a : Act} {w : World} (hr : Region.ready md ops done = []) (h : Q .normal a w) : ∀ f, Till P md ops Q S L f done a w
  | 0 => ⟨hr, h⟩
  | _ + 1 => ⟨fun _ => h, by rw [hr]; simp⟩
theorem till_name {p : Prop} {f : Nat} {done : Array Bool} {a : Act} {w : World} (hp : p) (h : ∀ A, A = a → Till P md ops Q S L f done A w) : p ∧ Till P md ops Q S L f done a w := ⟨hp, h a rfl⟩
theorem till_as {f : Nat} {done : Array Bool} {a b : Act} {w : World} (h : a = b) (hp : Till P md ops Q S L f done b w) : Till P md ops Q S L f done a w := by subst h; exact hp
theorem wp_region_till {id : Nat} {a : Act} {w : World} (hm : P.follows .mixedOrders = true) (h : ∀ A, A = a → Till P .any ops Q S L ops.size (Array.replicate ops.size false) A w.drew) : (Code.region id ops true).wp P Q a w :=
  wp_region_any hm (Till.any _ _ _ _ (h a rfl))
theorem till_skip {o : Oper} {a : Act} {w w' : World} {K : Act → World → Prop} (hd : o.dst = none) (hr : (execOp a.eval o).run P w = .ok .skip w') (h : K a w') : o.wp P a w K Q := by
  unfold Oper.wp
  rw [hr]
  show K (a.put o.dst undef) w'
  rw [hd]
  exact h
end
end Go.My
end
