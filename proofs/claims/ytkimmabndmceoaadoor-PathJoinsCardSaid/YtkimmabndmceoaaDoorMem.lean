/-
  Memory behind a pointer: a struct's block known whole, a slice of bytes that it owns, and what a call may turn of them. No program, no dump.
-/
import Derived.Test.YtkimmabndmceoaaDoorLib
import Derived.Deep.AppendLies
import Derived.Deep.Draws
namespace Go.My
open Go.RowKit

/-- Block g is just the cells cs of type t, none frozen. -/
def Blk (w : World) (g : Nat) (t : TypeId) (cs : Array Value) : Prop := w.heap[g]? = some (.cells cs t (0, 0))

/-- The block stands as it did: so does what is known of it. -/
theorem Blk.same {w w' : World} {g : Nat} {t : TypeId} {cs : Array Value} (h : Blk w g t cs) (e : w'.heap[g]? = w.heap[g]?) : Blk w' g t cs := e.trans h
section
variable {w w' : World} {g : Nat} {t : TypeId} {cs : Array Value}
theorem Blk.lt (h : Blk w g t cs) : g < w.heap.size := (Array.getElem?_eq_some_iff.1 (show w.heap[g]? = some _ from h)).1
theorem Blk.cell (h : Blk w g t cs) (i : Nat) : w.cell? ⟨g, i, none⟩ = cs[i]? := by rw [World.cell?]; simp only [show w.heap[g]? = _ from h]; rfl
theorem Blk.frozen (h : Blk w g t cs) (i : Nat) : w.frozen? ⟨g, i, none⟩ = false := by rw [World.frozen?]; simp [show w.heap[g]? = _ from h]
theorem Blk.new (w : World) (t : TypeId) (cs : Array Value) : Blk (w.alloc (.cells cs t)) w.heap.size t cs := heap_alloc_new w _
theorem Blk.drew (h : Blk w g t cs) : Blk w.drew g t cs := h
theorem Blk.alloc (h : Blk w g t cs) (o : Obj) : Blk (w.alloc o) g t cs := h.same (Below.heap_alloc w o g h.lt)
theorem Blk.set_ (h : Blk w g t cs) (i : Nat) (u : Value) : Blk (w.setCell ⟨g, i, none⟩ u) g t (cs.setIfInBounds i u) := by
  show (w.setCell ⟨g, i, none⟩ u).heap[g]? = _
  rw [World.setCell, Array.getElem?_modify, if_pos rfl, show w.heap[g]? = _ from h]
  rfl
theorem Blk.grown {row : Option Nat} (h : Blk w g t cs) (hb : w.grownBy w' row) (hg : some g ≠ row) : Blk w' g t cs := h.same (hb.block g h.lt hg)
end

/-- From w to w' only blocks of S have turned, and new ones have come. -/
structure Only (S : Nat → Prop) (w w' : World) : Prop where
  os : w'.os = w.os
  tape : w'.tape = w.tape
  output : w'.output = w.output
  size : w.heap.size ≤ w'.heap.size
  block : ∀ k, k < w.heap.size → ¬ S k → w'.heap[k]? = w.heap[k]?

section
variable {S T : Nat → Prop} {w w' a b c : World}
theorem Only.refl (S : Nat → Prop) (w : World) : Only S w w := ⟨rfl, rfl, rfl, Nat.le_refl _, fun _ _ _ => rfl⟩
theorem Only.trans (h : Only S a b) (k : Only T b c) (hT : ∀ i, i < a.heap.size → T i → S i) : Only S a c :=
  ⟨k.os.trans h.os, k.tape.trans h.tape, k.output.trans h.output, Nat.le_trans h.size k.size, fun i hi hs => (k.block i (Nat.lt_of_lt_of_le hi h.size) (fun ht => hs (hT i hi ht))).trans (h.block i hi hs)⟩
theorem Only.drew (h : Only S a b) : Only S a b.drew := ⟨h.os, h.tape, h.output, h.size, h.block⟩
theorem Only.drewN (h : Only S a b) (n : Nat) : Only S a (b.drewN n) := ⟨h.os, h.tape, h.output, h.size, h.block⟩
theorem Only.of_drewN {n : Nat} (h : Only S (a.drewN n) b) : Only S a b := ⟨h.os, h.tape, h.output, h.size, h.block⟩
theorem Only.alloc (h : Only S a b) (o : Obj) : Only S a (b.alloc o) :=
  h.trans (T := fun _ => False) ⟨rfl, rfl, rfl, by simp, fun k hk _ => Below.heap_alloc _ _ _ hk⟩ (fun _ _ h => h.elim)
theorem Only.setCell (h : Only S a b) {p : Addr} (hp : p.block < a.heap.size → S p.block) (u : Value) : Only S a (b.setCell p u) :=
  h.trans (T := fun k => k = p.block) ⟨rfl, rfl, rfl, by simp [World.setCell], fun k _ hs => Below.heap_setCell _ _ _ _ hs⟩ (fun i hi he => by subst he; exact hp hi)
theorem Only.grown {row : Option Nat} (h : Only S a b) (hg : b.grownBy c row) (hr : ∀ k, k < a.heap.size → row = some k → S k) : Only S a c :=
  h.trans (T := fun k => row = some k) ⟨hg.os, hg.tape, hg.output, hg.size, fun k hk hs => hg.block k hk (fun e => hs e.symm)⟩ (fun i hi he => hr i hi he)
theorem Only.of_below (h : Below w.heap.size w w') (S : Nat → Prop) : Only S w w' := ⟨h.os, h.tape, h.output, h.size, fun k hk _ => h.block k hk⟩
theorem Only.then_below (h : Only S a b) (k : Below b.heap.size b c) : Only S a c := h.trans (Only.of_below k S) (fun _ _ h => h)
theorem Only.below (h : Only S w w') {B : Nat} (hB : B ≤ w.heap.size) (hS : ∀ k, S k → B ≤ k) : Below B w w' :=
  ⟨h.os, h.tape, h.output, h.size, fun k hk => h.block k (by omega) (fun hs => by have := hS k hs; omega)⟩
theorem Only.mono (h : Only S w w') (hT : ∀ k, k < w.heap.size → S k → T k) : Only T w w' := ⟨h.os, h.tape, h.output, h.size, fun k hk ht => h.block k hk (fun hs => ht (hT k hk hs))⟩
theorem Only.blk {g : Nat} {t : TypeId} {cs : Array Value} (h : Only S w w') (hb : Blk w g t cs) (hg : ¬ S g) : Blk w' g t cs := (h.block g hb.lt hg).trans hb
theorem Only.cell (h : Only S w w') {p : Addr} (hp : p.block < w.heap.size) (hs : ¬ S p.block) : w'.cell? p = w.cell? p := World.cell?_of_block (w := w) (h.block p.block hp hs)
theorem Only.frozen (h : Only S w w') {p : Addr} (hp : p.block < w.heap.size) (hs : ¬ S p.block) : w'.frozen? p = w.frozen? p := World.frozen?_of_block (w := w) (h.block p.block hp hs)
theorem Only.own {E : TypeId} {base : Nat} {v : Value} {l : List UInt8} (h : Only S w w') (ho : Own E base w v l) (hv : ∀ k, v.ownBlock = some k → ¬ S k) : Own E base w' v l := by
  refine ⟨ho.1, ?_⟩
  rcases ho.2 with hn | ⟨g, cap, cur, rfl, hb, hgg, rest⟩
  · exact .inl hn
  · refine .inr ⟨g, cap, cur, rfl, hb, ?_, rest⟩
    rw [h.block g (Array.getElem?_eq_some_iff.1 hgg).1 (hv g rfl)]
    exact hgg
theorem Only.bytes {ad : Option Addr} {len cap : Nat} {l : List UInt8} (h : Only S w w') (hb : Bytes w ad len cap l) (hS : ∀ b off, ad = some ⟨b, off, none⟩ → ¬ S b) : Bytes w' ad len cap l := by
  refine ⟨hb.1, hb.2, hb.3, hb.4, hb.5.imp_right ?_⟩
  rintro ⟨b, off, ha, hs, hc⟩
  exact ⟨b, off, ha, Nat.lt_of_lt_of_le hs h.size, fun i hi => by rw [h.cell (p := ⟨b, off + i, none⟩) hs (hS b off ha)]; exact hc i hi⟩
end

/-- The blocks of a struct that owns a row: its own, and the row's. -/
def Fp (g : Nat) (r : Option Nat) : Nat → Prop := fun k => k = g ∨ r = some k
/-- The row is the one that it was, or a new one. -/
def Nxt (r : Option Nat) (H : Nat) (r' : Option Nat) : Prop := r' = r ∨ ∃ k, r' = some k ∧ H ≤ k
theorem Nxt.refl (r : Option Nat) (H : Nat) : Nxt r H r := .inl rfl
theorem Nxt.trans {r r1 r2 : Option Nat} {H H1 : Nat} (h : Nxt r H r1) (k : Nxt r1 H1 r2) (hH : H ≤ H1) : Nxt r H r2 := by
  rcases k with rfl | ⟨j, rfl, hj⟩
  · exact h
  · exact .inr ⟨j, rfl, by omega⟩
theorem Only.next {g : Nat} {r r1 : Option Nat} {a b c : World} (h : Only (Fp g r) a b) (hn : Nxt r a.heap.size r1) (k : Only (Fp g r1) b c) : Only (Fp g r) a c :=
  h.trans k fun i hi hT => by
    rcases hT with rfl | hT
    · exact .inl rfl
    · rcases hn with rfl | ⟨j, rfl, hj⟩
      · exact .inr hT
      · injection hT with hT
        omega

theorem own_len_ne {E : TypeId} {base : Nat} {w : World} {v : Value} {l : List UInt8} {g : Nat} {t : TypeId} {cs : Array Value} (ho : Own E base w v l) (hb : Blk w g t cs) (ht : t ≠ E) : v.ownBlock ≠ some g := by
  rcases ho.2 with ⟨rfl, _⟩ | ⟨g', cap, cur, rfl, _, hgg, _⟩
  · simp [Value.ownBlock]
  · intro h
    simp only [Value.ownBlock, Option.some.injEq] at h
    subst h
    unfold Blk at hb
    rw [hgg] at hb
    injection hb with hb
    injection hb with _ hb
    exact ht hb.symm

/-- append(v, x...) of bytes at a step of a region that draws its order; where the new row lies. -/
theorem wp_append_lie {P : Program} {w : World} {o : Oper} {a : Act} {K : Act → World → Prop} {Q : Exit → Act → World → Prop} (s x : Operand) (t : TypeId)
    (ho : o.op = .call { callee := .builtin .append, args := #[s, x], argTypes := #[t, t] }) (base : Nat) (E : TypeId) (ht : P.underlying t = some (.slice E))
    (hi : (P.info? E).map (fun i => (i.zero, i.size, i.bytes)) = some (some (.int .u8 0), 1, 1))
    (v : Value) (l : List UInt8) (hs : a.eval s = v) (hown : Own E base w v l) (ad : Option Addr) (m c : Nat) (l2 : List UInt8) (hx : a.eval x = .slice ad m c) (hb : Bytes w ad m c l2)
    (hlen : l.length + m ≤ 140737488355328) (hbase : base ≤ w.heap.size)
    (h : ∀ v' w', Own E base w' v' (l ++ l2) → w.grownBy w' v.ownBlock → Nxt v.ownBlock w.heap.size v'.ownBlock → K (a.put o.dst v') w') : o.wp P a w K Q := by
  obtain ⟨i, hi, hz0, hz1, hz2⟩ := info_parts hi
  by_cases h0 : m = 0
  · subst h0
    have hl2 : l2 = [] := List.length_eq_zero_iff.1 hb.len_eq
    subst hl2
    obtain ⟨v', w', hr, h2, h3, _, h5⟩ : ∃ v' w', (Builtin.append_ #[t, t] o.type #[v, .slice ad 0 c]).run P w = .ok v' w' ∧ Own E base w' v' l ∧ w.grownBy w' v.ownBlock ∧ True ∧ (v'.ownBlock = v.ownBlock ∨ v'.ownBlock = some w.heap.size) := by
      cases ad with
      | none =>
        obtain ⟨_, rfl⟩ := hb.nil rfl
        have hrun := run_append_owned_none (P := P) (w := w) base t o.type E i 1 ht hi v l.length (l.map bv) hown
        exact ⟨v, w, hrun, hown, ⟨rfl, rfl, rfl, Nat.le_refl _, fun _ _ _ => rfl⟩, trivial, .inl rfl⟩
      | some ad =>
        obtain ⟨v', w', hr, h2, h3, _, h5⟩ := run_append_own_at (P := P) w base t o.type E i _ 1 1 ht hi hz0 hz1 hz2 rfl (by decide) v l.length (l.map bv) hown ad 0 c [] rfl (fun j u hu => by simp at hu) (fun u hu => by simp at hu) (by unfold maxLen; omega) (by omega) hbase
        refine ⟨v', w', hr, ?_, h3, trivial, h5⟩
        unfold Own
        rw [List.append_nil] at h2
        exact h2
    unfold Oper.wp execOp
    simp only [ho, resolve, invoke, builtin, Sem.run_bind, Sem.run_pure, Result.andThen_ok, List.map_toArray, List.map_cons, List.map_nil, hs, hx, hr]
    refine h v' w' (by rw [List.append_nil]; exact h2) h3 ?_
    rcases h5 with h5 | h5
    · exact .inl h5
    · exact .inr ⟨_, h5, Nat.le_refl _⟩
  · rcases hb.at_ with h1 | ⟨b, off, hab, hbs, hc⟩
    · omega
    subst hab
    refine wp_append_lies w s x t ho base E i _ 1 1 ht hi hz0 hz1 hz2 rfl (by decide) v l.length (l.map bv) hs hown ⟨b, off, none⟩ m c (l2.map bv) hx (by simp [hb.len_eq]) ?_ ?_ (by omega) (by unfold maxLen; omega) (by omega) hbase _ rfl ?_
    · intro j u hu
      have hj : j < l2.length := by have := (List.getElem?_eq_some_iff.1 hu).1; simpa using this
      rw [addr_add, hc j hj]
      rw [List.getElem?_map, List.getElem?_eq_getElem hj] at hu
      exact hu
    · intro u hu
      obtain ⟨b, _, rfl⟩ := List.mem_map.1 hu
      rfl
    · intro g cap w' h1 h2 h3 _
      refine h _ w' ?_ h2 ?_
      · unfold Own
        rw [List.length_append, List.map_append, hb.len_eq]
        exact h1
      · rcases h3 with h3 | rfl
        · exact .inl h3.symm
        · exact .inr ⟨_, rfl, Nat.le_refl _⟩
theorem step_append_lie {P : Program} {w : World} {ops : Array Oper} {o : Oper} {a : Act} {K : Act → World → Prop} {Q : Exit → Act → World → Prop} {F : Prop} (hgd : o.guard = none) (s x : Operand) (t : TypeId)
    (ho : o.op = .call { callee := .builtin .append, args := #[s, x], argTypes := #[t, t] }) (base : Nat) (E : TypeId) (ht : P.underlying t = some (.slice E))
    (hi : (P.info? E).map (fun i => (i.zero, i.size, i.bytes)) = some (some (.int .u8 0), 1, 1))
    (v : Value) (l : List UInt8) (hs : a.eval s = v) (hown : Own E base w v l) (ad : Option Addr) (m c : Nat) (l2 : List UInt8) (hx : a.eval x = .slice ad m c) (hb : Bytes w ad m c l2)
    (hlen : l.length + m ≤ 140737488355328) (hbase : base ≤ w.heap.size)
    (h : ∀ a' c' w', Own E base w' (.slice a' (l.length + m) c') (l ++ l2) → w.grownBy w' v.ownBlock → Nxt v.ownBlock w.heap.size (Value.ownBlock (.slice a' (l.length + m) c')) → K (a.put o.dst (.slice a' (l.length + m) c')) w') :
    if Region.wanted o (yielded ops a.tmps) = true then Oper.wp P o a w K Q else F := by
  have hw : Region.wanted o (yielded ops a.tmps) = true := by simp [Region.wanted, hgd]
  rw [if_pos hw]
  exact wp_append_lie s x t ho base E ht hi v l hs hown ad m c l2 hx hb hlen hbase fun v' w' h1 h2 h3 => by
    obtain ⟨a', c', rfl, _⟩ := h1.bytes
    rw [List.length_append, hb.len_eq] at *
    exact h a' c' w' h1 h2 h3
theorem wpList_append_lie {P : Program} {w : World} {ops : Array Oper} {rest : List Oper} {o : Oper} {a : Act} {Q : Exit → Act → World → Prop} (hw : Region.wanted o (yielded ops a.tmps) = true) (s x : Operand) (t : TypeId)
    (ho : o.op = .call { callee := .builtin .append, args := #[s, x], argTypes := #[t, t] }) (base : Nat) (E : TypeId) (ht : P.underlying t = some (.slice E))
    (hi : (P.info? E).map (fun i => (i.zero, i.size, i.bytes)) = some (some (.int .u8 0), 1, 1))
    (v : Value) (l : List UInt8) (hs : a.eval s = v) (hown : Own E base w v l) (ad : Option Addr) (m c : Nat) (l2 : List UInt8) (hx : a.eval x = .slice ad m c) (hb : Bytes w ad m c l2)
    (hlen : l.length + m ≤ 140737488355328) (hbase : base ≤ w.heap.size)
    (h : ∀ a' c' w', Own E base w' (.slice a' (l.length + m) c') (l ++ l2) → w.grownBy w' v.ownBlock → Nxt v.ownBlock w.heap.size (Value.ownBlock (.slice a' (l.length + m) c')) → wpList P ops Q rest (a.put o.dst (.slice a' (l.length + m) c')) w') : wpList P ops Q (o :: rest) a w :=
  wpList_of_wp hw fun _ hK => wp_append_lie s x t ho base E ht hi v l hs hown ad m c l2 hx hb hlen hbase fun v' w' h1 h2 h3 => by
    obtain ⟨a', c', rfl, _⟩ := h1.bytes
    rw [List.length_append, hb.len_eq] at *
    exact hK _ _ (h a' c' w' h1 h2 h3)
end Go.My
