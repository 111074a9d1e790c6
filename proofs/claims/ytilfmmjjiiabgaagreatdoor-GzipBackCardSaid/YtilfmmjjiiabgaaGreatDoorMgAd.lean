import Derived.Test.YtilfmmjjiiabgaaGreatDoorMgAa
import Derived.Deep.AppendLies
import Derived.Deep.Draws
import Derived.Below
import Derived.Deep.QuietTactic
import Derived.BigQuiet
import Derived.Test.YtilfmmjjiiabgaaGreatDoorMgAc
import Derived.Orders
import Derived.Test.YtilfmmjjiiabgaaGreatDoorRows
import Derived.Test.YtilfmmjjiiabgaaGreatDoorMgAb

section
/-
  Memory behind a pointer: a struct's block known whole, a slice of bytes that it owns, and what a call may turn of them. No program, no dump.
-/
namespace Go.My
open Go.RowKit

/-- Block g is just the cells cs of type t, none frozen. -/
def Blk (w : World) (g : Nat) (t : TypeId) (cs : Array Value) : Prop := w.heap[g]? = some (.cells cs t (0, 0))

/-- The block stands as it did: so does what is known of it. -/
theorem Blk.same {w w' : World} {g : Nat} {t : TypeId} {cs : Array Value} (h : Blk w g t cs) (e : w'.heap[g]? = w.heap[g]?) : Blk w' g t cs := e.trans h
section
variable {w w' : World} {g : Nat} {t : TypeId} {cs : Array Value}
theorem Blk.lt (h : Blk w g t cs) : g < w.heap.size := (Array.getElem?_eq_some_iff.1 (show w.heap[g]? = some _ from h)).1
theorem Blk.cell (h : Blk w g t cs) (i : Nat) : w.cell? ⟨g, i, none⟩ = cs[i]? := by rw [World.cell?]; simp only [show w.heap[g]? = _ from h]; rfl
theorem Blk.frozen (h : Blk w g t cs) (i : Nat) : w.frozen? ⟨g, i, none⟩ = false := by rw [World.frozen?]; simp [show w.heap[g]? = _ from h]
theorem Blk.new (w : World) (t : TypeId) (cs : Array Value) : Blk (w.alloc (.cells cs t)) w.heap.size t cs := heap_alloc_new w _
theorem Blk.drew (h : Blk w g t cs) : Blk w.drew g t cs := h
theorem Blk.alloc (h : Blk w g t cs) (o : Obj) : Blk (w.alloc o) g t cs := h.same (Below.heap_alloc w o g h.lt)
theorem Blk.set_ (h : Blk w g t cs) (i : Nat) (u : Value) : Blk (w.setCell ⟨g, i, none⟩ u) g t (cs.setIfInBounds i u) := by
  show (w.setCell ⟨g, i, none⟩ u).heap[g]? = _
  rw [World.setCell, Array.getElem?_modify, if_pos rfl, show w.heap[g]? = _ from h]
  rfl
theorem Blk.grown {row : Option Nat} (h : Blk w g t cs) (hb : w.grownBy w' row) (hg : some g ≠ row) : Blk w' g t cs := h.same (hb.block g h.lt hg)
end

/-- From w to w' only blocks of S have turned, and new ones have come. -/
structure Only (S : Nat → Prop) (w w' : World) : Prop where
  os : w'.os = w.os
  tape : w'.tape = w.tape
  output : w'.output = w.output
  size : w.heap.size ≤ w'.heap.size
  block : ∀ k, k < w.heap.size → ¬ S k → w'.heap[k]? = w.heap[k]?

section
variable {S T : Nat → Prop} {w w' a b c : World}
theorem Only.refl (S : Nat → Prop) (w : World) : Only S w w := ⟨rfl, rfl, rfl, Nat.le_refl _, fun _ _ _ => rfl⟩
theorem Only.trans (h : Only S a b) (k : Only T b c) (hT : ∀ i, i < a.heap.size → T i → S i) : Only S a c :=
  ⟨k.os.trans h.os, k.tape.trans h.tape, k.output.trans h.output, Nat.le_trans h.size k.size, fun i hi hs => (k.block i (Nat.lt_of_lt_of_le hi h.size) (fun ht => hs (hT i hi ht))).trans (h.block i hi hs)⟩
theorem Only.drew (h : Only S a b) : Only S a b.drew := ⟨h.os, h.tape, h.output, h.size, h.block⟩
theorem Only.drewN (h : Only S a b) (n : Nat) : Only S a (b.drewN n) := ⟨h.os, h.tape, h.output, h.size, h.block⟩
theorem Only.of_drewN {n : Nat} (h : Only S (a.drewN n) b) : Only S a b := ⟨h.os, h.tape, h.output, h.size, h.block⟩
theorem Only.alloc (h : Only S a b) (o : Obj) : Only S a (b.alloc o) :=
  h.trans (T := fun _ => False) ⟨rfl, rfl, rfl, by simp, fun k hk _ => Below.heap_alloc _ _ _ hk⟩ (fun _ _ h => h.elim)
theorem Only.setCell (h : Only S a b) {p : Addr} (hp : p.block < a.heap.size → S p.block) (u : Value) : Only S a (b.setCell p u) :=
  h.trans (T := fun k => k = p.block) ⟨rfl, rfl, rfl, by simp [World.setCell], fun k _ hs => Below.heap_setCell _ _ _ _ hs⟩ (fun i hi he => by subst he; exact hp hi)
theorem Only.grown {row : Option Nat} (h : Only S a b) (hg : b.grownBy c row) (hr : ∀ k, k < a.heap.size → row = some k → S k) : Only S a c :=
  h.trans (T := fun k => row = some k) ⟨hg.os, hg.tape, hg.output, hg.size, fun k hk hs => hg.block k hk (fun e => hs e.symm)⟩ (fun i hi he => hr i hi he)
theorem Only.of_below (h : Below w.heap.size w w') (S : Nat → Prop) : Only S w w' := ⟨h.os, h.tape, h.output, h.size, fun k hk _ => h.block k hk⟩
theorem Only.then_below (h : Only S a b) (k : Below b.heap.size b c) : Only S a c := h.trans (Only.of_below k S) (fun _ _ h => h)
theorem Only.below (h : Only S w w') {B : Nat} (hB : B ≤ w.heap.size) (hS : ∀ k, S k → B ≤ k) : Below B w w' :=
  ⟨h.os, h.tape, h.output, h.size, fun k hk => h.block k (by omega) (fun hs => by have := hS k hs; omega)⟩
theorem Only.mono (h : Only S w w') (hT : ∀ k, k < w.heap.size → S k → T k) : Only T w w' := ⟨h.os, h.tape, h.output, h.size, fun k hk ht => h.block k hk (fun hs => ht (hT k hk hs))⟩
theorem Only.blk {g : Nat} {t : TypeId} {cs : Array Value} (h : Only S w w') (hb : Blk w g t cs) (hg : ¬ S g) : Blk w' g t cs := (h.block g hb.lt hg).trans hb
theorem Only.cell (h : Only S w w') {p : Addr} (hp : p.block < w.heap.size) (hs : ¬ S p.block) : w'.cell? p = w.cell? p := World.cell?_of_block (w := w) (h.block p.block hp hs)
theorem Only.frozen (h : Only S w w') {p : Addr} (hp : p.block < w.heap.size) (hs : ¬ S p.block) : w'.frozen? p = w.frozen? p := World.frozen?_of_block (w := w) (h.block p.block hp hs)
theorem Only.own {E : TypeId} {base : Nat} {v : Value} {l : List UInt8} (h : Only S w w') (ho : Own E base w v l) (hv : ∀ k, v.ownBlock = some k → ¬ S k) : Own E base w' v l := by
  refine ⟨ho.1, ?_⟩
  rcases ho.2 with hn | ⟨g, cap, cur, rfl, hb, hgg, rest⟩
  · exact .inl hn
  · refine .inr ⟨g, cap, cur, rfl, hb, ?_, rest⟩
    rw [h.block g (Array.getElem?_eq_some_iff.1 hgg).1 (hv g rfl)]
    exact hgg
theorem Only.bytes {ad : Option Addr} {len cap : Nat} {l : List UInt8} (h : Only S w w') (hb : Bytes w ad len cap l) (hS : ∀ b off, ad = some ⟨b, off, none⟩ → ¬ S b) : Bytes w' ad len cap l := by
  refine ⟨hb.1, hb.2, hb.3, hb.4, hb.5.imp_right ?_⟩
  rintro ⟨b, off, ha, hs, hc⟩
  exact ⟨b, off, ha, Nat.lt_of_lt_of_le hs h.size, fun i hi => by rw [h.cell (p := ⟨b, off + i, none⟩) hs (hS b off ha)]; exact hc i hi⟩
end

/-- The blocks of a struct that owns a row: its own, and the row's. -/
def Fp (g : Nat) (r : Option Nat) : Nat → Prop := fun k => k = g ∨ r = some k
/-- The row is the one that it was, or a new one. -/
def Nxt (r : Option Nat) (H : Nat) (r' : Option Nat) : Prop := r' = r ∨ ∃ k, r' = some k ∧ H ≤ k
theorem Nxt.refl (r : Option Nat) (H : Nat) : Nxt r H r := .inl rfl
theorem Nxt.trans {r r1 r2 : Option Nat} {H H1 : Nat} (h : Nxt r H r1) (k : Nxt r1 H1 r2) (hH : H ≤ H1) : Nxt r H r2 := by
  rcases k with rfl | ⟨j, rfl, hj⟩
  · exact h
  · exact .inr ⟨j, rfl, by omega⟩
theorem Only.next {g : Nat} {r r1 : Option Nat} {a b c : World} (h : Only (Fp g r) a b) (hn : Nxt r a.heap.size r1) (k : Only (Fp g r1) b c) : Only (Fp g r) a c :=
  h.trans k fun i hi hT => by
    rcases hT with rfl | hT
    · exact .inl rfl
    · rcases hn with rfl | ⟨j, rfl, hj⟩
      · exact .inr hT
      · injection hT with hT
        omega

theorem own_len_ne {E : TypeId} {base : Nat} {w : World} {v : Value} {l : List UInt8} {g : Nat} {t : TypeId} {cs : Array Value} (ho : Own E base w v l) (hb : Blk w g t cs) (ht : t ≠ E) : v.ownBlock ≠ some g := by
  rcases ho.2 with ⟨rfl, _⟩ | ⟨g', cap, cur, rfl, _, hgg, _⟩
  · simp [Value.ownBlock]
  · intro h
    simp only [Value.ownBlock, Option.some.injEq] at h
    subst h
    unfold Blk at hb
    rw [hgg] at hb
    injection hb with hb
    injection hb with _ hb
    exact ht hb.symm

/-- append(v, x...) of bytes at a step of a region that draws its order; where the new row lies. -/
theorem wp_append_lie {P : Program} {w : World} {o : Oper} {a : Act} {K : Act → World → Prop} {Q : Exit → Act → World → Prop} (s x : Operand) (t : TypeId)
    (ho : o.op = .call { callee := .builtin .append, args := #[s, x], argTypes := #[t, t] }) (base : Nat) (E : TypeId) (ht : P.underlying t = some (.slice E))
    (hi : (P.info? E).map (fun i => (i.zero, i.size, i.bytes)) = some (some (.int .u8 0), 1, 1))
    (v : Value) (l : List UInt8) (hs : a.eval s = v) (hown : Own E base w v l) (ad : Option Addr) (m c : Nat) (l2 : List UInt8) (hx : a.eval x = .slice ad m c) (hb : Bytes w ad m c l2)
    (hlen : l.length + m ≤ 140737488355328) (hbase : base ≤ w.heap.size)
    (h : ∀ v' w', Own E base w' v' (l ++ l2) → w.grownBy w' v.ownBlock → Nxt v.ownBlock w.heap.size v'.ownBlock → K (a.put o.dst v') w') : o.wp P a w K Q := by
  obtain ⟨i, hi, hz0, hz1, hz2⟩ := info_parts hi
  by_cases h0 : m = 0
  · subst h0
    have hl2 : l2 = [] := List.length_eq_zero_iff.1 hb.len_eq
    subst hl2
    obtain ⟨v', w', hr, h2, h3, _, h5⟩ : ∃ v' w', (Builtin.append_ #[t, t] o.type #[v, .slice ad 0 c]).run P w = .ok v' w' ∧ Own E base w' v' l ∧ w.grownBy w' v.ownBlock ∧ True ∧ (v'.ownBlock = v.ownBlock ∨ v'.ownBlock = some w.heap.size) := by
      cases ad with
      | none =>
        obtain ⟨_, rfl⟩ := hb.nil rfl
        have hrun := run_append_owned_none (P := P) (w := w) base t o.type E i 1 ht hi v l.length (l.map bv) hown
        exact ⟨v, w, hrun, hown, ⟨rfl, rfl, rfl, Nat.le_refl _, fun _ _ _ => rfl⟩, trivial, .inl rfl⟩
      | some ad =>
        obtain ⟨v', w', hr, h2, h3, _, h5⟩ := run_append_own_at (P := P) w base t o.type E i _ 1 1 ht hi hz0 hz1 hz2 rfl (by decide) v l.length (l.map bv) hown ad 0 c [] rfl (fun j u hu => by simp at hu) (fun u hu => by simp at hu) (by unfold maxLen; omega) (by omega) hbase
        refine ⟨v', w', hr, ?_, h3, trivial, h5⟩
        unfold Own
        rw [List.append_nil] at h2
        exact h2
    unfold Oper.wp execOp
    simp only [ho, resolve, invoke, builtin, Sem.run_bind, Sem.run_pure, Result.andThen_ok, List.map_toArray, List.map_cons, List.map_nil, hs, hx, hr]
    refine h v' w' (by rw [List.append_nil]; exact h2) h3 ?_
    rcases h5 with h5 | h5
    · exact .inl h5
    · exact .inr ⟨_, h5, Nat.le_refl _⟩
  · rcases hb.at_ with h1 | ⟨b, off, hab, hbs, hc⟩
    · omega
    subst hab
    refine wp_append_lies w s x t ho base E i _ 1 1 ht hi hz0 hz1 hz2 rfl (by decide) v l.length (l.map bv) hs hown ⟨b, off, none⟩ m c (l2.map bv) hx (by simp [hb.len_eq]) ?_ ?_ (by omega) (by unfold maxLen; omega) (by omega) hbase _ rfl ?_
    · intro j u hu
      have hj : j < l2.length := by have := (List.getElem?_eq_some_iff.1 hu).1; simpa using this
      rw [addr_add, hc j hj]
      rw [List.getElem?_map, List.getElem?_eq_getElem hj] at hu
      exact hu
    · intro u hu
      obtain ⟨b, _, rfl⟩ := List.mem_map.1 hu
      rfl
    · intro g cap w' h1 h2 h3 _
      refine h _ w' ?_ h2 ?_
      · unfold Own
        rw [List.length_append, List.map_append, hb.len_eq]
        exact h1
      · rcases h3 with h3 | rfl
        · exact .inl h3.symm
        · exact .inr ⟨_, rfl, Nat.le_refl _⟩
theorem step_append_lie {P : Program} {w : World} {ops : Array Oper} {o : Oper} {a : Act} {K : Act → World → Prop} {Q : Exit → Act → World → Prop} {F : Prop} (hgd : o.guard = none) (s x : Operand) (t : TypeId)
    (ho : o.op = .call { callee := .builtin .append, args := #[s, x], argTypes := #[t, t] }) (base : Nat) (E : TypeId) (ht : P.underlying t = some (.slice E))
    (hi : (P.info? E).map (fun i => (i.zero, i.size, i.bytes)) = some (some (.int .u8 0), 1, 1))
    (v : Value) (l : List UInt8) (hs : a.eval s = v) (hown : Own E base w v l) (ad : Option Addr) (m c : Nat) (l2 : List UInt8) (hx : a.eval x = .slice ad m c) (hb : Bytes w ad m c l2)
    (hlen : l.length + m ≤ 140737488355328) (hbase : base ≤ w.heap.size)
    (h : ∀ a' c' w', Own E base w' (.slice a' (l.length + m) c') (l ++ l2) → w.grownBy w' v.ownBlock → Nxt v.ownBlock w.heap.size (Value.ownBlock (.slice a' (l.length + m) c')) → K (a.put o.dst (.slice a' (l.length + m) c')) w') :
    if Region.wanted o (yielded ops a.tmps) = true then Oper.wp P o a w K Q else F := by
  have hw : Region.wanted o (yielded ops a.tmps) = true := by simp [Region.wanted, hgd]
  rw [if_pos hw]
  exact wp_append_lie s x t ho base E ht hi v l hs hown ad m c l2 hx hb hlen hbase fun v' w' h1 h2 h3 => by
    obtain ⟨a', c', rfl, _⟩ := h1.bytes
    rw [List.length_append, hb.len_eq] at *
    exact h a' c' w' h1 h2 h3
theorem wpList_append_lie {P : Program} {w : World} {ops : Array Oper} {rest : List Oper} {o : Oper} {a : Act} {Q : Exit → Act → World → Prop} (hw : Region.wanted o (yielded ops a.tmps) = true) (s x : Operand) (t : TypeId)
    (ho : o.op = .call { callee := .builtin .append, args := #[s, x], argTypes := #[t, t] }) (base : Nat) (E : TypeId) (ht : P.underlying t = some (.slice E))
    (hi : (P.info? E).map (fun i => (i.zero, i.size, i.bytes)) = some (some (.int .u8 0), 1, 1))
    (v : Value) (l : List UInt8) (hs : a.eval s = v) (hown : Own E base w v l) (ad : Option Addr) (m c : Nat) (l2 : List UInt8) (hx : a.eval x = .slice ad m c) (hb : Bytes w ad m c l2)
    (hlen : l.length + m ≤ 140737488355328) (hbase : base ≤ w.heap.size)
    (h : ∀ a' c' w', Own E base w' (.slice a' (l.length + m) c') (l ++ l2) → w.grownBy w' v.ownBlock → Nxt v.ownBlock w.heap.size (Value.ownBlock (.slice a' (l.length + m) c')) → wpList P ops Q rest (a.put o.dst (.slice a' (l.length + m) c')) w') : wpList P ops Q (o :: rest) a w :=
  wpList_of_wp hw fun _ hK => wp_append_lie s x t ho base E ht hi v l hs hown ad m c l2 hx hb hlen hbase fun v' w' h1 h2 h3 => by
    obtain ⟨a', c', rfl, _⟩ := h1.bytes
    rw [List.length_append, hb.len_eq] at *
    exact hK _ _ (h a' c' w' h1 h2 h3)
end Go.My
end

section
/-
  Regions that draw their order, whose own operations only read, and whose callees may make memory: one walk in the order of the text, in the class of the worlds that keep all that was there. No program, no dump.
-/
namespace Go.My
open Go.RowKit

/-- A world that has come of w, all that was there kept. -/
structure Later (w : World) where
  at' : World
  kept : Below w.heap.size w at'

instance {w : World} : Inhabited (Later w) := ⟨⟨w, Below.refl _ w⟩⟩

theorem wp_region_later {P : Program} {id : Nat} {Q : Exit → Act → World → Prop} {a : Act} {w : World} {l : List Oper} (hm : P.follows .mixedOrders = true) (hB : Region.lexB .any l.toArray = true)
    (h : wpQuiet P l.toArray (fun w' => ∃ p : Later w, w' = p.at') (fun a' => ∀ w', (∃ p : Later w, w' = p.at') → Q .normal a' w') l a) : (Code.region id l.toArray true).wp P Q a w :=
  wp_region_quiet (C := fun w' => ∃ p : Later w, w' = p.at') hm hB ⟨⟨_, (Below.refl _ w).drew⟩, rfl⟩ (by simpa using h)

theorem later_of {P : Program} {f : FuncId} {args : Array Value} {w : World} {p : Later w} {v : Value}
    (h : Calls P f args p.at' fun e w'' => e = .returned v ∧ Below p.at'.heap.size p.at' w'') : Calls P f args p.at' fun e w'' => e = .returned v ∧ ∃ q : Later w, w'' = q.at' :=
  h.mono fun _ _ ⟨he, hb⟩ => ⟨he, ⟨_, p.kept.trans (hb.mono p.kept.size)⟩, rfl⟩
end Go.My
end

section
/-
  gzip's reader of a header: fail, demand, number, skip, text.
-/
namespace Go.Proofs.YtilfmmjjiiabgaaGreatDoor.GzC
open Go.RowKit Go.My GzMath
open Go.My.NumMath (num_lt)

/-- What is thrown. -/
def fault (c at_ : Int) : Value := .iface 73 (.agg #[.int .i64 c, .int .i64 at_])
def Thrown (c : Nat) (e : Ending) : Prop := ∃ at_ : Int, e = .panicked [{ v := fault (c : Int) at_, recovered := false }]

theorem only_bytes {S : Nat → Prop} {w w' : World} {a : Option Addr} {len cap : Nat} {l : List UInt8} (h : Only S w w') (hb : Bytes w a len cap l) (hS : 0 < len → ∀ b off, a = some ⟨b, off, none⟩ → ¬ S b) : Bytes w' a len cap l := by
  by_cases h0 : len = 0
  · exact ⟨hb.1, hb.2, hb.3, hb.4, .inl h0⟩
  · exact h.bytes hb (hS (by omega))
/-- A reader in memory: of the row l, so far on; what has turned since the world w0. -/
structure Rdr (w0 : World) (x : Nat) (a : Option Addr) (len cap : Nat) (l : List UInt8) (at_ : Nat) (w : World) : Prop where
  blk : Blk w x 61 #[.slice a len cap, .int .i64 (at_ : Int)]
  row : Bytes w a len cap l
  ne : 0 < len → ∀ b off, a = some ⟨b, off, none⟩ → b ≠ x
  only : Only (fun k => k = x) w0 w
  le : at_ ≤ len
  top : len ≤ 1099511627776
section
variable {w0 w w' : World} {x : Nat} {a : Option Addr} {len cap at_ : Nat} {l : List UInt8}
theorem Rdr.len_eq (h : Rdr w0 x a len cap l at_ w) : l.length = len := h.row.len_eq
theorem Rdr.below (h : Rdr w0 x a len cap l at_ w) (hb : Below w.heap.size w w') : Rdr w0 x a len cap l at_ w' :=
  ⟨h.blk.same (hb.block x h.blk.lt), h.row.below (Nat.le_refl _) hb, h.ne, h.only.then_below hb, h.le, h.top⟩
theorem Rdr.move (h : Rdr w0 x a len cap l at_ w) (k : Nat) (hk : k ≤ len) : Rdr w0 x a len cap l k (w.setCell ⟨x, 1, none⟩ (.int .i64 (k : Int))) := by
  have ho : Only (fun k => k = x) w (w.setCell ⟨x, 1, none⟩ (.int .i64 (k : Int))) := ((Only.refl (fun k => x = k) w).setCell (p := ⟨x, 1, none⟩) (fun _ => rfl) _).mono (fun _ _ h => h.symm)
  exact ⟨h.blk.set_ 1 _, only_bytes ho h.row (fun h0 b off hb hs => h.ne h0 b off hb hs), h.ne, h.only.trans ho (fun _ _ h => h), hk, h.top⟩
theorem Rdr.c0 (h : Rdr w0 x a len cap l at_ w) : w.cell? ⟨x, 0, none⟩ = some (.slice a len cap) := h.blk.cell 0
theorem Rdr.c1 (h : Rdr w0 x a len cap l at_ w) : w.cell? ⟨x, 1, none⟩ = some (.int .i64 (at_ : Int)) := h.blk.cell 1
theorem Rdr.f1 (h : Rdr w0 x a len cap l at_ w) : w.frozen? ⟨x, 1, none⟩ = false := h.blk.frozen 1
end

theorem caught_nil (w : World) : Calls Tryz.prog 27 #[.nilIface] w fun e w' => e = .returned (.int .i64 0) ∧ w = w' := by
  go_enter Tryz.func27, Tryz.ntmps27
  go_wp2
  go_ret
  exact ⟨rfl, rfl⟩
set_option maxRecDepth 100000 in
theorem caught_fault (c at_ : Int) (w : World) : Calls Tryz.prog 27 #[fault c at_] w fun e w' => e = .returned (.int .i64 c) ∧ Below w.heap.size w w' := by
  unfold fault
  have hta : ∀ w, (Instr.typeAssert (.iface 73 (.agg #[.int .i64 c, .int .i64 at_])) 20 73 true).run Tryz.prog w = .ok (.tuple #[.agg #[.int .i64 c, .int .i64 at_], .bool true]) w := fun _ => by kernel_rfl
  go_enter Tryz.func27, Tryz.ntmps27
  go_wp2
  go_ret
  exact ⟨rfl, (Below.refl _ _).alloc (Nat.le_refl _) _⟩

section
variable {w0 w : World} {x : Nat} {a : Option Addr} {len cap at_ : Nat} {l : List UInt8}
theorem fail_any (c : Nat) (h : Hid (Rdr w0 x a len cap l at_ w)) :
    Calls Tryz.prog 49 #[.pointer (some ⟨x, 0, none⟩), .int .i64 (c : Int)] w fun e w' => Thrown c e ∧ w = w' := by
  have h1 := h.out.c1
  clear h
  go_enter Tryz.func49, Tryz.ntmps49
  go_wp2_with fail
  exact ⟨rfl, ⟨_, rfl⟩, rfl⟩
theorem demand_yes (x : Nat) (w : World) :
    Calls Tryz.prog 38 #[.pointer (some ⟨x, 0, none⟩), .bool true] w fun e w' => e = .returned (.tuple #[]) ∧ w = w' := by
  go_enter Tryz.func38, Tryz.ntmps38
  go_wp2_with fail
  go_end0
  exact ⟨rfl, rfl⟩
theorem demand_no (h : Hid (Rdr w0 x a len cap l at_ w)) :
    Calls Tryz.prog 38 #[.pointer (some ⟨x, 0, none⟩), .bool false] w fun e w' => Thrown 2 e ∧ w = w' := by
  go_enter Tryz.func38, Tryz.ntmps38
  go_wp2_with fail
  refine (fail_any 2 h).mono ?_
  rintro e w' ⟨⟨k, rfl⟩, rfl⟩
  go_wp2_with fail
  exact ⟨rfl, ⟨_, rfl⟩, rfl⟩

/-- num.Little of n bytes, whether they are there or not. -/
theorem little_all (a : Option Addr) (len cap k n : Nat) (l : List UInt8) (w : World) (hb : Bytes w a len cap l) (h1 : 1 ≤ n) (h2 : n ≤ 8) :
    Calls Tryz.prog 50 #[.slice a len cap, .int .i64 (k : Int), .int .i64 (n : Int)] w fun e w' => e = .returned (.tuple #[.int .u64 ((if len < k + n then 0 else Go.My.NumMath.num false ((l.drop k).take n) : Nat) : Int), .int .i64 ((if len < k + n then 5 else 0 : Nat) : Int)]) ∧ Below w.heap.size w w' := by
  by_cases h : len < k + n
  · rw [if_pos h, if_pos h]
    exact NumC.little_short a len cap k n w (by have := hb.le_cap; have := hb.cap_le; omega) (by omega) (by omega) (.inr (by omega))
  · rw [if_neg h, if_neg h]
    obtain ⟨b, off, rfl⟩ := hb.some_ (by omega)
    exact NumC.little_ok b off len cap k n l w hb h1 h2 (by omega)

set_option maxRecDepth 100000 in
set_option maxHeartbeats 1000000 in
theorem number_any (n : Nat) (h : Hid (Rdr w0 x a len cap l at_ w)) (h1 : 1 ≤ n) (h2 : n ≤ 4) :
    Calls Tryz.prog 39 #[.pointer (some ⟨x, 0, none⟩), .int .i64 (n : Int)] w fun e w' =>
      (l.length < at_ + n ∧ Thrown 5 e ∧ Only (fun k => k = x) w0 w') ∨
      (at_ + n ≤ l.length ∧ e = .returned (.int .i64 (Go.My.NumMath.num false ((l.drop at_).take n) : Int)) ∧ Hid (Rdr w0 x a len cap l (at_ + n) w')) := by
  have hlen := h.out.len_eq
  have htop := h.out.top
  have c0 : ∀ p : Later w, p.at'.cell? ⟨x, 0, none⟩ = some (.slice a len cap) := fun p => (h.out.below p.kept).c0
  have c1 : ∀ p : Later w, p.at'.cell? ⟨x, 1, none⟩ = some (.int .i64 (at_ : Int)) := fun p => (h.out.below p.kept).c1
  have HL : Hid (∀ p : Later w, Calls Tryz.prog 50 #[.slice a len cap, .int .i64 (at_ : Int), .int .i64 (n : Int)] p.at' fun e w' => e = .returned (.tuple #[.int .u64 ((if len < at_ + n then 0 else Go.My.NumMath.num false ((l.drop at_).take n) : Nat) : Int), .int .i64 ((if len < at_ + n then 5 else 0 : Nat) : Int)]) ∧ ∃ q : Later w, w' = q.at') := Lib.hid fun p => later_of (little_all a len cap at_ n l p.at' (h.out.row.below (Nat.le_refl _) p.kept) h1 (by omega))
  have HN := Lib.hid (And.intro hlen (And.intro h1 h2))
  clear hlen h1 h2
  by_cases hs : len < at_ + n
  · simp only [if_pos hs] at HL
    go_enter Tryz.func39, Tryz.ntmps39
    go_wp2_with (refine wp_region_later (by kernel_rfl) (by kernel_rfl) ?_)
    repeat (go_big_quiet_step (first | (go_at_call 50; exact HL.out _)))
    refine wpQuiet_nil ?_
    rintro _ ⟨p, rfl⟩
    have HR := Lib.hid (h.out.below p.kept)
    clear c0 c1 HL h
    generalize p.at' = W at *
    go_wp2_with fail
    refine (fail_any 5 HR).mono ?_
    rintro e w' ⟨⟨k, rfl⟩, rfl⟩
    go_wp2_with fail
    exact ⟨rfl, .inl ⟨by have := HN.out.1; omega, ⟨_, rfl⟩, HR.out.only⟩⟩
  · simp only [if_neg hs] at HL
    obtain ⟨v, hv⟩ : ∃ v, v = Go.My.NumMath.num false ((l.drop at_).take n) := ⟨_, rfl⟩
    have hvlt : v < 4294967296 := by
      have := num_lt false ((l.drop at_).take n)
      have hl2 : ((l.drop at_).take n).length = n := by simp; have := HN.out.1; omega
      have h4 := HN.out.2.2
      have h5 := Nat.pow_le_pow_right (show 1 ≤ 256 by omega) h4
      rw [hl2] at this
      omega
    rw [← hv] at HL ⊢
    have HV := Lib.hid hv
    have w1 : IntKind.i64.wrap ((at_ : Int) + (n : Int)) = ((at_ + n : Nat) : Int) := by rw [IntWalk.i64_in _ (by have := HN.out.2.2; omega)]; omega
    have w2 : IntKind.i64.wrap (v : Int) = (v : Int) := IntWalk.i64_in _ (by omega)
    clear hv
    go_enter Tryz.func39, Tryz.ntmps39
    go_wp2_with (refine wp_region_later (by kernel_rfl) (by kernel_rfl) ?_)
    repeat (go_big_quiet_step (first | (go_at_call 50; exact HL.out _)))
    refine wpQuiet_nil ?_
    rintro _ ⟨p, rfl⟩
    have HR := Lib.hid (h.out.below p.kept)
    clear c0 c1 HL h
    generalize p.at' = W at *
    have c1 := HR.out.c1
    have f1 := HR.out.f1
    go_wp2_with fail
    go_ret
    exact .inr ⟨by have := HN.out.1; omega, rfl, Lib.hid (HR.out.move (at_ + n) (by omega))⟩

set_option maxRecDepth 100000 in
set_option maxHeartbeats 1000000 in
theorem skip_any (n : Nat) (h : Hid (Rdr w0 x a len cap l at_ w)) (hn : n ≤ 1099511627776) :
    Calls Tryz.prog 41 #[.pointer (some ⟨x, 0, none⟩), .int .i64 (n : Int)] w fun e w' =>
      (l.length < at_ + n ∧ Thrown 5 e ∧ Only (fun k => k = x) w0 w') ∨ (at_ + n ≤ l.length ∧ e = .returned (.tuple #[]) ∧ Hid (Rdr w0 x a len cap l (at_ + n) w')) := by
  have hlen := h.out.len_eq
  have htop := h.out.top
  have hle := h.out.le
  have c0 : w.cell? ⟨x, 0, none⟩ = some (.slice a len cap) := h.out.c0
  have c1 : w.cell? ⟨x, 1, none⟩ = some (.int .i64 (at_ : Int)) := h.out.c1
  have c0' : w.drew.cell? ⟨x, 0, none⟩ = some (.slice a len cap) := h.out.c0
  have c1' : w.drew.cell? ⟨x, 1, none⟩ = some (.int .i64 (at_ : Int)) := h.out.c1
  have f1 : w.drew.frozen? ⟨x, 1, none⟩ = false := h.out.f1
  have HR : Hid (Rdr w0 x a len cap l at_ w.drew) := Lib.hid (h.out.below ((Below.refl _ _).drew))
  have w1 : IntKind.i64.wrap ((len : Int) - (at_ : Int)) = (len : Int) - (at_ : Int) := IntWalk.i64_in _ (by omega)
  have HN := Lib.hid hlen
  clear h hlen
  by_cases hs : len < at_ + n
  · have hd : decide ((n : Int) > (len : Int) - (at_ : Int)) = true := by simp; omega
    go_enter Tryz.func41, Tryz.ntmps41
    go_wp2_with fail
    go_region
    all_goals
      go_wp2_with fail
      refine (fail_any 5 HR).mono ?_
      rintro e w' ⟨⟨k, rfl⟩, rfl⟩
      go_wp2_with fail
      exact ⟨rfl, .inl ⟨by have := HN.out; omega, ⟨_, rfl⟩, HR.out.only⟩⟩
  · have hd : decide ((n : Int) > (len : Int) - (at_ : Int)) = false := by simp; omega
    have w2 : IntKind.i64.wrap ((at_ : Int) + (n : Int)) = ((at_ + n : Nat) : Int) := by rw [IntWalk.i64_in _ (by omega)]; omega
    go_enter Tryz.func41, Tryz.ntmps41
    go_wp2_with fail
    go_region
    all_goals
      go_wp2_with fail
      go_end0
      exact .inr ⟨by have := HN.out; omega, rfl, Lib.hid (HR.out.move (at_ + n) (by omega))⟩
end
end Go.Proofs.YtilfmmjjiiabgaaGreatDoor.GzC
end

section
/-
  gzip's reader: a text up to a byte 0.
-/
namespace Go.Proofs.YtilfmmjjiiabgaaGreatDoor.GzC
open Go.RowKit Go.My GzMath

/-- b[k:] -/
theorem cut_from {w : World} {a : Option Addr} {n c : Nat} {l : List UInt8} (h : Bytes w a n c l) (k : Nat) (hk : k ≤ n) :
    ∃ a', (if c = k then a else a.map fun x => x.add k) = a' ∧ (∀ W, (Instr.slice 25 (.slice a n c) (some (.int .i64 (k : Int))) none none).run Tryz.prog W = .ok (.slice a' (n - k) (c - k)) W) ∧ Bytes w a' (n - k) (c - k) (l.drop k) ∧ ∀ b o, a' = some ⟨b, o, none⟩ → ∃ o', a = some ⟨b, o', none⟩ := by
  have hr : ∀ W, (Instr.slice 25 (.slice a n c) (some (.int .i64 (k : Int))) none none).run Tryz.prog W = .ok (.slice (if c = k then a else a.map fun x => x.add k) (n - k) (c - k)) W := fun W => by
    rw [run_slice_l (ht := by kernel_rfl) (h0 := by omega) (h1 := by omega)]
    have e : (sizeOf (Tryz.prog.elem 25)).run Tryz.prog W = .ok 1 W := by kernel_rfl
    rw [e]
    simp only [Result.andThen, sliced, Int.toNat_natCast, Nat.mul_one]
  by_cases hc : c = k
  · have hn : n = k := by have := h.le_cap; omega
    simp only [if_pos hc] at hr
    refine ⟨a, if_pos hc, hr, ⟨by simp [h.len_eq], by omega, by have := h.cap_le; omega, fun e => ⟨by omega, by omega⟩, .inl (by omega)⟩, fun b o e => ⟨o, e⟩⟩
  · simp only [if_neg hc] at hr
    cases a with
    | none => exact absurd ((h.nil rfl).2) (by have := (h.nil rfl).1; omega)
    | some x =>
      obtain ⟨b, off, sp⟩ := x
      by_cases h0 : n = 0
      · refine ⟨_, if_neg hc, hr, ⟨by simp [h.len_eq], by omega, by have := h.cap_le; omega, fun e => (by cases e), .inl (by omega)⟩, fun b' o e => ?_⟩
        obtain rfl : k = 0 := by omega
        exact ⟨o, by simpa [Addr.add] using e⟩
      · obtain ⟨b', off', he⟩ := h.some_ (by omega)
        cases he
        refine ⟨_, if_neg hc, hr, ?_, fun b' o e => ?_⟩
        · have := h.drop k hk
          simp only [Option.map_some, addr_add]
          exact this
        · simp only [Option.map_some, addr_add, Option.some.injEq, Addr.mk.injEq, and_true] at e
          exact ⟨off, by rw [e.1]⟩

section
variable {w0 w : World} {x : Nat} {a : Option Addr} {len cap at_ : Nat} {l : List UInt8}
theorem zerI_cut {L : List UInt8} {M : Nat} (hM : M = min L.length 65536) : zerI (L.take M) = if tx L = 0 then (zer L : Int) else -1 := by
  have hl : (L.take M).length = M := by simp; omega
  have hz := zer_take L M
  unfold zerI
  rw [hl, hz]
  rcases tx_cases L with ⟨h, h1, h2⟩ | ⟨h, h1, h2⟩ | ⟨h, h1, h2⟩
  · rw [if_pos h, if_pos (by omega)]; congr 1; omega
  · rw [if_neg (by omega), if_neg (by omega)]
  · rw [if_neg (by omega), if_neg (by omega)]
set_option maxRecDepth 100000 in
set_option maxHeartbeats 2000000 in
theorem text_any (h : Hid (Rdr w0 x a len cap l at_ w)) :
    Calls Tryz.prog 42 #[.pointer (some ⟨x, 0, none⟩)] w fun e w' =>
      (tx (l.drop at_) ≠ 0 ∧ Thrown (tx (l.drop at_)) e ∧ Only (fun k => k = x) w0 w') ∨
      (tx (l.drop at_) = 0 ∧ zer (l.drop at_) < (l.drop at_).length ∧ ∃ a' c', e = .returned (.slice a' (zer (l.drop at_)) c') ∧ Hid (Bytes w' a' (zer (l.drop at_)) c' ((l.drop at_).take (zer (l.drop at_)))) ∧ (∀ b o, a' = some ⟨b, o, none⟩ → ∃ o', a = some ⟨b, o', none⟩) ∧ Hid (Rdr w0 x a len cap l (at_ + zer (l.drop at_) + 1) w')) := by
  have hlen := h.out.len_eq
  have htop := h.out.top
  have hle := h.out.le
  have c0 : w.drew.cell? ⟨x, 0, none⟩ = some (.slice a len cap) := h.out.c0
  have c1 : w.drew.cell? ⟨x, 1, none⟩ = some (.int .i64 (at_ : Int)) := h.out.c1
  have f1 : w.drew.frozen? ⟨x, 1, none⟩ = false := h.out.f1
  have HR : Hid (Rdr w0 x a len cap l at_ w.drew) := Lib.hid (h.out.below ((Below.refl _ _).drew))
  obtain ⟨P0, hp0, _, hB, hP⟩ := cut_from h.out.row at_ hle
  have HB : Hid (Bytes w.drew P0 (len - at_) (cap - at_) (l.drop at_)) := Lib.hid (hB.below (Nat.le_refl _) ((Below.refl _ _).drew))
  have HP : Hid (0 < len → ∀ b o, P0 = some ⟨b, o, none⟩ → b ≠ x) := Lib.hid fun h0 b o e => by obtain ⟨o', e'⟩ := hP b o e; exact h.out.ne h0 b o' e'
  obtain ⟨L, hL⟩ : ∃ L, L = l.drop at_ := ⟨_, rfl⟩
  obtain ⟨R, hRR⟩ : ∃ R, R = len - at_ := ⟨_, rfl⟩
  obtain ⟨C, hC⟩ : ∃ C, C = cap - at_ := ⟨_, rfl⟩
  have hLR : L.length = R := by rw [hL, hRR]; simp; omega
  rw [← hL] at HB ⊢
  rw [← hRR] at HB
  rw [← hC] at HB
  have hCle : R ≤ C := HB.out.le_cap
  have hCtop : C ≤ 9223372036854775807 := HB.out.cap_le
  have hRtop : R ≤ 1099511627776 := by omega
  have hat : at_ + R ≤ len := by omega
  have HPP := Lib.hid hP
  have hR1 := hRR.symm
  have hC1 := hC.symm
  clear hB hP hL hRR hC hlen h
  obtain ⟨M, hM⟩ : ∃ M, M = min R 65536 := ⟨_, rfl⟩
  have hmin : (if (65536 : Int) < (R : Int) then (65536 : Int) else (R : Int)) = (M : Int) := by split <;> omega
  have hMR : M ≤ R := by omega
  have HZ := Lib.hid (zerI_cut (L := L) (M := M) (by rw [hLR]; exact hM))
  have HQ : Hid (Calls Tryz.prog 52 #[.slice P0 M C, .int .u8 0] w.drew fun e w' => e = .returned (.int .i64 (zerI (L.take M))) ∧ w.drew = w') := Lib.hid (index_zero P0 M C (L.take M) w.drew (HB.out.take M hMR))
  have HM := Lib.hid hM
  clear hM
  rw [HZ.out] at HQ
  clear HZ
  obtain ⟨k, hk⟩ : ∃ k, k = zer L := ⟨_, rfl⟩
  rw [← hk] at HQ ⊢
  have HK := Lib.hid hk
  clear hk
  rcases tx_cases L with ⟨ht, ht1, ht2⟩ | ⟨ht, ht1, ht2⟩ | ⟨ht, ht1, ht2⟩
  · rw [if_pos ht] at HQ
    rw [ht]
    rw [← HK.out] at ht1 ht2
    have HLR := Lib.hid hLR
    have hk1 : k < R := by omega
    have w1 : IntKind.i64.wrap ((k : Int) + 1) = ((k + 1 : Nat) : Int) := by rw [IntWalk.i64_in _ (by omega)]; omega
    have w2 : IntKind.i64.wrap ((at_ : Int) + ((k + 1 : Nat) : Int)) = ((at_ + k + 1 : Nat) : Int) := by rw [IntWalk.i64_in _ (by omega)]; omega
    clear ht1 hLR ht
    go_enter Tryz.func42, Tryz.ntmps42
    go_wp2_with fail
    go_region
    all_goals
      go_wp2_with fail
      refine HQ.out.mono ?_
      rintro e w' ⟨rfl, rfl⟩
      go_wp2_with fail
      go_ret
      refine .inr ⟨by trivial, by rw [HLR.out]; exact hk1, _, _, rfl, Lib.hid ?_, HPP.out, Lib.hid (HR.out.move (at_ + k + 1) (by omega))⟩
      exact ((HR.out.move (at_ + k + 1) (by omega)).only |> fun _ => (((Only.refl (fun k => x = k) w.drew).setCell (p := ⟨x, 1, none⟩) (fun _ => rfl) (.int .i64 ((at_ + k + 1 : Nat) : Int))).bytes (HB.out.take k (by omega)) (fun b o e hs => HP.out (by omega) b o e hs.symm)))
  · rw [if_neg (by rw [ht]; decide)] at HQ
    rw [ht]
    have hd : decide ((R : Int) ≤ 65535) = true := by simp; omega
    clear ht1 ht2 ht hLR
    go_enter Tryz.func42, Tryz.ntmps42
    go_wp2_with fail
    go_region
    all_goals
      go_wp2_with fail
      refine HQ.out.mono ?_
      rintro e w' ⟨rfl, rfl⟩
      go_wp2_with fail
      refine (demand_yes x _).mono ?_
      rintro e w' ⟨rfl, rfl⟩
      go_wp2_with fail
      refine (fail_any 5 HR).mono ?_
      rintro e w' ⟨⟨q, rfl⟩, rfl⟩
      go_wp2_with fail
      exact ⟨rfl, .inl ⟨by decide, ⟨_, rfl⟩, HR.out.only⟩⟩
  · rw [if_neg (by rw [ht]; decide)] at HQ
    rw [ht]
    have hd : decide ((R : Int) ≤ 65535) = false := by simp; omega
    clear ht1 ht2 ht hLR
    go_enter Tryz.func42, Tryz.ntmps42
    go_wp2_with fail
    go_region
    all_goals
      go_wp2_with fail
      refine HQ.out.mono ?_
      rintro e w' ⟨rfl, rfl⟩
      go_wp2_with fail
      refine (demand_no HR).mono ?_
      rintro e w' ⟨⟨q, rfl⟩, rfl⟩
      go_wp2_with fail
      exact ⟨rfl, .inl ⟨by decide, ⟨_, rfl⟩, HR.out.only⟩⟩
end
end Go.Proofs.YtilfmmjjiiabgaaGreatDoor.GzC
end

section
namespace Go.Proofs.YtilfmmjjiiabgaaGreatDoor.CrcC
open Go.RowKit Go.My CrcMath

theorem bv_xor (a b : BitVec 32) : bits .xor .u32 (a.toNat : Int) (b.toNat : Int) = ((a ^^^ b).toNat : Int) := by
  rw [u32_xor_nat _ _ a.isLt b.isLt, BitVec.toNat_xor]
theorem bv_and (a b : BitVec 32) : bits .and .u32 (a.toNat : Int) (b.toNat : Int) = ((a &&& b).toNat : Int) := by
  rw [u32_and_nat _ _ a.isLt b.isLt, BitVec.toNat_and]
theorem bv_or (a b : BitVec 32) : bits .or .u32 (a.toNat : Int) (b.toNat : Int) = ((a ||| b).toNat : Int) := by
  rw [u32_or_nat _ _ a.isLt b.isLt, BitVec.toNat_or]
theorem bv_low (a : BitVec 32) : (bits .and .u32 (a.toNat : Int) 1 == 1) = a.getLsbD 0 := by
  rw [show (1 : Int) = ((1#32 : BitVec 32).toNat : Int) from rfl, bv_and]
  rw [Bool.eq_iff_iff, beq_iff_eq]
  have : (a &&& 1#32).toNat = a.toNat % 2 := by
    rw [BitVec.toNat_and]; simp [Nat.and_one_is_mod]
  rw [this, BitVec.getLsbD, Nat.testBit_zero]
  simp
  omega
theorem bv_half (a : BitVec 32) : (a.toNat : Int) / (2 : Int) = ((a >>> 1).toNat : Int) := by
  rw [BitVec.toNat_ushiftRight, Nat.shiftRight_eq_div_pow]; simp

set_option maxHeartbeats 400000 in
theorem step_bv (r : BitVec 32) (w : World) :
    Calls Tryz.prog 76 #[.int .u32 (r.toNat : Int)] w fun e w' => e = .returned (.int .u32 ((cstep r).toNat : Int)) ∧ w = w' := by
  have hlow := bv_low r
  cases h : r.getLsbD 0
  · rw [h] at hlow
    go_enter Tryz.func76, Tryz.ntmps76
    go_wp2
    go_ret
    exact ⟨ret_int (by rw [bv_half, cstep, if_neg (by rw [h]; simp)]), rfl⟩
  · rw [h] at hlow
    go_enter Tryz.func76, Tryz.ntmps76
    go_wp2
    go_ret
    exact ⟨ret_int (by rw [bv_half, cstep, if_pos h, ← bv_xor]; rfl), rfl⟩

theorem ext_toNat (b : UInt8) : (ext b).toNat = b.toNat := by
  unfold ext; rw [BitVec.toNat_setWidth]; have := b.toNat_lt; simp

set_option maxHeartbeats 400000 in
theorem bitByBit_bv (r : BitVec 32) (a : Option Addr) (len cap : Nat) (l : List UInt8) (w : World) (hb : Bytes w a len cap l) :
    Calls Tryz.prog 61 #[.int .u32 (r.toNat : Int), .slice a len cap] w fun e w' => e = .returned (.int .u32 ((reg r l).toNat : Int)) ∧ w = w' := by
  obtain ⟨rfl, hlc, hcm, _, hb⟩ := hb
  have hm : l.length ≤ 9223372036854775807 := by omega
  clear hlc hcm
  go_enter Tryz.func61, Tryz.ntmps61
  go_wp2
  go_loop [0, 9] (fun x i => ∃ k : Nat, k ≤ l.length ∧ i = .int .i64 k ∧ x = .int .u32 ((reg r (l.take k)).toNat : Int)) (fun _ i => l.length - (intOf i).toNat)
  case atStart => exact ⟨0, Nat.zero_le _, rfl, rfl⟩
  case round =>
    obtain ⟨k, hk, rfl, rfl⟩ := hrel
    by_cases hlt : k < l.length
    · rcases hb with h0 | ⟨b, off, rfl, hbs, hc⟩
      · omega
      have hck := hc k hlt
      have hv : (l[k].toNat : Int) < 256 := by have := l[k].toNat_lt; omega
      clear hc
      go_wp2
      go_loop [0, 17] (fun x i => ∃ j : Nat, j ≤ 8 ∧ i = .int .i64 j ∧ x = .int .u32 ((cstepN j (reg r (l.take k) ^^^ ext l[k])).toNat : Int)) (fun _ i => 8 - (intOf i).toNat)
      case atStart => exact ⟨0, by omega, rfl, by rw [cstepN, ← bv_xor, ext_toNat]⟩
      case round =>
        obtain ⟨j, hj, rfl, rfl⟩ := hrel
        clear hck hv
        by_cases hlt8 : j < 8
        · go_wp2_with (go_at_call 76; refine (step_bv _ _).mono ?_; rintro e w' ⟨rfl, rfl⟩)
          go_round
          case rel => exact ⟨j + 1, by omega, by go_num, by rw [cstepN_succ']⟩
          case measure => simp [intOf]; omega
        · obtain rfl : j = 8 := by omega
          go_wp2
          go_round
          case rel => exact ⟨k + 1, by omega, by go_num, by rw [List.take_succ_eq_append_getElem hlt, reg_append]; rfl⟩
          case measure => simp [intOf]; omega
    · go_wp2
      go_ret
      exact ⟨ret_int (by rw [List.take_of_length_le (by omega)]), rfl⟩

end Go.Proofs.YtilfmmjjiiabgaaGreatDoor.CrcC
end
