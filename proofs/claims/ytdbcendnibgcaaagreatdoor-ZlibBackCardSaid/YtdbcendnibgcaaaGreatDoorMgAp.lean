import Derived.Test.YtdbcendnibgcaaaGreatDoorMgAi
import Derived.Laws.Rows
import Derived.Laws.Tables
import Derived.Test.YtdbcendnibgcaaaGreatDoorRows
import Derived.Test.YtdbcendnibgcaaaGreatDoorMgAo
import Derived.Laws.Pointers
import Derived.Deep.QuietTactic
import Derived.BigQuiet
import Derived.Deep.DeepCutAuto
import Derived.Deep.CutBlock
import Derived.StillTailTactics
import Derived.BigRegion
import Derived.Deep.RegionHeld3
import Derived.Deep.RegionWith

section
/-
  Slices of values of one cell (ints, words, texts): what came in, what a call made of its own; make, append. No program, no dump.
-/
namespace Go.My
open Go.RowKit

/-- A slice (address, length, capacity) that reads as a list of values. -/
structure RowIn (w : World) (a : Option Addr) (len cap : Nat) (vs : List Value) : Prop where
  len_eq : vs.length = len
  le_cap : len ≤ cap
  cap_le : cap ≤ 9223372036854775807
  nil : a = none → len = 0 ∧ cap = 0
  at_ : len = 0 ∨ ∃ b off, a = some ⟨b, off, none⟩ ∧ b < w.heap.size ∧ ∀ i (h : i < vs.length), w.cell? ⟨b, off + i, none⟩ = some vs[i]
theorem RowIn.none_ (w : World) : RowIn w none 0 0 [] := ⟨rfl, Nat.le_refl _, by omega, fun _ => ⟨rfl, rfl⟩, .inl rfl⟩
theorem RowIn.below {w w' : World} {a : Option Addr} {len cap : Nat} {vs : List Value} (h : RowIn w a len cap vs) {B : Nat} (hB : w.heap.size ≤ B) (hb : Below B w w') : RowIn w' a len cap vs := by
  refine ⟨h.1, h.2, h.3, h.4, h.5.imp_right ?_⟩
  rintro ⟨b, off, ha, hs, hc⟩
  exact ⟨b, off, ha, Nat.lt_of_lt_of_le hs hb.size, fun i hi => by rw [hb.cell (p := ⟨b, off + i, none⟩) (Nat.lt_of_lt_of_le hs hB)]; exact hc i hi⟩
theorem RowIn.some_ {w : World} {a : Option Addr} {len cap : Nat} {vs : List Value} (h : RowIn w a len cap vs) (h0 : 0 < len) : ∃ b off, a = some ⟨b, off, none⟩ := by
  rcases h.at_ with h5 | ⟨b, off, ha, hs, hc⟩
  · omega
  · exact ⟨b, off, ha⟩
theorem RowIn.get {w : World} {b off len cap : Nat} {vs : List Value} (h : RowIn w (some ⟨b, off, none⟩) len cap vs) (i : Nat) (hi : i < vs.length) : w.cell? ⟨b, off + i, none⟩ = some vs[i] := by
  rcases h.at_ with h5 | ⟨b', off', ha, hs, hc⟩
  · have := h.len_eq; omega
  · cases ha; exact hc i hi
theorem RowIn.lt {w : World} {b off len cap : Nat} {vs : List Value} (h : RowIn w (some ⟨b, off, none⟩) len cap vs) (h0 : 0 < len) : b < w.heap.size := by
  rcases h.at_ with h5 | ⟨b', off', ha, hs, hc⟩
  · omega
  · cases ha; exact hs

/-- A value that is a slice of the call's own (block base or later), all of it. -/
def OwnV (E : TypeId) (base : Nat) (w : World) (v : Value) (vs : List Value) : Prop := w.ownsRow base E 1 v vs.length vs
theorem OwnV.row {E : TypeId} {base : Nat} {w : World} {v : Value} {vs : List Value} (h : OwnV E base w v vs) : ∃ a c, v = .slice a vs.length c ∧ RowIn w a vs.length c vs := by
  rcases h.2 with ⟨rfl, h0⟩ | ⟨g, cap, cur, rfl, hg, hh, hn, hm, hs, ht⟩
  · have : vs = [] := List.length_eq_zero_iff.1 h0
    subst this
    exact ⟨none, 0, rfl, RowIn.none_ w⟩
  · unfold maxLen at hm
    refine ⟨_, cap, rfl, rfl, hn, hm, (fun h => by cases h), .inr ⟨g, 0, rfl, ?_, fun i hi => ?_⟩⟩
    · by_cases hlt : g < w.heap.size
      · exact hlt
      · rw [Array.getElem?_eq_none (by omega)] at hh; cases hh
    · rw [cell_of_row _ _ _ _ _ _ hh, Nat.zero_add, ← Array.getElem?_toList]
      have : (cur.toList.take (vs.length * 1))[i]? = vs[i]? := by rw [ht]
      rw [List.getElem?_take, if_pos (by omega)] at this
      rw [this, List.getElem?_eq_getElem hi]
theorem OwnV.below {E : TypeId} {base : Nat} {w w' : World} {v : Value} {vs : List Value} (h : OwnV E base w v vs) {B : Nat} (hB : w.heap.size ≤ B) (hb : Below B w w') : OwnV E base w' v vs := by
  refine World.ownsRow.kept h (row := none) ⟨hb.os, hb.tape, hb.output, hb.size, fun k hk _ => hb.block k (by omega)⟩ ?_
  by_cases hv : v.ownBlock = none
  · exact .inl hv
  · exact .inr hv
theorem OwnV.only {S : Nat → Prop} {E : TypeId} {base : Nat} {w w' : World} {v : Value} {vs : List Value} (ho : OwnV E base w v vs) (h : Only S w w') (hv : ∀ k, v.ownBlock = some k → ¬ S k) : OwnV E base w' v vs := by
  refine ⟨ho.1, ?_⟩
  rcases ho.2 with hn | ⟨g, cap, cur, rfl, hb, hgg, rest⟩
  · exact .inl hn
  · refine .inr ⟨g, cap, cur, rfl, hb, ?_, rest⟩
    rw [h.block g (Array.getElem?_eq_some_iff.1 hgg).1 (hv g rfl)]
    exact hgg
theorem OwnV.kept {E : TypeId} {base : Nat} {w w' : World} {v : Value} {vs : List Value} {row : Option Nat} (h : OwnV E base w v vs) (hg : w.grownBy w' row) (hr : v.ownBlock = none ∨ v.ownBlock ≠ row) : OwnV E base w' v vs := World.ownsRow.kept h hg hr
theorem OwnV.rowIn {E : TypeId} {base : Nat} {w : World} {a : Option Addr} {n c : Nat} {vs : List Value} (h : OwnV E base w (.slice a n c) vs) (hn : vs.length = n) : RowIn w a n c vs := by
  subst hn
  obtain ⟨a', c', h1, h2⟩ := h.row
  simp only [Value.slice.injEq, true_and] at h1
  obtain ⟨rfl, rfl⟩ := h1
  exact h2
theorem OwnV.nil (E : TypeId) (base : Nat) (w : World) : OwnV E base w (.slice none 0 0) [] := World.ownsRow_nil _ _ _ _
theorem OwnV.lit {base : Nat} (E : TypeId) (w : World) (cs : Array Value) (hb : base ≤ w.heap.size) (hm : cs.size ≤ 1000000) : OwnV E base (w.alloc (.cells cs E)) (.slice (some ⟨w.heap.size, 0, none⟩) cs.size cs.size) cs.toList :=
  by
    have := World.ownsRow_lit (e := E) (size := 1) w cs cs.size hb (by unfold maxLen; omega) (by omega)
    unfold OwnV
    exact this
theorem OwnV.base {E : TypeId} {base : Nat} {w : World} {v : Value} {vs : List Value} (h : OwnV E base w v vs) (k : Nat) (hk : v.ownBlock = some k) : base ≤ k := (World.ownsRow.lt h k hk).1
theorem OwnV.lt {E : TypeId} {base : Nat} {w : World} {v : Value} {vs : List Value} (h : OwnV E base w v vs) (k : Nat) (hk : v.ownBlock = some k) : k < w.heap.size := (World.ownsRow.lt h k hk).2
theorem OwnV.grown {base : Nat} {w0 w w' : World} {v : Value} {E : TypeId} {vs : List Value} (hown : OwnV E base w v vs) (h : Below base w0 w) (hg : w.grownBy w' v.ownBlock) (hb : base ≤ w.heap.size) : Below base w0 w' :=
  h.grown hg hb fun k hk => (World.ownsRow.lt hown k hk).1
theorem OwnV.store {E : TypeId} {base : Nat} {w : World} {g n c : Nat} {vs : List Value} (h : OwnV E base w (.slice (some ⟨g, 0, none⟩) n c) vs) (hn : vs.length = n) (i : Nat) (u : Value) :
    OwnV E base (w.setCell ⟨g, i, none⟩ u) (.slice (some ⟨g, 0, none⟩) n c) (vs.set i u) := by
  subst hn
  have := (World.ownsRow.stored h i u).1
  unfold OwnV
  rw [List.length_set]
  exact this
theorem OwnV.cell {E : TypeId} {base : Nat} {w : World} {g n c : Nat} {vs : List Value} (h : OwnV E base w (.slice (some ⟨g, 0, none⟩) n c) vs) (hn : vs.length = n) (i : Nat) (hi : i < vs.length) : w.cell? ⟨g, i, none⟩ = some vs[i] := by
  subst hn
  have hcell := World.ownsRow.cellAt h i (by simpa using hi)
  rw [hcell, List.getElem?_eq_getElem hi]
theorem OwnV.free {E : TypeId} {base : Nat} {w : World} {g n c : Nat} {vs : List Value} (h : OwnV E base w (.slice (some ⟨g, 0, none⟩) n c) vs) (hn : vs.length = n) (i : Nat) : w.frozen? ⟨g, i, none⟩ = false := by
  subst hn
  exact World.ownsRow.frozenAt h i

/-- append(v, x...) of values of one cell; where the new row lies. -/
theorem wp_append_row {P : Program} {w : World} {o : Oper} {a : Act} {K : Act → World → Prop} {Q : Exit → Act → World → Prop} (s x : Operand) (t : TypeId)
    (ho : o.op = .call { callee := .builtin .append, args := #[s, x], argTypes := #[t, t] }) (base : Nat) (E : TypeId) (z : Value) (by_ : Nat) (ht : P.underlying t = some (.slice E))
    (hi : (P.info? E).map (fun i => (i.zero, i.size, i.bytes)) = some (some z, 1, by_)) (hz1 : z.cells.size = 1)
    (v : Value) (l : List Value) (hs : a.eval s = v) (hown : OwnV E base w v l) (ad : Option Addr) (m c : Nat) (l2 : List Value) (hx : a.eval x = .slice ad m c) (hb : RowIn w ad m c l2) (hone : ∀ u ∈ l2, u.oneCell' = true)
    (hlen : (l.length + m) * by_ ≤ 140737488355328) (hlen2 : l.length + m ≤ 140737488355328) (hbase : base ≤ w.heap.size)
    (h : ∀ v' w', OwnV E base w' v' (l ++ l2) → w.grownBy w' v.ownBlock → Nxt v.ownBlock w.heap.size v'.ownBlock → K (a.put o.dst v') w') : o.wp P a w K Q := by
  obtain ⟨i, hi, hz0, hsz, hz2⟩ := info_parts hi
  by_cases h0 : m = 0
  · subst h0
    have hl2 : l2 = [] := List.length_eq_zero_iff.1 hb.len_eq
    subst hl2
    obtain ⟨v', w', hr, h2, h3, _, h5⟩ : ∃ v' w', (Builtin.append_ #[t, t] o.type #[v, .slice ad 0 c]).run P w = .ok v' w' ∧ OwnV E base w' v' l ∧ w.grownBy w' v.ownBlock ∧ True ∧ (v'.ownBlock = v.ownBlock ∨ v'.ownBlock = some w.heap.size) := by
      cases ad with
      | none =>
        obtain ⟨_, rfl⟩ := hb.nil rfl
        have hrun := run_append_owned_none (P := P) (w := w) base t o.type E i 1 ht hi v l.length l hown
        exact ⟨v, w, hrun, hown, ⟨rfl, rfl, rfl, Nat.le_refl _, fun _ _ _ => rfl⟩, trivial, .inl rfl⟩
      | some ad =>
        obtain ⟨v', w', hr, h2, h3, _, h5⟩ := run_append_own_at (P := P) w base t o.type E i z 1 by_ ht hi hz0 hsz hz2 hz1 (by decide) v l.length l hown ad 0 c [] rfl (fun j u hu => by simp at hu) (fun u hu => by simp at hu) (by unfold maxLen; omega) hlen hbase
        refine ⟨v', w', hr, ?_, h3, trivial, h5⟩
        unfold OwnV
        rw [List.append_nil] at h2
        exact h2
    unfold Oper.wp execOp
    simp only [ho, resolve, invoke, builtin, Sem.run_bind, Sem.run_pure, Result.andThen_ok, List.map_toArray, List.map_cons, List.map_nil, hs, hx, hr]
    refine h v' w' (by rw [List.append_nil]; exact h2) h3 ?_
    rcases h5 with h5 | h5
    · exact .inl h5
    · exact .inr ⟨_, h5, Nat.le_refl _⟩
  · rcases hb.at_ with h1 | ⟨b, off, hab, hbs, hc⟩
    · omega
    subst hab
    refine wp_append_lies w s x t ho base E i z 1 by_ ht hi hz0 hsz hz2 hz1 (by decide) v l.length l hs hown ⟨b, off, none⟩ m c l2 hx (by simp [hb.len_eq]) ?_ hone (by omega) (by unfold maxLen; omega) hlen hbase _ rfl ?_
    · intro j u hu
      have hj : j < l2.length := (List.getElem?_eq_some_iff.1 hu).1
      rw [addr_add, hc j hj]
      rw [List.getElem?_eq_getElem hj] at hu
      exact hu
    · intro g cap w' h1 h2 h3 _
      refine h _ w' ?_ h2 ?_
      · unfold OwnV
        rw [List.length_append, hb.len_eq]
        exact h1
      · rcases h3 with h3 | rfl
        · exact .inl h3.symm
        · exact .inr ⟨_, rfl, Nat.le_refl _⟩
theorem wpList_append_row {P : Program} {w : World} {ops : Array Oper} {rest : List Oper} {o : Oper} {a : Act} {Q : Exit → Act → World → Prop} (hw : Region.wanted o (yielded ops a.tmps) = true) (s x : Operand) (t : TypeId)
    (ho : o.op = .call { callee := .builtin .append, args := #[s, x], argTypes := #[t, t] }) (base : Nat) (E : TypeId) (z : Value) (by_ : Nat) (ht : P.underlying t = some (.slice E))
    (hi : (P.info? E).map (fun i => (i.zero, i.size, i.bytes)) = some (some z, 1, by_)) (hz1 : z.cells.size = 1)
    (v : Value) (l : List Value) (hs : a.eval s = v) (hown : OwnV E base w v l) (ad : Option Addr) (m c : Nat) (l2 : List Value) (hx : a.eval x = .slice ad m c) (hb : RowIn w ad m c l2) (hone : ∀ u ∈ l2, u.oneCell' = true)
    (hlen : (l.length + m) * by_ ≤ 140737488355328) (hlen2 : l.length + m ≤ 140737488355328) (hbase : base ≤ w.heap.size)
    (h : ∀ a' c' w', OwnV E base w' (.slice a' (l.length + m) c') (l ++ l2) → w.grownBy w' v.ownBlock → Nxt v.ownBlock w.heap.size (Value.ownBlock (.slice a' (l.length + m) c')) → wpList P ops Q rest (a.put o.dst (.slice a' (l.length + m) c')) w') : wpList P ops Q (o :: rest) a w :=
  wpList_of_wp hw fun _ hK => wp_append_row s x t ho base E z by_ ht hi hz1 v l hs hown ad m c l2 hx hb hone hlen hlen2 hbase fun v' w' h1 h2 h3 => by
    obtain ⟨a', c', rfl, _⟩ := h1.row
    rw [List.length_append, hb.len_eq] at *
    exact hK _ _ (h a' c' w' h1 h2 h3)
/-- make([]T, k) -/
theorem wpList_make_row {P : Program} (w : World) {ops : Array Oper} {rest : List Oper} {o : Oper} {a : Act} {Q : Exit → Act → World → Prop}
    (hg : o.guard = none) (l c : Operand) (t : TypeId) (hop : o.op = Op.makeSlice t l c) (base : Nat) (E : TypeId) (z : Value) (by_ : Nat) (ht : P.underlying t = some (.slice E))
    (hi : (P.info? E).map (fun i => (i.zero, i.size, i.bytes)) = some (some z, 1, by_)) (hz1 : z.cells = #[z]) (kl kc : IntKind) (k : Nat) (hl : a.eval l = .int kl (k : Int)) (hc : a.eval c = .int kc (k : Int))
    (hk : k * by_ ≤ 281474976710656) (hk2 : k ≤ 281474976710656) (hb : base ≤ w.heap.size)
    (hK : ∀ w', OwnV E base w' (.slice (some ⟨w.heap.size, 0, none⟩) k k) (List.replicate k z) → w.grownBy w' none → wpList P ops Q rest (a.put o.dst (.slice (some ⟨w.heap.size, 0, none⟩) k k)) w') : wpList P ops Q (o :: rest) a w := by
  obtain ⟨i, hi, hz0, hz2, hz3⟩ := info_parts hi
  refine wpList_make_full w hg l c t hop base E i z 1 ht hi hz0 hz2 kl kc _ _ k hl hc rfl rfl (by rw [hz3]; have := Nat.mul_comm k by_; omega) (by unfold maxLen; omega) hb fun w' h1 h2 => hK w' ?_ h2
  unfold OwnV
  rw [List.length_replicate]
  have e : (madeCells z.cells (k * 1)).toList = List.replicate k z := by rw [hz1, Nat.mul_one]; exact toList_madeCells_one _ _
  rw [e] at h1
  exact h1

/-! ### a block of cells stored at once -/
theorem Blk.row {w : World} {g : Nat} {t : TypeId} {cs : Array Value} (h : Blk w g t cs) (new : Array Value) : Blk (w.setRow g new) g t new := setRow_heap w g cs new t _ h
theorem setRow_block (w : World) (g : Nat) (cs : Array Value) (k : Nat) (h : k ≠ g) : (w.setRow g cs).heap[k]? = w.heap[k]? := by
  show (w.heap.modify g _)[k]? = _
  rw [Array.getElem?_modify, if_neg (fun e => h e.symm)]
theorem below_row {B : Nat} {w0 w : World} (h : Below B w0 w) {g : Nat} (hg : B ≤ g) (cs : Array Value) : Below B w0 (w.setRow g cs) := by
  refine ⟨h.os, h.tape, h.output, ?_, fun k hk => ?_⟩
  · show w0.heap.size ≤ (w.heap.modify g _).size
    rw [Array.size_modify]; exact h.size
  · rw [setRow_block w g cs k (by omega)]; exact h.block k hk
end Go.My
end

section
/-
  math/bits.Reverse32; table.turned.
-/
namespace Go.Proofs.YtdbcendnibgcaaaGreatDoor.TabC
open Go.RowKit Go.My BitMath CanMath TabMath

theorem swap_eq (x k K m : Nat) (hK : K = 2 ^ k) (hx : x < 4294967296) (hm : m < 4294967296) :
    bits .or .u32 (bits .and .u32 ((x : Int) / (K : Int)) (m : Int)) (bits .and .u32 (x : Int) (m : Int) * (K : Int) % 4294967296) = ((swp k m x : Nat) : Int) := by
  subst hK
  have hd := Nat.div_le_self x (2 ^ k)
  have e : (x : Int) / ((2 ^ k : Nat) : Int) = ((x / 2 ^ k : Nat) : Int) := by simp
  rw [e, u32_and_nat _ _ (by omega) hm, u32_and_nat _ _ hx hm]
  have e2 : ((x &&& m : Nat) : Int) * ((2 ^ k : Nat) : Int) % 4294967296 = (((x &&& m) * 2 ^ k % 2 ^ 32 : Nat) : Int) := by
    rw [Int.natCast_emod, Int.natCast_mul]; rfl
  rw [e2, u32_or_nat]
  · rfl
  · exact Nat.lt_of_le_of_lt Nat.and_le_right hm
  · exact Nat.mod_lt _ (by decide)
theorem last_eq (x : Nat) (hx : x < 4294967296) : bits .or .u32 ((x : Int) / 65536) ((x : Int) * 65536 % 4294967296) = ((swp 16 65535 x : Nat) : Int) := by
  have e : (x : Int) / 65536 = ((x / 65536 : Nat) : Int) := by omega
  have e2 : (x : Int) * 65536 % 4294967296 = ((x * 65536 % 4294967296 : Nat) : Int) := by omega
  rw [e, e2, u32_or_nat _ _ (by omega) (by omega), swp_last x hx]

theorem revbytes_any (x : Nat) (w : World) (hx : x < 4294967296) :
    Calls Tryz.prog 136 #[.int .u32 (x : Int)] w fun e w' => e = .returned (.int .u32 ((swp 16 65535 (swp 8 16711935 x) : Nat) : Int)) ∧ w = w' := by
  have h1 : bits .or .u32 (bits .and .u32 ((x : Int) / 256) 16711935) (bits .and .u32 (x : Int) 16711935 * 256 % 4294967296) = ((swp 8 16711935 x : Nat) : Int) := swap_eq x 8 256 16711935 rfl hx (by decide)
  have hl := swp_lt 8 16711935 x (by decide)
  have h2 := last_eq (swp 8 16711935 x) hl
  generalize swp 8 16711935 x = y at *
  generalize swp 16 65535 y = z at *
  go_enter Tryz.func136, Tryz.ntmps136
  go_wp2
  go_ret
  exact ⟨rfl, rfl⟩
set_option maxHeartbeats 1000000 in
theorem reverse_any (x : Nat) (w : World) (hx : x < 4294967296) :
    Calls Tryz.prog 133 #[.int .u32 (x : Int)] w fun e w' => e = .returned (.int .u32 ((rc 32 x : Nat) : Int)) ∧ w = w' := by
  have h1 : bits .or .u32 (bits .and .u32 ((x : Int) / 2) 1431655765) (bits .and .u32 (x : Int) 1431655765 * 2 % 4294967296) = ((swp 1 1431655765 x : Nat) : Int) := swap_eq x 1 2 1431655765 rfl hx (by decide)
  have l1 := swp_lt 1 1431655765 x (by decide)
  have h2 : bits .or .u32 (bits .and .u32 (((swp 1 1431655765 x : Nat) : Int) / 4) 858993459) (bits .and .u32 ((swp 1 1431655765 x : Nat) : Int) 858993459 * 4 % 4294967296) = ((swp 2 858993459 (swp 1 1431655765 x) : Nat) : Int) := swap_eq (swp 1 1431655765 x) 2 4 858993459 rfl l1 (by decide)
  have l2 := swp_lt 2 858993459 (swp 1 1431655765 x) (by decide)
  have h3 : bits .or .u32 (bits .and .u32 (((swp 2 858993459 (swp 1 1431655765 x) : Nat) : Int) / 16) 252645135) (bits .and .u32 ((swp 2 858993459 (swp 1 1431655765 x) : Nat) : Int) 252645135 * 16 % 4294967296) = ((swp 4 252645135 (swp 2 858993459 (swp 1 1431655765 x)) : Nat) : Int) := swap_eq (swp 2 858993459 (swp 1 1431655765 x)) 4 16 252645135 rfl l2 (by decide)
  have l3 := swp_lt 4 252645135 (swp 2 858993459 (swp 1 1431655765 x)) (by decide)
  have HA := Lib.hid (swp_all x hx)
  clear l1 l2
  generalize swp 1 1431655765 x = y1 at *
  generalize swp 2 858993459 y1 = y2 at *
  generalize swp 4 252645135 y2 = y3 at *
  go_enter Tryz.func133, Tryz.ntmps133
  go_wp2_with fail
  refine (revbytes_any y3 w l3).mono ?_
  rw [HA.out]
  rintro e w' ⟨rfl, rfl⟩
  go_wp2_with fail
  go_ret
  exact ⟨rfl, rfl⟩

/-- A code as it is read. -/
theorem turned_any (c n : Nat) (w : World) (hn : n ≤ 15) (hc : c < 2 ^ n) :
    Calls Tryz.prog 126 #[.int .u32 (c : Int), .int .i64 (n : Int)] w fun e w' => e = .returned (.int .u32 ((rc n c : Nat) : Int)) ∧ w = w' := by
  have hpow : 2 ^ n ≤ 2 ^ 15 := Nat.pow_le_pow_right (by omega) hn
  have HR := Lib.hid (rc_of_word n c (by omega))
  have hs1 : (32 - (n : Int)).toNat = 32 - n := by omega
  have hlt := rc_lt 32 c
  go_enter Tryz.func126, Tryz.ntmps126
  go_wp2_with fail
  refine (reverse_any c w (by omega)).mono ?_
  rintro e w' ⟨rfl, rfl⟩
  generalize rc 32 c = y at *
  go_wp2_with fail
  go_ret
  exact ⟨by rw [← HR.out]; simp, rfl⟩
end Go.Proofs.YtdbcendnibgcaaaGreatDoor.TabC
end

section
/-
  A table in memory: its elements; where a row of bits leads.
-/
namespace Go.Proofs.YtdbcendnibgcaaaGreatDoor.TabC
open Go.RowKit Go.My BitMath CanMath TabMath

/-- An element's three cells. -/
def ec (e : El) : Array Value := #[.int .u16 ((e.v : Nat) : Int), .int .u8 ((e.l : Nat) : Int), .int .u8 ((e.m : Nat) : Int)]
/-- A row of n elements. -/
structure Els (C : Array Value) (n : Nat) (T : Nat → El) : Prop where
  size : C.size = n * 3
  at0 : ∀ j, j < n → C[j * 3]? = some (.int .u16 (((T j).v : Nat) : Int))
  at1 : ∀ j, j < n → C[j * 3 + 1]? = some (.int .u8 (((T j).l : Nat) : Int))
  at2 : ∀ j, j < n → C[j * 3 + 2]? = some (.int .u8 (((T j).m : Nat) : Int))
/-- A table: so many first bits, its elements in a block of their own. -/
structure TabAt (w : World) (g ge f n : Nat) (T : Nat → El) : Prop where
  tab : Blk w g 164 #[.int .u64 (f : Int), .slice (some ⟨ge, 0, none⟩) n n]
  row : ∃ C, Blk w ge 168 C ∧ Els C n T
theorem TabAt.alloc {w : World} {g ge f n : Nat} {T : Nat → El} (h : TabAt w g ge f n T) (o : Obj) : TabAt (w.alloc o) g ge f n T := by
  obtain ⟨h1, C, h2, h3⟩ := h
  exact ⟨h1.alloc o, C, h2.alloc o, h3⟩
theorem TabAt.same {w w' : World} {g ge f n : Nat} {T : Nat → El} (h : TabAt w g ge f n T) (h1 : w'.heap[g]? = w.heap[g]?) (h2 : w'.heap[ge]? = w.heap[ge]?) : TabAt w' g ge f n T := by
  obtain ⟨h3, C, h4, h5⟩ := h
  exact ⟨h3.same h1, C, h4.same h2, h5⟩
theorem TabAt.lt {w : World} {g ge f n : Nat} {T : Nat → El} (h : TabAt w g ge f n T) : g < w.heap.size ∧ ge < w.heap.size := by
  obtain ⟨h3, C, h4, h5⟩ := h
  exact ⟨h3.lt, h4.lt⟩
theorem TabAt.drew {w : World} {g ge f n : Nat} {T : Nat → El} (h : TabAt w g ge f n T) : TabAt w.drew g ge f n T := h.same rfl rfl
theorem TabAt.below {w w' : World} {g ge f n : Nat} {T : Nat → El} (h : TabAt w g ge f n T) (hb : Below w.heap.size w w') : TabAt w' g ge f n T :=
  h.same (hb.block g h.lt.1) (hb.block ge h.lt.2)
theorem TabAt.el {w : World} {g ge f n : Nat} {T : Nat → El} (h : TabAt w g ge f n T) (j : Nat) (hj : j < n) :
    w.cell? ⟨ge, j * 3, none⟩ = some (.int .u16 (((T j).v : Nat) : Int)) ∧ w.cell? ⟨ge, j * 3 + 1, none⟩ = some (.int .u8 (((T j).l : Nat) : Int)) ∧ w.cell? ⟨ge, j * 3 + 2, none⟩ = some (.int .u8 (((T j).m : Nat) : Int)) := by
  obtain ⟨_, C, h4, h5⟩ := h
  exact ⟨by rw [h4.cell]; exact h5.at0 j hj, by rw [h4.cell]; exact h5.at1 j hj, by rw [h4.cell]; exact h5.at2 j hj⟩
theorem u32_low (v f : Nat) (hv : v < 4294967296) (hf : f ≤ 15) : bits .and .u32 (v : Int) (((2 : Int) ^ f - 1) % 4294967296) = ((v % 2 ^ f : Nat) : Int) := by
  have hp : 2 ^ f ≤ 2 ^ 15 := Nat.pow_le_pow_right (by omega) hf
  have h0 : 0 < 2 ^ f := Nat.two_pow_pos f
  have e : ((2 : Int) ^ f - 1) % 4294967296 = ((2 ^ f - 1 : Nat) : Int) := by
    have e1 : (2 : Int) ^ f = ((2 ^ f : Nat) : Int) := by push_cast; rfl
    rw [e1]; omega
  rw [e, u32_and_nat _ _ hv (by omega), Nat.and_two_pow_sub_one_eq_mod]

theorem start_any (g f v : Nat) (u : Value) (w : World) (h : Blk w g 164 #[.int .u64 (f : Int), u]) (hf : f ≤ 15) (hv : v < 4294967296) :
    Calls Tryz.prog 134 #[.pointer (some ⟨g, 0, none⟩), .int .u32 (v : Int)] w fun e w' => e = .returned (.int .u32 ((v % 2 ^ f : Nat) : Int)) ∧ w = w' := by
  have hc0 : w.cell? ⟨g, 0, none⟩ = some (.int .u64 (f : Int)) := by rw [h.cell]; rfl
  go_enter Tryz.func134, Tryz.ntmps134
  have hb := u32_low v f hv hf
  go_wp2_with fail
  go_ret
  exact ⟨rfl, rfl⟩

theorem start_at {g f v p : Nat} {u : Value} (hs : p = v % 2 ^ f ∧ f ≤ 15 ∧ v < 4294967296) (w : World) (h : Hid (Blk w g 164 #[.int .u64 (f : Int), u])) :
    Calls Tryz.prog 134 #[.pointer (some ⟨g, 0, none⟩), .int .u32 (v : Int)] w fun e w' => e = .returned (.int .u32 ((p : Nat) : Int)) ∧ w = w' := by
  rw [hs.1]; exact start_any g f v u w h.out hs.2.1 hs.2.2

theorem info_el : (Tryz.prog.info? 168).map (·.size) = some 3 := by kernel_rfl
abbrev e0 : Array Value := #[.int .u16 0, .int .u8 0, .int .u8 0]
/-- What look finds in the elements. -/
def lookT (T : Nat → El) (f v : Nat) : El := if 0 < (T (v % 2 ^ f)).m then T ((T (v % 2 ^ f)).v + v / 2 ^ f % 2 ^ (T (v % 2 ^ f)).m) else T (v % 2 ^ f)
theorem look_ret {a : Act} {w : World} {g : Nat} {C : Array Value} {R : Ending → World → Prop} (hd : a.defers = []) (hp : a.tmps.getD 4 undef = .pointer (some ⟨g, 0, none⟩))
    (hg : Blk w g 168 C) (hs : C.size = 3) (h : R (.returned (.agg C)) w) :
    bodyPost Tryz.prog Tryz.f129 R .ret a w := by
  refine bodyPost_ret (v := .agg C) ?_ hd h
  have hp' : a.tmps[4]?.getD undef = .pointer (some ⟨g, 0, none⟩) := by simpa using hp
  simp [results, hp', asAddr, run_loadVar_row (P := Tryz.prog) w g 168 168 C (0, 0) _ hg Tryz.underlying168 rfl (by rw [hs]; exact info_el)]
theorem look_nums (v f em q : Nat) (hv : v < 32768) (hm : em ≤ 14) (hq : q = v / 2 ^ f % 2 ^ em) :
    IntKind.u32.wrap ((2 : Int) ^ em) = (2 : Int) ^ em ∧ IntKind.u32.wrap ((2 : Int) ^ em - 1) = (2 : Int) ^ em - 1 ∧ bits .and .u32 ((v : Int) / 2 ^ f) ((2 : Int) ^ em - 1) = (q : Int) := by
  have h := u32_low (v / 2 ^ f) em (by have := Nat.div_le_self v (2 ^ f); omega) (by omega)
  have e : (v : Int) / 2 ^ f = ((v / 2 ^ f : Nat) : Int) := by push_cast; rfl
  have h2 : 2 ^ em ≤ 2 ^ 14 := Nat.pow_le_pow_right (by omega) hm
  have h0 := Nat.two_pow_pos em
  have e1 : (2 : Int) ^ em = ((2 ^ em : Nat) : Int) := by push_cast; rfl
  rw [Int.emod_eq_of_lt (by rw [e1]; omega) (by rw [e1]; omega)] at h
  refine ⟨by rw [IntKind.wrap_u32, e1]; omega, by rw [IntKind.wrap_u32, e1]; omega, ?_⟩
  rw [e, h, hq]

set_option maxRecDepth 100000 in
set_option maxHeartbeats 4000000 in
theorem look_any (g ge f n v : Nat) (T : Nat → El) (w : World) (h : TabAt w g ge f n T) (hf : f ≤ 15) (hv : v < 32768) (hp : v % 2 ^ f < n) (hm : (T (v % 2 ^ f)).m ≤ 14) (hj : 0 < (T (v % 2 ^ f)).m → (T (v % 2 ^ f)).v + v / 2 ^ f % 2 ^ (T (v % 2 ^ f)).m < n) (hl : (T (v % 2 ^ f)).v < 65536) :
    Calls Tryz.prog 129 #[.pointer (some ⟨g, 0, none⟩), .int .u32 (v : Int)] w fun e w' => e = .returned (.agg (ec (lookT T f v))) ∧ Below w.heap.size w w' := by
  have HT := Lib.hid h
  have hz : ((n : Int) == 0) = false := by simp; omega
  clear h
  go_enter Tryz.func129, Tryz.ntmps129
  go_upto_region 1 with (fail)
  obtain ⟨w1, hw1⟩ : ∃ w1, w1 = w.alloc (.cells e0 168) := ⟨_, rfl⟩
  have HB1 : Hid (Below w.heap.size w w1) := Lib.hid (by rw [hw1]; exact (Below.refl _ w).alloc (Nat.le_refl _) _)
  have HT1 : Hid (TabAt w1 g ge f n T) := Lib.hid (by rw [hw1]; exact HT.out.alloc _)
  have HR1 : Hid (Blk w1 w.heap.size 168 e0) := Lib.hid (by rw [hw1]; exact Blk.new w _ _)
  rw [← hw1]
  clear hw1 HT
  obtain ⟨p, hpe⟩ : ∃ p, p = v % 2 ^ f := ⟨_, rfl⟩
  have HLT : Hid (lookT T f v = if 0 < (T p).m then T ((T p).v + v / 2 ^ f % 2 ^ (T p).m) else T p) := Lib.hid (by unfold lookT; rw [hpe])
  rw [← hpe] at hp hm hj hl
  have HS : Hid (p = v % 2 ^ f ∧ f ≤ 15 ∧ v < 4294967296) := Lib.hid ⟨hpe, hf, by omega⟩
  clear hpe
  obtain ⟨e, he⟩ : ∃ e, e = T p := ⟨_, rfl⟩
  rw [← he] at hm hj hl HLT
  have hkeep : ∀ w', Below w1.heap.size w1 w' → Hid (Blk w' g 164 #[.int .u64 (f : Int), .slice (some ⟨ge, 0, none⟩) n n]) ∧ w'.cell? ⟨g, 1, none⟩ = some (.slice (some ⟨ge, 0, none⟩) n n) ∧ w'.cell? ⟨ge, p * 3, none⟩ = some (.int .u16 ((e.v : Nat) : Int)) ∧ w'.cell? ⟨ge, p * 3 + 1, none⟩ = some (.int .u8 ((e.l : Nat) : Int)) ∧ w'.cell? ⟨ge, p * 3 + 2, none⟩ = some (.int .u8 ((e.m : Nat) : Int)) := by
    intro w' hb
    have h1 := HT1.out.below hb
    obtain ⟨c1, c2, c3⟩ := h1.el _ hp
    rw [← he] at c1 c2 c3
    exact ⟨Lib.hid h1.tab, by rw [h1.tab.cell]; rfl, c1, c2, c3⟩
  have HK := Lib.hid hkeep
  obtain ⟨k1, hc1, k2, k3, k4⟩ := hkeep w1 (Below.refl _ _)
  clear hkeep k1 k2 k3 k4 he
  have hpi : ((p : Nat) : Int) < (n : Int) := by omega
  go_upto_region 3 with (fail)
  clear hc1
  go_cut [5] (fun u wc => u = .pointer (some ⟨w1.heap.size, 0, none⟩) ∧ Hid (TabAt wc g ge f n T) ∧ Hid (Blk wc w1.heap.size 168 (ec e)) ∧ Hid (Blk wc w.heap.size 168 e0) ∧ Hid (Below w.heap.size w wc))
  case first =>
    obtain ⟨k1, k2, k3, k4, k5⟩ := HK.out w1.drew (Below.refl _ _).drew
    go_region_held3 (fun w' => Hid (Blk w' g 164 #[.int .u64 (f : Int), .slice (some ⟨ge, 0, none⟩) n n]) ∧ w'.cell? ⟨g, 1, none⟩ = some (.slice (some ⟨ge, 0, none⟩) n n) ∧ w'.cell? ⟨ge, p * 3, none⟩ = some (.int .u16 ((e.v : Nat) : Int)) ∧ w'.cell? ⟨ge, p * 3 + 1, none⟩ = some (.int .u8 ((e.l : Nat) : Int)) ∧ w'.cell? ⟨ge, p * 3 + 2, none⟩ = some (.int .u8 ((e.m : Nat) : Int))) (first | exact ⟨by assumption, by assumption, by assumption, by assumption, by assumption⟩ | exact HK.out _ (Below.refl _ _).drew | exact HK.out _ ((Below.refl _ _).drew.alloc (Nat.le_refl _) _)) (first | (go_at_call 134; refine (start_at (u := .slice (some ⟨ge, 0, none⟩) n n) HS.out _ (HK.out _ (by first | exact (Below.refl _ _).drew | exact ((Below.refl _ _).alloc (Nat.le_refl _) _).drew)).1).mono ?_; rintro e2 w2 ⟨rfl, rfl⟩))
    all_goals
      go_wp2_with fail
      go_meet
      case rel => exact ⟨rfl, Lib.hid (HT1.out.below ((Below.refl _ _).alloc (Nat.le_refl _) _).drew), Lib.hid (Blk.new w1 _ _).drew, Lib.hid ((HR1.out.alloc _).drew), Lib.hid (HB1.out.trans ((((Below.refl _ _).alloc (Nat.le_refl _) _).drew).mono HB1.out.size))⟩
  obtain ⟨rfl, HT2, HX2, HR2, HB2⟩ := hcut
  have HN : Hid (w.heap.size < w1.heap.size) := Lib.hid HR1.out.lt
  clear HT1 HR1 HB1 HK HS
  generalize wc = w2 at *
  generalize w1.heap.size = g5 at *
  obtain ⟨ev, el, em⟩ := e
  dsimp only at hm hj hl HLT
  have hx2 : w2.cell? ⟨g5, 2, none⟩ = some (.int .u8 (em : Int)) := by rw [HX2.out.cell]; rfl
  have hx0 : w2.cell? ⟨g5, 0, none⟩ = some (.int .u16 (ev : Int)) := by rw [HX2.out.cell]; rfl
  have hx1 : w2.cell? ⟨g5, 1, none⟩ = some (.int .u8 (el : Int)) := by rw [HX2.out.cell]; rfl
  have hf0 : w2.frozen? ⟨w.heap.size, 0, none⟩ = false := HR2.out.frozen 0
  have hf1 : w2.frozen? ⟨w.heap.size, 1, none⟩ = false := HR2.out.frozen 1
  have hf2 : w2.frozen? ⟨w.heap.size, 2, none⟩ = false := HR2.out.frozen 2
  have hr0 : w2.cell? ⟨w.heap.size, 0, none⟩ = some (.int .u16 0) := by rw [HR2.out.cell]; rfl
  have hr1 : w2.cell? ⟨w.heap.size, 1, none⟩ = some (.int .u8 0) := by rw [HR2.out.cell]; rfl
  have hr2 : w2.cell? ⟨w.heap.size, 2, none⟩ = some (.int .u8 0) := by rw [HR2.out.cell]; rfl
  by_cases h0 : 0 < em
  · rw [if_pos h0] at HLT
    have hg : decide ((em : Int) > 0) = true := by simp; omega
    have hj := hj h0
    obtain ⟨q, hq⟩ : ∃ q, q = v / 2 ^ f % 2 ^ em := ⟨_, rfl⟩
    obtain ⟨m1, m2, m3⟩ := look_nums v f em q hv hm hq
    rw [← hq] at hj HLT
    have hqs : q < 16384 := by
      have := Nat.mod_lt (v / 2 ^ f) (Nat.two_pow_pos em)
      have h2 : 2 ^ em ≤ 2 ^ 14 := Nat.pow_le_pow_right (by omega) hm
      omega
    obtain ⟨j, hje⟩ : ∃ j, j = ev + q := ⟨_, rfl⟩
    have m4 : IntKind.u32.wrap (ev : Int) = (ev : Int) := by rw [IntKind.wrap_u32]; omega
    have m5 : IntKind.u32.wrap ((ev : Int) + (q : Int)) = (j : Int) := by rw [IntKind.wrap_u32]; omega
    rw [← hje] at hj HLT
    clear hq hje
    obtain ⟨c0, c1, c2⟩ := HT2.out.el _ hj
    have ht1 : w2.cell? ⟨g, 1, none⟩ = some (.slice (some ⟨ge, 0, none⟩) n n) := by rw [HT2.out.tab.cell]; rfl
    have ht0 : w2.cell? ⟨g, 0, none⟩ = some (.int .u64 (f : Int)) := by rw [HT2.out.tab.cell]; rfl
    have hji : ((j : Nat) : Int) < (n : Int) := by omega
    generalize T j = y at *
    go_upto_region 5 with (fail)
    go_still_tail 21, (by kernel_rfl)
    change wpList _ _ _ _ _ w2.drew
    have HT3 : Hid (TabAt w2.drew g ge f n T) := Lib.hid HT2.out.drew
    have HX3 : Hid (Blk w2.drew g5 168 (ec ⟨ev, el, em⟩)) := HX2
    have HR3 : Hid (Blk w2.drew w.heap.size 168 e0) := HR2
    have HB3 : Hid (Below w.heap.size w w2.drew) := Lib.hid HB2.out.drew
    clear HT2 HX2 HR2 HB2 hx2 hx0 hx1 hf0 hf1 hf2 hr0 hr1 hr2 ht0 ht1 c0 c1 c2
    generalize w2.drew = w3 at *
    have HN2 : Hid (w.heap.size ≠ g5) := Lib.hid (by have := HN.out; omega)
    have HR4 : Hid (Blk (w3.setRow g5 (ec y)) w.heap.size 168 e0) := Lib.hid (HR3.out.same (setRow_block _ _ _ _ HN2.out))
    go_wp2_with (first
      | (refine wpList_store_row rfl _ _ _ rfl g5 _ rfl rfl 168 (ec ⟨ev, el, em⟩) HX3.out info_el rfl (by kernel_rfl) ?_)
      | (refine wpList_load_row rfl 168 _ rfl g5 rfl 168 (ec y) (0, 0) _ (HX3.out.row (ec y)) Tryz.underlying168 rfl info_el ?_)
      | (refine wpList_store_row rfl _ _ _ rfl w.heap.size _ rfl rfl 168 e0 HR4.out info_el rfl (by kernel_rfl) ?_))
    rw [HLT.out]
    exact look_ret rfl rfl (HR4.out.row (ec y)) rfl ⟨rfl, below_row (below_row HB3.out (Nat.le_of_lt HN.out) _) (Nat.le_refl _) _⟩
  · obtain rfl : em = 0 := by omega
    rw [if_neg h0] at HLT
    go_wp2_with (first
      | (refine wpList_store_row rfl _ _ _ rfl w.heap.size _ rfl rfl 168 e0 HR2.out info_el rfl (by kernel_rfl) ?_))
    rw [HLT.out]
    exact look_ret rfl rfl (HR2.out.row _) rfl ⟨rfl, below_row HB2.out (Nat.le_refl _) _⟩
end Go.Proofs.YtdbcendnibgcaaaGreatDoor.TabC
end

section
/-
  What Find answers (no program's function).
-/
namespace Go.Proofs.YtdbcendnibgcaaaGreatDoor.TabC
open Go.RowKit Go.My BitMath CanMath TabMath

/-- What Find answers of an element. -/
def ansV (e : El) (m : Nat) : Value := if e.l = 0 then .tuple #[.int .i64 0, .int .i64 0, .int .i64 2] else if m < e.l then .tuple #[.int .i64 0, .int .i64 0, .int .i64 5] else .tuple #[.int .i64 ((e.v : Nat) : Int), .int .i64 ((e.l : Nat) : Int), .int .i64 0]

end Go.Proofs.YtdbcendnibgcaaaGreatDoor.TabC
end

section
/-
  Find, Size.
-/
namespace Go.Proofs.YtdbcendnibgcaaaGreatDoor.TabC
open Go.RowKit Go.My BitMath CanMath TabMath

theorem quiet_below (w : World) (n : Nat) : Below w.heap.size w (w.drewN n) := ⟨rfl, rfl, rfl, Nat.le_refl _, fun _ _ => rfl⟩
/-- So many bits are there. -/
def cl (n : Int) : Nat := (min (max n 0) 15).toNat
theorem cl_le (n : Int) : cl n ≤ 15 := by unfold cl; omega
theorem cl_eq (n : Int) : ∃ k : Nat, (if n < 0 then (0 : Int) else n) = (k : Int) ∧ (if 15 < (k : Int) then (15 : Int) else (k : Int)) = ((cl n : Nat) : Int) ∧ (if (k : Int) < 15 then (k : Int) else (15 : Int)) = ((cl n : Nat) : Int) := by
  unfold cl
  refine ⟨(max n 0).toNat, ?_, ?_, ?_⟩
  · split <;> omega
  · split <;> omega
  · split <;> omega
theorem find_nil (v n : Int) (w : World) :
    Calls Tryz.prog 117 #[.pointer none, .int .u32 v, .int .i64 n] w fun e w' => e = .returned (.tuple #[.int .i64 0, .int .i64 0, .int .i64 1]) ∧ w = w' := by
  go_enter Tryz.func117, Tryz.ntmps117
  go_wp2_with fail
  go_ret3
  exact ⟨rfl, rfl⟩
set_option maxRecDepth 100000 in
set_option maxHeartbeats 4000000 in
theorem find_any (g ge f N v : Nat) (n : Int) (T : Nat → El) (w : World) (h : TabAt w g ge f N T) (hf : f ≤ 15) (hv : v < 4294967296)
    (hu : ∀ u, u < 32768 → u % 2 ^ f < N ∧ (T (u % 2 ^ f)).m ≤ 14 ∧ (0 < (T (u % 2 ^ f)).m → (T (u % 2 ^ f)).v + u / 2 ^ f % 2 ^ (T (u % 2 ^ f)).m < N) ∧ (T (u % 2 ^ f)).v < 65536 ∧ (lookT T f u = El.z ∨ (0 < (lookT T f u).l ∧ (lookT T f u).l ≤ 15 ∧ (lookT T f u).v < 65536))) :
    Calls Tryz.prog 117 #[.pointer (some ⟨g, 0, none⟩), .int .u32 (v : Int), .int .i64 n] w fun e w' => e = .returned (ansV (lookT T f (v % 2 ^ cl n)) (cl n)) ∧ Below w.heap.size w w' := by
  have HT := Lib.hid h
  have hc15 := cl_le n
  obtain ⟨k, hk1, hk2, hk3⟩ := cl_eq n
  generalize cl n = m at *
  have hus : v % 2 ^ m < 32768 := by
    have := Nat.mod_lt v (Nat.two_pow_pos m)
    have h2 := pow_le15 hc15
    omega
  obtain ⟨q1, q2, q3, q4, q5⟩ := hu _ hus
  have hand := u32_low v m hv hc15
  have HL := Lib.hid (look_any g ge f N (v % 2 ^ m) T w h hf hus q1 q2 q3 q4)
  clear h hu q1 q2 q3 q4
  generalize v % 2 ^ m = u at *
  generalize lookT T f u = y at *
  obtain ⟨yv, yl, ym⟩ := y
  have hml : (m : Int) < 16 := by omega
  go_enter Tryz.func117, Tryz.ntmps117
  go_wp2_with fail
  refine HL.out.mono ?_
  clear HL
  rintro e w2 ⟨rfl, hb⟩
  have HB := Lib.hid hb
  clear hb hk1 hk2 hk3 hand
  dsimp only [ec]
  rcases q5 with h0 | ⟨h1, h2, h3⟩
  · obtain ⟨rfl, rfl, rfl⟩ : yv = 0 ∧ yl = 0 ∧ ym = 0 := by simpa [El.z] using h0
    go_wp2_with fail
    go_ret3
    exact ⟨rfl, HB.out.alloc HB.out.size _⟩
  · have g1 : ((yl : Int) == 0) = false := by simp; omega
    by_cases hlt : m < yl
    · have g2 : decide ((yl : Int) > (m : Int)) = true := by simp; omega
      go_wp2_with fail
      go_ret3
      exact ⟨by unfold ansV; rw [if_neg (by simp; omega), if_pos hlt]; rfl, HB.out.alloc HB.out.size _⟩
    · have g2 : decide ((yl : Int) > (m : Int)) = false := by simp; omega
      go_wp2_with fail
      have e1 : IntKind.i64.wrap (yv : Int) = (yv : Int) := by rw [IntWalk.i64_in _ (by omega)]
      have e2 : IntKind.i64.wrap (yl : Int) = (yl : Int) := by rw [IntWalk.i64_in _ (by omega)]
      go_quiet (fail)
      have HB3 := Lib.hid ((HB.out.alloc HB.out.size (.cells #[.int .u16 (yv : Int), .int .u8 (yl : Int), .int .u8 (ym : Int)] 168)).trans ((quiet_below _ nq).mono (Nat.le_trans HB.out.size (by simp))))
      go_wp2_with fail
      go_ret3
      exact ⟨by unfold ansV; rw [if_neg (by simp; omega), if_neg hlt]; rfl, HB3.out⟩
end Go.Proofs.YtdbcendnibgcaaaGreatDoor.TabC
end
