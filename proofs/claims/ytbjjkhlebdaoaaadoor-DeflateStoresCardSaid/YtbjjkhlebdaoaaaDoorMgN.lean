import Derived.Test.YtbjjkhlebdaoaaaDoorRows
import Derived.Test.YtbjjkhlebdaoaaaDoorMgA
import Derived.Test.YtbjjkhlebdaoaaaDoorMgK
import Derived.Laws.Pointers
import Derived.Deep.QuietTactic
import Derived.BigQuiet
import Derived.BigRegion
import Derived.Deep.DeepCutAuto
import Derived.Deep.RegionLaw
import Derived.StillTailTactics

section
/-
  pack.merge: a level of leaves and packages.
-/
namespace Go.Proofs.YtbjjkhlebdaoaaaDoor.PkC
open Go.RowKit Go.My PackMath

def nv (p : Nat × Bool) : List Value := [.int .i64 (p.1 : Int), .bool p.2]
def nds (l : List (Nat × Bool)) : List Value := l.flatMap nv
theorem nds_cons (p : Nat × Bool) (l : List (Nat × Bool)) : nds (p :: l) = .int .i64 (p.1 : Int) :: .bool p.2 :: nds l := rfl
theorem nds_append (a b : List (Nat × Bool)) : nds (a ++ b) = nds a ++ nds b := by simp [nds]
theorem nds_get (l : List (Nat × Bool)) : ∀ i (h : i < l.length), (nds l)[i * 2]? = some (.int .i64 (l[i].1 : Int)) ∧ (nds l)[i * 2 + 1]? = some (.bool l[i].2) := by
  induction l with
  | nil => intro i h; simp at h
  | cons p l ih =>
    intro i h
    rw [nds_cons]
    cases i with
    | zero => exact ⟨rfl, rfl⟩
    | succ i =>
      have := ih i (by simpa using h)
      rw [show (i + 1) * 2 = i * 2 + 1 + 1 by omega, show i * 2 + 1 + 1 + 1 = (i * 2 + 1) + 1 + 1 by omega]
      simpa using this
theorem nds_one (l : List (Nat × Bool)) : ∀ u ∈ nds l, u.oneCell' = true := by
  intro u hu
  obtain ⟨p, _, hp⟩ := List.mem_flatMap.1 hu
  simp only [nv, List.mem_cons, List.not_mem_nil, or_false] at hp
  rcases hp with rfl | rfl <;> rfl
/-- A row of nodes that is read. -/
structure NodesIn (w : World) (a : Option Addr) (len cap : Nat) (l : List (Nat × Bool)) : Prop where
  len_eq : l.length = len
  le_cap : len ≤ cap
  cap_le : cap ≤ 9223372036854775807
  nil : a = none → len = 0 ∧ cap = 0
  at_ : len = 0 ∨ ∃ b off, a = some ⟨b, off, none⟩ ∧ b < w.heap.size ∧ ∀ i (h : i < l.length), w.cell? ⟨b, off + i * 2, none⟩ = some (.int .i64 (l[i].1 : Int)) ∧ w.cell? ⟨b, off + i * 2 + 1, none⟩ = some (.bool l[i].2)
theorem NodesIn.none_ (w : World) : NodesIn w none 0 0 [] := ⟨rfl, Nat.le_refl _, by omega, fun _ => ⟨rfl, rfl⟩, .inl rfl⟩
theorem NodesIn.below {w w' : World} {a : Option Addr} {len cap : Nat} {l : List (Nat × Bool)} (h : NodesIn w a len cap l) {B : Nat} (hB : w.heap.size ≤ B) (hb : Below B w w') : NodesIn w' a len cap l := by
  refine ⟨h.1, h.2, h.3, h.4, h.5.imp_right ?_⟩
  rintro ⟨b, off, ha, hs, hc⟩
  exact ⟨b, off, ha, Nat.lt_of_lt_of_le hs hb.size, fun i hi => by
    rw [hb.cell (p := ⟨b, off + i * 2, none⟩) (Nat.lt_of_lt_of_le hs hB), hb.cell (p := ⟨b, off + i * 2 + 1, none⟩) (Nat.lt_of_lt_of_le hs hB)]; exact hc i hi⟩
theorem NodesIn.some_ {w : World} {a : Option Addr} {len cap : Nat} {l : List (Nat × Bool)} (h : NodesIn w a len cap l) (h0 : 0 < len) : ∃ b off, a = some ⟨b, off, none⟩ ∧ b < w.heap.size ∧ ∀ i (h : i < l.length), w.cell? ⟨b, off + i * 2, none⟩ = some (.int .i64 (l[i].1 : Int)) ∧ w.cell? ⟨b, off + i * 2 + 1, none⟩ = some (.bool l[i].2) := by
  rcases h.at_ with h5 | h5
  · omega
  · exact h5
theorem NodesIn.drop {w : World} {b off len cap : Nat} {l : List (Nat × Bool)} (h : NodesIn w (some ⟨b, off, none⟩) len cap l) (k : Nat) (hk : k ≤ len) : NodesIn w (some ⟨b, off + k * 2, none⟩) (len - k) (cap - k) (l.drop k) := by
  obtain ⟨rfl, h2, h3, h4, h5⟩ := h
  refine ⟨by simp, by omega, by omega, fun h => (by cases h), ?_⟩
  rcases h5 with h5 | ⟨b', off', ha, hs, hc⟩
  · left; omega
  · right
    cases ha
    refine ⟨b, off + k * 2, rfl, hs, fun i hi => ?_⟩
    have := hc (k + i) (by simp at hi; omega)
    rw [List.getElem_drop]
    rw [show off + (k + i) * 2 = off + k * 2 + i * 2 by omega] at this
    exact this
theorem RowIn.drop {w : World} {b off len cap : Nat} {l : List Value} (h : RowIn w (some ⟨b, off, none⟩) len cap l) (k : Nat) (hk : k ≤ len) : RowIn w (some ⟨b, off + k, none⟩) (len - k) (cap - k) (l.drop k) := by
  obtain ⟨rfl, h2, h3, h4, h5⟩ := h
  refine ⟨by simp, by omega, by omega, fun h => (by cases h), ?_⟩
  rcases h5 with h5 | ⟨b', off', ha, hs, hc⟩
  · left; omega
  · right
    cases ha
    exact ⟨b, off + k, rfl, hs, fun i hi => by
      rw [List.getElem_drop, ← hc (k + i) (by simp at hi; omega), Nat.add_assoc]⟩
/-- A row of nodes of the call's own. -/
def OwnN (base : Nat) (w : World) (v : Value) (l : List (Nat × Bool)) : Prop := w.ownsRow base 162 2 v l.length (nds l)
theorem OwnN.nodes {base : Nat} {w : World} {v : Value} {l : List (Nat × Bool)} (h : OwnN base w v l) : ∃ a c, v = .slice a l.length c ∧ NodesIn w a l.length c l := by
  rcases h.2 with ⟨rfl, h0⟩ | ⟨g, cap, cur, rfl, hg, hh, hn, hm, hs, ht⟩
  · have : l = [] := List.length_eq_zero_iff.1 h0
    subst this
    exact ⟨none, 0, rfl, NodesIn.none_ w⟩
  · unfold maxLen at hm
    have hc : ∀ j, j < l.length * 2 → w.cell? ⟨g, j, none⟩ = (nds l)[j]? := fun j hj => by
      rw [cell_of_row _ _ _ _ _ _ hh, ← Array.getElem?_toList]
      have : (cur.toList.take (l.length * 2))[j]? = (nds l)[j]? := by rw [ht]
      rw [List.getElem?_take, if_pos hj] at this
      exact this
    refine ⟨_, cap, rfl, rfl, hn, hm, (fun h => by cases h), .inr ⟨g, 0, rfl, ?_, fun i hi => ?_⟩⟩
    · by_cases hlt : g < w.heap.size
      · exact hlt
      · rw [Array.getElem?_eq_none (by omega)] at hh; cases hh
    · obtain ⟨h1, h2⟩ := nds_get l i hi
      rw [Nat.zero_add, hc _ (by omega), hc _ (by omega)]
      exact ⟨h1, h2⟩
theorem info_node : (Tryd.prog.info? 162).map (fun i => (i.zero, i.size, i.bytes)) = some (some (.agg #[.int .i64 0, .bool false]), 2, 16) := by kernel_rfl
/-- append(level, node{..}). -/
theorem wp_append_node {P : Program} {w : World} {o : Oper} {a : Act} {K : Act → World → Prop} {Q : Exit → Act → World → Prop} (hw0 : P = Tryd.prog) (s x : Operand)
    (ho : o.op = .call { callee := .builtin .append, args := #[s, x], argTypes := #[156, 156] }) (base : Nat)
    (v : Value) (l : List (Nat × Bool)) (hs : a.eval s = v) (hown : OwnN base w v l) (g0 : Nat) (p : Nat × Bool) (hx : a.eval x = .slice (some ⟨g0, 0, none⟩) 1 1) (hb : Blk w g0 162 #[.int .i64 (p.1 : Int), .bool p.2])
    (hlen : l.length ≤ 4000000) (hbase : base ≤ w.heap.size)
    (h : ∀ a' c' w', OwnN base w' (.slice a' (l.length + 1) c') (l ++ [p]) → w.grownBy w' v.ownBlock → K (a.put o.dst (.slice a' (l.length + 1) c')) w') : o.wp P a w K Q := by
  subst hw0
  obtain ⟨i, hi, hz0, hz1, hz2⟩ := info_parts info_node
  refine wp_append_lies w s x 156 ho base 162 i _ 2 16 Tryd.underlying156 hi hz0 hz1 hz2 rfl (by decide) v l.length (nds l) hs hown ⟨g0, 0, none⟩ 1 1 (nds [p]) hx rfl ?_ (nds_one _) (by decide) (by unfold maxLen; omega) (by omega) hbase _ rfl ?_
  · exact World.news_of_block (cs := #[.int .i64 (p.1 : Int), .bool p.2]) hb
  · intro g cap w' h1 h2 _ _
    refine h _ cap w' ?_ h2
    unfold OwnN
    rw [List.length_append, nds_append]
    exact h1
theorem wpList_append_node {w : World} {ops : Array Oper} {rest : List Oper} {o : Oper} {a : Act} {Q : Exit → Act → World → Prop} (hw : Region.wanted o (yielded ops a.tmps) = true) (s x : Operand)
    (ho : o.op = .call { callee := .builtin .append, args := #[s, x], argTypes := #[156, 156] }) (base : Nat)
    (v : Value) (l : List (Nat × Bool)) (hs : a.eval s = v) (hown : OwnN base w v l) (g0 : Nat) (p : Nat × Bool) (hx : a.eval x = .slice (some ⟨g0, 0, none⟩) 1 1) (hb : Blk w g0 162 #[.int .i64 (p.1 : Int), .bool p.2])
    (hlen : l.length ≤ 4000000) (hbase : base ≤ w.heap.size)
    (h : ∀ a' c' w', OwnN base w' (.slice a' (l.length + 1) c') (l ++ [p]) → w.grownBy w' v.ownBlock → wpList Tryd.prog ops Q rest (a.put o.dst (.slice a' (l.length + 1) c')) w') : wpList Tryd.prog ops Q (o :: rest) a w :=
  wpList_of_wp hw fun _ hK => wp_append_node rfl s x ho base v l hs hown g0 p hx hb hlen hbase fun a' c' w' h1 h2 => hK _ _ (h a' c' w' h1 h2)
theorem step_append_node {w : World} {ops : Array Oper} {o : Oper} {a : Act} {K : Act → World → Prop} {Q : Exit → Act → World → Prop} {F : Prop} (hgd : o.guard = none) (s x : Operand)
    (ho : o.op = .call { callee := .builtin .append, args := #[s, x], argTypes := #[156, 156] }) (base : Nat)
    (v : Value) (l : List (Nat × Bool)) (hs : a.eval s = v) (hown : OwnN base w v l) (g0 : Nat) (p : Nat × Bool) (hx : a.eval x = .slice (some ⟨g0, 0, none⟩) 1 1) (hb : Blk w g0 162 #[.int .i64 (p.1 : Int), .bool p.2])
    (hlen : l.length ≤ 4000000) (hbase : base ≤ w.heap.size)
    (h : ∀ a' c' w', OwnN base w' (.slice a' (l.length + 1) c') (l ++ [p]) → w.grownBy w' v.ownBlock → K (a.put o.dst (.slice a' (l.length + 1) c')) w') :
    if Region.wanted o (yielded ops a.tmps) = true then Oper.wp Tryd.prog o a w K Q else F := by
  have hw : Region.wanted o (yielded ops a.tmps) = true := by simp [Region.wanted, hgd]
  rw [if_pos hw]
  exact wp_append_node rfl s x ho base v l hs hown g0 p hx hb hlen hbase h
theorem OwnN.below {base : Nat} {w w' : World} {v : Value} {l : List (Nat × Bool)} (h : OwnN base w v l) {B : Nat} (hB : w.heap.size ≤ B) (hb : Below B w w') : OwnN base w' v l := by
  refine World.ownsRow.kept h (row := none) ⟨hb.os, hb.tape, hb.output, hb.size, fun k hk _ => hb.block k (by omega)⟩ ?_
  by_cases hv : v.ownBlock = none
  · exact .inl hv
  · exact .inr hv
theorem OwnN.grown {base : Nat} {w0 w w' : World} {v : Value} {l : List (Nat × Bool)} (hown : OwnN base w v l) (h : Below base w0 w) (hg : w.grownBy w' v.ownBlock) (hb : base ≤ w.heap.size) : Below base w0 w' :=
  h.grown hg hb fun k hk => (World.ownsRow.lt hown k hk).1
/-- One off the front. -/
theorem RowIn.tail {w : World} {b off len cap : Nat} {u : Value} {l : List Value} (h : RowIn w (some ⟨b, off, none⟩) len cap (u :: l)) : RowIn w (if cap = 1 then some ⟨b, off, none⟩ else some ⟨b, off + 1, none⟩) (len - 1) (cap - 1) l := by
  have h1 := RowIn.drop h 1 (by have := h.len_eq; simp at this; omega)
  split
  · refine ⟨h1.1, h1.2, h1.3, fun h => (by cases h), .inl ?_⟩
    have := h.le_cap
    omega
  · exact h1
theorem NodesIn.tail2 {w : World} {b off len cap : Nat} {u v : Nat × Bool} {l : List (Nat × Bool)} (h : NodesIn w (some ⟨b, off, none⟩) len cap (u :: v :: l)) : NodesIn w (if cap = 2 then some ⟨b, off, none⟩ else some ⟨b, off + 4, none⟩) (len - 2) (cap - 2) l := by
  have h1 := NodesIn.drop h 2 (by have := h.len_eq; simp at this; omega)
  split
  · refine ⟨h1.1, h1.2, h1.3, fun h => (by cases h), .inl ?_⟩
    have := h.le_cap
    omega
  · exact h1
theorem short_or (B : List (Nat × Bool)) : B.length ≤ 1 ∨ ∃ u v r, B = u :: v :: r := by
  match B with
  | [] => exact .inl (by simp)
  | [_] => exact .inl (by simp)
  | u :: v :: r => exact .inr ⟨u, v, r, rfl⟩
theorem prs_short (B : List (Nat × Bool)) (h : B.length ≤ 1) : prs (ws B) = [] := by
  match B with
  | [] => rfl
  | [_] => rfl
  | u :: v :: r => simp at h
theorem quietb {B : Nat} (w : World) (n : Nat) (_ : B ≤ w.heap.size) : Below B w (w.drewN n) := ⟨rfl, rfl, rfl, Nat.le_refl _, fun _ _ => rfl⟩
def sl : Value → Nat
  | .slice _ n _ => n
  | _ => 0
set_option maxRecDepth 100000 in
set_option maxHeartbeats 8000000 in
theorem merge_any (A : List Nat) (B : List (Nat × Bool)) (a b : Option Addr) (la ca lb cb : Nat) (w : World) (hA : RowIn w a la ca (lv A)) (hB : NodesIn w b lb cb B) (hsA : A.length ≤ 1000000) (hsB : B.length ≤ 1000000)
    (hwA : ∀ x ∈ A, x ≤ 1152921504606846976) (hwB : ∀ p ∈ B, p.1 ≤ 1152921504606846976) :
    Calls Tryd.prog 95 #[.slice a la ca, .slice b lb cb] w fun e w' => ∃ v, e = .returned v ∧ OwnN w.heap.size w' v (mrg A (prs (ws B))) ∧ Below w.heap.size w w' := by
  have HA := Lib.hid hA
  have HB := Lib.hid hB
  have HWA := Lib.hid hwA
  have HWB := Lib.hid hwB
  have hla : la = A.length := by have := hA.len_eq; simpa [lv] using this.symm
  have hlb : lb = B.length := hB.len_eq.symm
  obtain ⟨N, hN⟩ : ∃ N, N = la + lb / 2 := ⟨_, rfl⟩
  have e1 : (la : Int) + (lb : Int) / 2 = (N : Int) := by omega
  have b1 : la ≤ 1000000 := by omega
  have b2 : lb ≤ 1000000 := by omega
  have HN : Hid (N ≤ 2000000) := Lib.hid (by omega)
  have HF : Hid ((mrg A (prs (ws B))).length ≤ 2000000) := Lib.hid (by rw [mrg_len, prs_len, ws_len]; omega)
  have HL : Hid (la ≤ 1000000 ∧ lb ≤ 1000000) := Lib.hid (by omega)
  clear hA hB hwA hwB hsA hsB hla hlb hN
  obtain ⟨i, hi, hz0, hz1, hz2⟩ := info_parts info_node
  go_enter Tryd.func95, Tryd.ntmps95
  go_wp2_with fail
  go_step3
  go_wp2_with (at_make; refine wpList_make_own _ rfl (.const (.int .i64 0)) (.tmp 12) 156 rfl w.heap.size 162 i _ 2 Tryd.underlying156 hi hz0 hz1 .i64 .i64 _ N rfl rfl rfl (by rw [hz2]; have := HN.out; omega) (by have := HN.out; unfold maxLen; omega) (Nat.le_refl _) ?_)
  intro w1 hown1 hgrow1
  have HO1 : Hid (OwnN w.heap.size w1 (.slice (some ⟨w.heap.size, 0, none⟩) 0 N) []) := Lib.hid hown1
  have HB1 : Hid (Below w.heap.size w w1) := Lib.hid (grown_none_below (Below.refl _ w) hgrow1 (Nat.le_refl _))
  have HM1 : Hid (mrg A (prs (ws B)) = [] ++ mrg A (prs (ws B))) := Lib.hid rfl
  clear hown1 hgrow1 e1 hi hz0 hz1 hz2 b1 b2
  go_wp2_with fail
  go_step3
  go_wp2_with fail
  go_loopw [0, 1, 5, 6] (fun s t v _ wr => ∃ (A' : List Nat) (B' : List (Nat × Bool)) (D : List (Nat × Bool)) (a b c : Option Addr) (la ca lb cb lc cc : Nat), s = .slice a la ca ∧ t = .slice b lb cb ∧ v = .slice c lc cc ∧
      Hid (RowIn w a la ca (lv A')) ∧ Hid (NodesIn w b lb cb B') ∧ Hid (OwnN w.heap.size wr v D) ∧ Hid (D.length = lc) ∧ Hid (Below w.heap.size w wr) ∧ Hid (mrg A (prs (ws B)) = D ++ mrg A' (prs (ws B'))) ∧ Hid (∀ x ∈ A', x ≤ 1152921504606846976) ∧ Hid (∀ p ∈ B', p.1 ≤ 1152921504606846976) ∧ Hid (la ≤ 1000000 ∧ lb ≤ 1000000)) (fun s t _ _ _ => sl s + sl t)
  case atStart => exact ⟨A, B, [], a, b, _, la, ca, lb, cb, 0, N, rfl, rfl, rfl, HA, HB, HO1, Lib.hid rfl, HB1, HM1, HWA, HWB, HL⟩
  case round =>
    clear HO1 HB1 HM1 HA HB HWA HWB HL
    obtain ⟨A', B', D, a, b, c, la, ca, lb, cb, lc, cc, rfl, rfl, rfl, HA, HB, HO, HD, HW, HM, HWA, HWB, HL⟩ := hrel
    have hla : la = A'.length := by have := HA.out.len_eq; simpa [lv] using this.symm
    have hlb : lb = B'.length := HB.out.len_eq.symm
    have HLA := Lib.hid hla
    have HLB := Lib.hid hlb
    have hD : D.length ≤ 2000000 := by have := HF.out; rw [HM.out, List.length_append] at this; omega
    have HDL := Lib.hid hD
    clear hD
    rcases short_or B' with hsh | ⟨⟨y, f1⟩, ⟨z, f2⟩, r, rfl⟩
    · have p1 : decide ((1 : Int) < (lb : Int)) = false := by simp; omega
      have HSH : Hid (prs (ws B') = []) := Lib.hid (prs_short B' hsh)
      cases A' with
      | nil =>
        have p2 : ((la : Int) == 0) = true := by simp at hla; simp [hla]
        clear hla hlb hsh
        go_wp2_with fail
        rw [Exit.noGoto_ret]
        go_ret
        refine ⟨_, rfl, ?_, HW.out⟩
        have h := HM.out
        rw [HSH.out, mrg_nn, List.append_nil] at h
        rw [h]
        exact HO.out
      | cons x ls =>
        as_aux_lemma =>
        have p2 : ((la : Int) == 0) = false := by simp at hla; simp; omega
        have hla0 : 0 < la := by simp at hla; omega
        clear hla hlb hsh
        have hA1 := HA.out.below (Nat.le_refl _) HW.out
        obtain ⟨ab, ao, rfl⟩ := HA.out.some_ (by omega)
        have c1 : wr.cell? ⟨ab, ao, none⟩ = some (.int .i64 (x : Int)) := by simpa [lv] using hA1.get 0 (by simp [lv])
        have q1 : (0 : Int) < (la : Int) := by omega
        clear hA1
        go_wp2_with fail
        go_quiet (fail)
        have HW2 : Hid (Below w.heap.size w (wr.drewN nq)) := Lib.hid (HW.out.trans (quietb wr nq HW.out.size))
        have HO2 : Hid (OwnN w.heap.size (wr.drewN nq) (.slice c lc cc) D) := HO
        have c1' : (wr.drewN nq).cell? ⟨ab, ao, none⟩ = some (.int .i64 (x : Int)) := c1
        clear HW HO c1 p1 p2
        generalize wr.drewN nq = w2 at *
        have HB2 : Hid (Blk (w2.alloc (.cells #[.int .i64 (x : Int), .bool true] 162)) w2.heap.size 162 #[.int .i64 (x : Int), .bool true]) := Lib.hid (Blk.new w2 _ _)
        have HO3 : Hid (OwnN w.heap.size (w2.alloc (.cells #[.int .i64 (x : Int), .bool true] 162)) (.slice c lc cc) D) := Lib.hid (HO2.out.below (Nat.le_refl _) ((Below.refl _ w2).alloc (Nat.le_refl _) _))
        have HW3 : Hid (Below w.heap.size w (w2.alloc (.cells #[.int .i64 (x : Int), .bool true] 162))) := Lib.hid (HW2.out.alloc HW2.out.size _)
        go_wp2_with (at_builtin; refine wpList_append_node (by rfl) (.tmp 63) (.tmp 68) rfl w.heap.size (.slice c lc cc) D rfl HO3.out w2.heap.size (x, true) rfl HB2.out (by have := HDL.out; omega) HW3.out.size ?_)
        intro a7 c7 w7 hown hgrow
        have HO7 := Lib.hid hown
        have HW7 := Lib.hid (HO3.out.grown HW3.out hgrow HW3.out.size)
        clear hown hgrow HO2 HO3 HW2 HW3 HB2 c1'
        have HA7 := Lib.hid (RowIn.tail HA.out)
        clear HA
        go_wp2_with fail
        go_roundw
        case measure => simp [sl]; omega
        case rel =>
          exact ⟨ls, B', D ++ [(x, true)], _, _, _, la - 1, ca - 1, lb, cb, D.length + 1, c7, rfl, rfl, rfl, HA7, HB, HO7, Lib.hid (by simp), HW7, Lib.hid (by rw [HM.out, HSH.out, mrg_cn]; simp), Lib.hid (fun z hz => HWA.out z (List.mem_cons_of_mem _ hz)), HWB, Lib.hid (by have := HL.out; omega)⟩

    · have p1 : decide ((1 : Int) < (lb : Int)) = true := by simp at hlb; simp; omega
      have hlb2 : 2 ≤ lb := by simp at hlb; omega
      cases A' with
      | nil =>
        as_aux_lemma =>
        have p3 : decide (0 < la) = false := by simp at hla; simp [hla]
        clear hla hlb
        have hB1 := HB.out.below (Nat.le_refl _) HW.out
        obtain ⟨bb, bo, rfl, _, hcB⟩ := hB1.some_ (by omega)
        have d1 : wr.cell? ⟨bb, bo, none⟩ = some (.int .i64 (y : Int)) := (hcB 0 (by simp)).1
        have d2 : wr.cell? ⟨bb, bo + 2, none⟩ = some (.int .i64 (z : Int)) := (hcB 1 (by simp)).1
        have q2 : (1 : Int) < (lb : Int) := by omega
        have q3 : (0 : Int) < (lb : Int) := by omega
        have q4 : 0 < lb := by omega
        have q5 : 1 < lb := by omega
        clear hB1 hcB
        obtain ⟨yz, hyz⟩ : ∃ q : Nat, q = y + z := ⟨_, rfl⟩
        have HYZ := Lib.hid hyz
        have e5 : IntKind.i64.wrap ((y : Int) + (z : Int)) = (yz : Int) := by rw [IntKind.wrap_i64]; have := HWB.out (y, f1) (by simp); have := HWB.out (z, f2) (by simp); simp only at *; omega
        have e6 : (y : Int) + (z : Int) = (yz : Int) := by omega
        have e7 : yz ≤ 2305843009213693952 := by have := HWB.out (y, f1) (by simp); have := HWB.out (z, f2) (by simp); simp only at *; omega
        have e8 : IntKind.i64.wrap (yz : Int) = (yz : Int) := by rw [IntKind.wrap_i64]; omega
        clear hyz

        go_wp2_with fail
        go_quiet (fail)
        have HW2 : Hid (Below w.heap.size w (wr.drewN nq)) := Lib.hid (HW.out.trans (quietb wr nq HW.out.size))
        have HO2 : Hid (OwnN w.heap.size (wr.drewN nq) (.slice c lc cc) D) := HO
        have d1' : (wr.drewN nq).cell? ⟨bb, bo, none⟩ = some (.int .i64 (y : Int)) := d1
        have d2' : (wr.drewN nq).cell? ⟨bb, bo + 2, none⟩ = some (.int .i64 (z : Int)) := d2
        clear HW HO d1 d2 p1 p3
        generalize wr.drewN nq = w2 at *
        have HB4 : Hid (Blk (w2.drew.alloc (.cells #[.int .i64 (yz : Int), .bool false] 162)) w2.heap.size 162 #[.int .i64 (yz : Int), .bool false]) := Lib.hid (Blk.new w2.drew _ _)
        have HO4 : Hid (OwnN w.heap.size (w2.drew.alloc (.cells #[.int .i64 (yz : Int), .bool false] 162)) (.slice c lc cc) D) := Lib.hid (HO2.out.below (Nat.le_refl _) (((Below.refl _ w2).drew).alloc (Nat.le_refl _) _))
        have HW4 : Hid (Below w.heap.size w (w2.drew.alloc (.cells #[.int .i64 (yz : Int), .bool false] 162))) := Lib.hid (HW2.out.drew.alloc HW2.out.size _)
        clear HW2 HO2
        go_wp2_with fail
        go_region_law ((refine step_append_node (by rfl) _ _ (by rfl) w.heap.size (.slice c lc cc) D (by rfl) HO4.out w2.heap.size (yz, false) (by rfl) HB4.out (by have := HDL.out; omega) HW4.out.size ?_; intro a7 c7 w7 hown hgrow))
        all_goals
          have HO7 := Lib.hid hown
          have HW7 := Lib.hid (HO4.out.grown HW4.out hgrow HW4.out.size)
          clear hown hgrow HO4 HW4 HB4 d1' d2'
          have HB7 := Lib.hid (NodesIn.tail2 HB.out)
          clear HB
          go_wp2_with fail
          go_roundw
          case measure => simp [sl]; omega
          case rel =>
            exact ⟨[], r, D ++ [(yz, false)], _, _, _, la, ca, lb - 2, cb - 2, D.length + 1, c7, rfl, rfl, rfl, HA, HB7, HO7, Lib.hid (by simp), HW7, Lib.hid (by rw [HM.out, ws_cons, ws_cons, prs_cons, mrg_nc, HYZ.out]; simp), HWA, Lib.hid (fun q hq => HWB.out q (List.mem_cons_of_mem _ (List.mem_cons_of_mem _ hq))), Lib.hid (by have := HL.out; omega)⟩

      | cons x ls =>
        have p3 : decide (0 < la) = true := by simp at hla; simp; omega
        have hla0 : 0 < la := by simp at hla; omega
        clear hla hlb
        have hA1 := HA.out.below (Nat.le_refl _) HW.out
        obtain ⟨ab, ao, rfl⟩ := HA.out.some_ (by omega)
        have c1 : wr.cell? ⟨ab, ao, none⟩ = some (.int .i64 (x : Int)) := by simpa [lv] using hA1.get 0 (by simp [lv])
        have q1 : (0 : Int) < (la : Int) := by omega
        clear hA1
        have hB1 := HB.out.below (Nat.le_refl _) HW.out
        obtain ⟨bb, bo, rfl, _, hcB⟩ := hB1.some_ (by omega)
        have d1 : wr.cell? ⟨bb, bo, none⟩ = some (.int .i64 (y : Int)) := (hcB 0 (by simp)).1
        have d2 : wr.cell? ⟨bb, bo + 2, none⟩ = some (.int .i64 (z : Int)) := (hcB 1 (by simp)).1
        have q2 : (1 : Int) < (lb : Int) := by omega
        have q3 : (0 : Int) < (lb : Int) := by omega
        have q4 : 0 < lb := by omega
        have q5 : 1 < lb := by omega
        clear hB1 hcB
        obtain ⟨yz, hyz⟩ : ∃ q : Nat, q = y + z := ⟨_, rfl⟩
        have HYZ := Lib.hid hyz
        have e5 : IntKind.i64.wrap ((y : Int) + (z : Int)) = (yz : Int) := by rw [IntKind.wrap_i64]; have := HWB.out (y, f1) (by simp); have := HWB.out (z, f2) (by simp); simp only at *; omega
        have e6 : (y : Int) + (z : Int) = (yz : Int) := by omega
        have e7 : yz ≤ 2305843009213693952 := by have := HWB.out (y, f1) (by simp); have := HWB.out (z, f2) (by simp); simp only at *; omega
        have e8 : IntKind.i64.wrap (yz : Int) = (yz : Int) := by rw [IntKind.wrap_i64]; omega
        clear hyz

        by_cases hxy : x ≤ yz
        · as_aux_lemma =>
          have p4 : decide (x ≤ yz) = true := by simp; omega
          have HXY : Hid (x ≤ y + z) := Lib.hid (by rw [← HYZ.out]; exact hxy)
          clear hxy
          go_wp2_with fail
          go_quiet (fail)
          have HW2 : Hid (Below w.heap.size w (wr.drewN nq)) := Lib.hid (HW.out.trans (quietb wr nq HW.out.size))
          have HO2 : Hid (OwnN w.heap.size (wr.drewN nq) (.slice c lc cc) D) := HO
          have c1' : (wr.drewN nq).cell? ⟨ab, ao, none⟩ = some (.int .i64 (x : Int)) := c1
          clear HW HO c1 p1 p3 p4 d1 d2 e5 e6 e8
          generalize wr.drewN nq = w2 at *
          have HB2 : Hid (Blk (w2.alloc (.cells #[.int .i64 (x : Int), .bool true] 162)) w2.heap.size 162 #[.int .i64 (x : Int), .bool true]) := Lib.hid (Blk.new w2 _ _)
          have HO3 : Hid (OwnN w.heap.size (w2.alloc (.cells #[.int .i64 (x : Int), .bool true] 162)) (.slice c lc cc) D) := Lib.hid (HO2.out.below (Nat.le_refl _) ((Below.refl _ w2).alloc (Nat.le_refl _) _))
          have HW3 : Hid (Below w.heap.size w (w2.alloc (.cells #[.int .i64 (x : Int), .bool true] 162))) := Lib.hid (HW2.out.alloc HW2.out.size _)
          go_wp2_with (at_builtin; refine wpList_append_node (by rfl) (.tmp 63) (.tmp 68) rfl w.heap.size (.slice c lc cc) D rfl HO3.out w2.heap.size (x, true) rfl HB2.out (by have := HDL.out; omega) HW3.out.size ?_)
          intro a7 c7 w7 hown hgrow
          have HO7 := Lib.hid hown
          have HW7 := Lib.hid (HO3.out.grown HW3.out hgrow HW3.out.size)
          clear hown hgrow HO2 HO3 HW2 HW3 HB2 c1'
          have HA7 := Lib.hid (RowIn.tail HA.out)
          clear HA
          go_wp2_with fail
          go_roundw
          case measure => simp [sl]; omega
          case rel =>
            exact ⟨ls, _, D ++ [(x, true)], _, _, _, la - 1, ca - 1, lb, cb, D.length + 1, c7, rfl, rfl, rfl, HA7, HB, HO7, Lib.hid (by simp), HW7, Lib.hid (by rw [HM.out, ws_cons, ws_cons, prs_cons, mrg_le _ _ HXY.out]; simp), Lib.hid (fun z hz => HWA.out z (List.mem_cons_of_mem _ hz)), HWB, Lib.hid (by have := HL.out; omega)⟩

        · as_aux_lemma =>
          have p4 : decide (x ≤ yz) = false := by simp; omega
          have HXY : Hid (¬ x ≤ y + z) := Lib.hid (by rw [← HYZ.out]; exact hxy)
          clear hxy
          go_wp2_with fail
          go_quiet (fail)
          have HW2 : Hid (Below w.heap.size w (wr.drewN nq)) := Lib.hid (HW.out.trans (quietb wr nq HW.out.size))
          have HO2 : Hid (OwnN w.heap.size (wr.drewN nq) (.slice c lc cc) D) := HO
          have d1' : (wr.drewN nq).cell? ⟨bb, bo, none⟩ = some (.int .i64 (y : Int)) := d1
          have d2' : (wr.drewN nq).cell? ⟨bb, bo + 2, none⟩ = some (.int .i64 (z : Int)) := d2
          clear HW HO d1 d2 p1 p3 p4 c1
          generalize wr.drewN nq = w2 at *
          have HB4 : Hid (Blk (w2.drew.alloc (.cells #[.int .i64 (yz : Int), .bool false] 162)) w2.heap.size 162 #[.int .i64 (yz : Int), .bool false]) := Lib.hid (Blk.new w2.drew _ _)
          have HO4 : Hid (OwnN w.heap.size (w2.drew.alloc (.cells #[.int .i64 (yz : Int), .bool false] 162)) (.slice c lc cc) D) := Lib.hid (HO2.out.below (Nat.le_refl _) (((Below.refl _ w2).drew).alloc (Nat.le_refl _) _))
          have HW4 : Hid (Below w.heap.size w (w2.drew.alloc (.cells #[.int .i64 (yz : Int), .bool false] 162))) := Lib.hid (HW2.out.drew.alloc HW2.out.size _)
          clear HW2 HO2
          go_wp2_with fail
          go_region_law ((refine step_append_node (by rfl) _ _ (by rfl) w.heap.size (.slice c lc cc) D (by rfl) HO4.out w2.heap.size (yz, false) (by rfl) HB4.out (by have := HDL.out; omega) HW4.out.size ?_; intro a7 c7 w7 hown hgrow))
          all_goals
            have HO7 := Lib.hid hown
            have HW7 := Lib.hid (HO4.out.grown HW4.out hgrow HW4.out.size)
            clear hown hgrow HO4 HW4 HB4 d1' d2'
            have HB7 := Lib.hid (NodesIn.tail2 HB.out)
            clear HB
            go_wp2_with fail
            go_roundw
            case measure => simp [sl]; omega
            case rel =>
              exact ⟨x :: ls, r, D ++ [(yz, false)], _, _, _, la, ca, lb - 2, cb - 2, D.length + 1, c7, rfl, rfl, rfl, HA, HB7, HO7, Lib.hid (by simp), HW7, Lib.hid (by rw [HM.out, ws_cons, ws_cons, prs_cons, mrg_gt _ _ HXY.out, HYZ.out]; simp), HWA, Lib.hid (fun q hq => HWB.out q (List.mem_cons_of_mem _ (List.mem_cons_of_mem _ hq))), Lib.hid (by have := HL.out; omega)⟩
end Go.Proofs.YtbjjkhlebdaoaaaDoor.PkC
end
