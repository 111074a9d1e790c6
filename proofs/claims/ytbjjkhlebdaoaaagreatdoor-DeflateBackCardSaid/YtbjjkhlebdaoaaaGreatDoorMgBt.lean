import Derived.Test.YtbjjkhlebdaoaaaGreatDoorMgBa
import Derived.Test.YtbjjkhlebdaoaaaGreatDoorMgH
import Derived.Test.YtbjjkhlebdaoaaaGreatDoorMgK
import Derived.Laws.AppendOwn
import Derived.Test.YtbjjkhlebdaoaaaGreatDoorMgBc
import Derived.Test.YtbjjkhlebdaoaaaGreatDoorMgA

section
/-
  Rows of pieces; repeated, told, run, spelled: lengths told by pieces.
-/
namespace Go.Proofs.YtbjjkhlebdaoaaaGreatDoor.BlkC
open Go.RowKit Go.My BitMath
open PkC (lv)
open InfMath (Pc Sp Says LastIs)

/-- The cells of pieces. -/
def pcl : List Pc → List Value
  | [] => []
  | p :: t => [.int .i64 (p.s : Int), .int .i64 (p.x : Int), .int .i64 (p.v : Int)] ++ pcl t
theorem pcl_app : ∀ (P Q : List Pc), pcl (P ++ Q) = pcl P ++ pcl Q
  | [], Q => rfl
  | p :: P, Q => by
    show _ ++ pcl (P ++ Q) = (_ ++ pcl P) ++ pcl Q
    rw [pcl_app P Q, List.append_assoc]
theorem pcl_len : ∀ (P : List Pc), (pcl P).length = P.length * 3
  | [] => rfl
  | p :: P => by
    show (_ ++ pcl P).length = _
    rw [List.length_append, pcl_len P, List.length_cons, List.length_cons, List.length_cons, List.length_cons, List.length_nil]; omega
theorem pcl_get : ∀ (P : List Pc) (i : Nat) (h : i < P.length), (pcl P)[i * 3]? = some (.int .i64 (P[i].s : Int)) ∧ (pcl P)[i * 3 + 1]? = some (.int .i64 (P[i].x : Int)) ∧ (pcl P)[i * 3 + 2]? = some (.int .i64 (P[i].v : Int))
  | p :: P, 0, _ => ⟨rfl, rfl, rfl⟩
  | p :: P, i + 1, h => by
    obtain ⟨h1, h2, h3⟩ := pcl_get P i (by simpa using h)
    have e : ∀ k, (pcl (p :: P))[(i * 3 + k) + 3]? = (pcl P)[i * 3 + k]? := fun k => rfl
    refine ⟨?_, ?_, ?_⟩
    · rw [show (i + 1) * 3 = (i * 3 + 0) + 3 from by omega]; exact (e 0).trans h1
    · rw [show (i + 1) * 3 + 1 = (i * 3 + 1) + 3 from by omega]; exact (e 1).trans h2
    · rw [show (i + 1) * 3 + 2 = (i * 3 + 2) + 3 from by omega]; exact (e 2).trans h3
theorem pcl_one : ∀ (P : List Pc), ∀ u ∈ pcl P, u.oneCell' = true
  | [], u, h => by cases h
  | p :: P, u, h => by
    rcases List.mem_append.1 h with h | h
    · simp only [List.mem_cons, List.not_mem_nil, or_false] at h
      rcases h with rfl | rfl | rfl <;> rfl
    · exact pcl_one P u h
/-- A slice of pieces. -/
structure PcIn (w : World) (a : Option Addr) (len cap : Nat) (P : List Pc) : Prop where
  len_eq : P.length = len
  le_cap : len ≤ cap
  cap_le : cap ≤ 9223372036854775807
  at_ : len = 0 ∨ ∃ b off, a = some ⟨b, off, none⟩ ∧ b < w.heap.size ∧ ∀ i (h : i < P.length), w.cell? ⟨b, off + i * 3, none⟩ = some (.int .i64 (P[i].s : Int)) ∧ w.cell? ⟨b, off + i * 3 + 1, none⟩ = some (.int .i64 (P[i].x : Int)) ∧ w.cell? ⟨b, off + i * 3 + 2, none⟩ = some (.int .i64 (P[i].v : Int))
theorem PcIn.below {w w' : World} {a : Option Addr} {len cap : Nat} {P : List Pc} (h : PcIn w a len cap P) (hb : Below w.heap.size w w') : PcIn w' a len cap P := by
  refine ⟨h.1, h.2, h.3, h.4.imp_right ?_⟩
  rintro ⟨b, off, ha, hs, hc⟩
  have e : ∀ k, w'.cell? ⟨b, k, none⟩ = w.cell? ⟨b, k, none⟩ := fun k => hb.cell (p := ⟨b, k, none⟩) hs
  exact ⟨b, off, ha, Nat.lt_of_lt_of_le hs hb.size, fun i hi => by rw [e, e, e]; exact hc i hi⟩
/-- A slice of pieces of the call's own. -/
def OwnP (base : Nat) (w : World) (v : Value) (P : List Pc) : Prop := w.ownsRow base 111 3 v P.length (pcl P)
theorem OwnP.nil (base : Nat) (w : World) : OwnP base w (.slice none 0 0) [] := World.ownsRow_nil _ _ _ _
theorem OwnP.pcs {base : Nat} {w : World} {v : Value} {P : List Pc} (h : OwnP base w v P) : ∃ a c, v = .slice a P.length c ∧ PcIn w a P.length c P ∧ ∀ k off, a = some ⟨k, off, none⟩ → base ≤ k := by
  have hlt := fun k hk => (World.ownsRow.lt h k hk).1
  rcases h.2 with ⟨rfl, h0⟩ | ⟨g, cap, cur, rfl, hg, hh, hn, hm, hs, ht⟩
  · have hl : P = [] := by
      have := pcl_len P
      rw [h0] at this
      exact List.length_eq_zero_iff.1 (by simp at this; omega)
    subst hl
    exact ⟨none, 0, rfl, ⟨rfl, Nat.le_refl _, by omega, .inl rfl⟩, fun k off e => by cases e⟩
  · unfold maxLen at hm
    have hlt2 : g < w.heap.size := by
      by_cases hlt : g < w.heap.size
      · exact hlt
      · rw [Array.getElem?_eq_none (by omega)] at hh; cases hh
    have hc : ∀ j, j < P.length * 3 → w.cell? ⟨g, j, none⟩ = (pcl P)[j]? := fun j hj => by
      rw [cell_of_row _ _ _ _ _ _ hh, ← ht, List.getElem?_take, if_pos hj, Array.getElem?_toList]
    refine ⟨_, cap, rfl, ⟨rfl, hn, hm, .inr ⟨g, 0, rfl, hlt2, fun i hi => ?_⟩⟩, fun k off e => ?_⟩
    · obtain ⟨h1, h2, h3⟩ := pcl_get P i hi
      exact ⟨by rw [Nat.zero_add, hc _ (by omega)]; exact h1, by rw [Nat.zero_add, hc _ (by omega)]; exact h2, by rw [Nat.zero_add, hc _ (by omega)]; exact h3⟩
    · injection e with e
      injection e with e _
      subst e
      exact hlt g rfl
theorem OwnP.grown {base : Nat} {w0 w w' : World} {v : Value} {P : List Pc} (hown : OwnP base w v P) (h : Below base w0 w) (hg : w.grownBy w' v.ownBlock) (hb : base ≤ w.heap.size) : Below base w0 w' :=
  h.grown hg hb fun k hk => (World.ownsRow.lt hown k hk).1
theorem OwnP.alloc {base : Nat} {w : World} {v : Value} {P : List Pc} (h : OwnP base w v P) (o : Obj) : OwnP base (w.alloc o) v P := World.ownsRow.alloc h o
theorem OwnP.ne {base : Nat} {w : World} {v : Value} {P : List Pc} {g : Nat} {t : TypeId} {cs : Array Value} (ho : OwnP base w v P) (hb : Blk w g t cs) (ht : t ≠ 111) : v.ownBlock ≠ some g := by
  rcases ho.2 with ⟨rfl, _⟩ | ⟨g', cap, cur, rfl, _, hgg, _⟩
  · simp [Value.ownBlock]
  · intro h
    simp only [Value.ownBlock, Option.some.injEq] at h
    subst h
    unfold Blk at hb
    rw [hgg] at hb
    injection hb with hb
    injection hb with h1 h2 h3
    exact ht h2.symm
theorem infoP : (Tryz.prog.info? 111).map (fun i => (i.zero, i.size, i.bytes)) = some (some (.agg #[.int .i64 0, .int .i64 0, .int .i64 0]), 3, 24) := by kernel_rfl
theorem wp_append_pc {w : World} {o : Oper} {a : Act} {K : Act → World → Prop} {Q : Exit → Act → World → Prop} (s x : Operand)
    (ho : o.op = .call { callee := .builtin .append, args := #[s, x], argTypes := #[78, 78] }) (base : Nat)
    (v : Value) (P : List Pc) (hs : a.eval s = v) (hown : OwnP base w v P) (g : Nat) (p : Pc) (hx : a.eval x = .slice (some ⟨g, 0, none⟩) 1 1) (hb : Blk w g 111 (pc p))
    (hlen : P.length ≤ 1000000) (hbase : base ≤ w.heap.size)
    (h : ∀ v' w', OwnP base w' v' (P ++ [p]) → w.grownBy w' v.ownBlock → K (a.put o.dst v') w') : o.wp Tryz.prog a w K Q := by
  obtain ⟨i, hi, hz0, hz1, hz2⟩ := info_parts infoP
  refine wp_append_own w s x 78 ho base 111 i _ 3 24 Tryz.underlying78 hi hz0 hz1 hz2 rfl (by decide) v P.length (pcl P) hs hown ⟨g, 0, none⟩ 1 1 (pcl [p]) hx (pcl_len [p]) ?_ (pcl_one [p]) (by unfold maxLen; omega) (by omega) hbase ?_
  · intro j u hu
    have hj : j < 3 := by have := (List.getElem?_eq_some_iff.1 hu).1; rw [pcl_len] at this; exact this
    have e : (⟨g, 0, none⟩ : Addr).add j = ⟨g, j, none⟩ := by rw [addr_add, Nat.zero_add]
    rw [e, hb.cell]
    rw [← hu]
    rcases (by omega : j = 0 ∨ j = 1 ∨ j = 2) with rfl | rfl | rfl <;> rfl
  · intro v' w' h1 h2 _
    refine h v' w' ?_ h2
    unfold OwnP
    rw [pcl_app, List.length_append]
    exact h1
theorem wpList_append_pc {w : World} {ops : Array Oper} {rest : List Oper} {o : Oper} {a : Act} {Q : Exit → Act → World → Prop} (hw : Region.wanted o (yielded ops a.tmps) = true) (s x : Operand)
    (ho : o.op = .call { callee := .builtin .append, args := #[s, x], argTypes := #[78, 78] }) (base : Nat)
    (v : Value) (P : List Pc) (hs : a.eval s = v) (hown : OwnP base w v P) (g : Nat) (p : Pc) (hx : a.eval x = .slice (some ⟨g, 0, none⟩) 1 1) (hb : Blk w g 111 (pc p))
    (hlen : P.length ≤ 1000000) (hbase : base ≤ w.heap.size)
    (h : ∀ v' w', OwnP base w' v' (P ++ [p]) → w.grownBy w' v.ownBlock → wpList Tryz.prog ops Q rest (a.put o.dst v') w') : wpList Tryz.prog ops Q (o :: rest) a w :=
  wpList_of_wp hw fun _ hK => wp_append_pc s x ho base v P hs hown g p hx hb hlen hbase fun v' w' h1 h2 => hK _ _ (h v' w' h1 h2)

/-! ### repeated -/
set_option maxRecDepth 100000 in
set_option maxHeartbeats 4000000 in
theorem repeated_any (B s l m x len n : Nat) (C : List Nat → Prop) (v : Value) (P : List Pc) (w : World) (hl1 : 1 ≤ l) (hlm : l ≤ m) (hm : m ≤ 1000) (hn : n ≤ 10000) (hP : P.length + n ≤ 100000)
    (hC : ∀ k, l ≤ k → k ≤ m → Says C [⟨s, x, k - l⟩] len k) (hK : ∀ done k, C done → C (done ++ List.replicate k len)) (hown : OwnP B w v P) (hB : B ≤ w.heap.size) :
    Calls Tryz.prog 104 #[v, .agg #[.int .i64 (s : Int), .int .i64 (l : Int), .int .i64 (m : Int), .int .i64 (x : Int)], .int .i64 (n : Int)] w fun e w' =>
      (∃ (v' : Value) (Q : List Pc) (k j : Nat), e = .returned (.tuple #[v', .int .i64 (j : Int)]) ∧ k + j = n ∧ OwnP B w' v' (P ++ Q) ∧ Says C Q len k ∧ Q.length ≤ k ∧ InfMath.rpt s l m x n = (Q, j)) ∧ Below B w w' := by
  have HC := Lib.hid hC
  have HK := Lib.hid hK
  obtain ⟨X, hX⟩ : ∃ X, X = w.alloc (.cells #[.int .i64 (s : Int), .int .i64 (l : Int), .int .i64 (m : Int), .int .i64 (x : Int)] 166) := ⟨_, rfl⟩
  have HBX : Hid (Blk X w.heap.size 166 #[.int .i64 (s : Int), .int .i64 (l : Int), .int .i64 (m : Int), .int .i64 (x : Int)]) := Lib.hid (by rw [hX]; exact Blk.new w _ _)
  have HWX : Hid (OwnP B X v P) := Lib.hid (by rw [hX]; exact hown.alloc _)
  have HB0 : Hid (Below B w X) := Lib.hid (by rw [hX]; exact (Below.refl _ _).alloc hB _)
  clear hC hK hown
  go_enter Tryz.func104, Tryz.ntmps104
  go_wp2_with fail
  rw [← hX]
  clear hX
  obtain ⟨q, hq⟩ : ∃ q, q = w.heap.size := ⟨_, rfl⟩
  rw [← hq]
  rw [← hq] at HBX
  have HBW := Lib.hid hB
  clear hq hB
  go_loopw [0, 2] (fun lv nv wr => ∃ (Q : List Pc) (k j : Nat), nv = .int .i64 (j : Int) ∧ k + j = n ∧ Hid (OwnP B wr lv (P ++ Q)) ∧ Hid (Says C Q len k) ∧ Q.length ≤ k ∧ Hid (InfMath.rpt s l m x n = (Q ++ (InfMath.rpt s l m x j).1, (InfMath.rpt s l m x j).2)) ∧ Hid (Below B w wr) ∧ Hid (Blk wr q 166 #[.int .i64 (s : Int), .int .i64 (l : Int), .int .i64 (m : Int), .int .i64 (x : Int)])) (fun _ nv _ => (intOf nv).toNat)
  case atStart => exact ⟨[], 0, n, rfl, by omega, Lib.hid (by rw [List.append_nil]; exact HWX.out), Lib.hid (Says.nil C len), Nat.le_refl _, Lib.hid (by rw [List.nil_append]), HB0, HBX⟩
  case round =>
    clear HWX HB0 HBX
    obtain ⟨Q, k, j, rfl, hkj, HO, HS, hQ, HRP, HB, HBL⟩ := hrel
    have c0 : wr.cell? ⟨q, 0, none⟩ = some (.int .i64 (s : Int)) := HBL.out.cell 0
    have c1 : wr.cell? ⟨q, 1, none⟩ = some (.int .i64 (l : Int)) := HBL.out.cell 1
    have c2 : wr.cell? ⟨q, 2, none⟩ = some (.int .i64 (m : Int)) := HBL.out.cell 2
    have c3 : wr.cell? ⟨q, 3, none⟩ = some (.int .i64 (x : Int)) := HBL.out.cell 3
    by_cases hlt : l ≤ j
    · obtain ⟨i, hi, hmin⟩ : ∃ i : Nat, i = min j m ∧ (if m < j then (m : Int) else (j : Int)) = (i : Int) := ⟨min j m, rfl, by split <;> omega⟩
      have hi1 : l ≤ i := by omega
      have hi2 : i ≤ m := by omega
      have hi3 : i ≤ j := by omega
      have hd : (i : Int) - (l : Int) = ((i - l : Nat) : Int) := by omega
      have HSI := Lib.hid (HC.out i hi1 hi2)
      obtain ⟨d, hdd⟩ : ∃ d, d = i - l := ⟨_, rfl⟩
      rw [← hdd] at hd HSI
      have hdb : d ≤ 1000 := by omega
      have HRP1 : Hid (InfMath.rpt s l m x n = ((Q ++ [⟨s, x, d⟩]) ++ (InfMath.rpt s l m x (j - i)).1, (InfMath.rpt s l m x (j - i)).2)) := Lib.hid (by
        have h := HRP.out
        rw [InfMath.rpt_more (n := j) hl1 hlm hlt, ← hi, ← hdd] at h
        rw [h, List.append_assoc]
        rfl)
      obtain ⟨Y, hY⟩ : ∃ Y, Y = wr.alloc (.cells #[.int .i64 (s : Int), .int .i64 (x : Int), .int .i64 (d : Int)] 111) := ⟨_, rfl⟩
      have HYB : Hid (Blk Y wr.heap.size 111 (pc ⟨s, x, d⟩)) := Lib.hid (by rw [hY]; exact Blk.new wr _ _)
      have HYO : Hid (OwnP B Y u0 (P ++ Q)) := Lib.hid (by rw [hY]; exact HO.out.alloc _)
      have HYW : Hid (Below B w Y) := Lib.hid (by rw [hY]; exact HB.out.alloc (Nat.le_trans HBW.out HB.out.size) _)
      have HYR : Hid (Blk Y q 166 #[.int .i64 (s : Int), .int .i64 (l : Int), .int .i64 (m : Int), .int .i64 (x : Int)]) := Lib.hid (by rw [hY]; exact HBL.out.alloc _)
      have hYs : B ≤ Y.heap.size := Nat.le_trans HBW.out HYW.out.size
      have HYS := Lib.hid hYs
      clear hi hdd HO HBL hYs HRP
      go_wp2_with (at_builtin; refine wpList_append_pc (by rfl) (.tmp 17) (.tmp 27) (by rfl) B _ (P ++ Q) (by rfl) (show OwnP B (wr.alloc (.cells #[.int .i64 (s : Int), .int .i64 (x : Int), .int .i64 (d : Int)] 111)) u0 (P ++ Q) from by rw [← hY]; exact HYO.out) wr.heap.size ⟨s, x, d⟩ (by rfl) (by rw [← hY]; exact HYB.out) (by rw [List.length_append]; omega) (by rw [← hY]; exact HYS.out) ?_)
      intro v' w1 h1 h2
      rw [← hY] at h2
      have HO1' : Hid (OwnP B w1 v' (P ++ (Q ++ [⟨s, x, d⟩]))) := Lib.hid h1
      have HB1 : Hid (Below B w w1) := Lib.hid (HYO.out.grown HYW.out h2 HYS.out)
      have HR1 : Hid (Blk w1 q 166 #[.int .i64 (s : Int), .int .i64 (l : Int), .int .i64 (m : Int), .int .i64 (x : Int)]) := Lib.hid (HYR.out.grown h2 (Ne.symm (HYO.out.ne HYR.out (by decide))))
      have c1 : w1.cell? ⟨q, 1, none⟩ = some (.int .i64 (l : Int)) := HR1.out.cell 1
      clear h1 h2 hY HYO HYW HYR HYB c0 c2 c3
      go_wp2_with fail
      go_roundw
      case rel =>
        refine ⟨Q ++ [⟨s, x, d⟩], k + i, j - i, by go_num, by omega, HO1', Lib.hid (HS.out.app HSI.out fun done hd => HK.out done k hd), by rw [List.length_append]; simp; omega, HRP1, HB1, HR1⟩
      case measure => simp [intOf]; omega
    · go_wp2_with fail
      go_ret2
      exact ⟨⟨_, Q, k, j, rfl, hkj, HO.out, HS.out, hQ, by have h := HRP.out; rw [InfMath.rpt_end (n := j) (by omega), List.append_nil] at h; exact h⟩, HB.out⟩
end Go.Proofs.YtbjjkhlebdaoaaaGreatDoor.BlkC
end

section
/-
  told: equal lengths as pieces.
-/
namespace Go.Proofs.YtbjjkhlebdaoaaaGreatDoor.BlkC
open Go.RowKit Go.My BitMath
open InfMath (Pc Sp Says LastIs)

/-- The package's tables, in memory below B. -/
structure Tbls (B : Nat) (w : World) : Prop where
  lo : 1 < B
  la : 4 < B
  ls : 3 < B
  lm : 2 < B
  order : ∀ i, i < 19 → w.cell? ⟨1, i, none⟩ = some (.int .i64 ((InfMath.order.getD i 0 : Nat) : Int))
  again : w.cell? ⟨4, 0, none⟩ = some (.int .i64 16) ∧ w.cell? ⟨4, 1, none⟩ = some (.int .i64 3) ∧ w.cell? ⟨4, 2, none⟩ = some (.int .i64 6) ∧ w.cell? ⟨4, 3, none⟩ = some (.int .i64 2)
  few : w.cell? ⟨3, 0, none⟩ = some (.int .i64 17) ∧ w.cell? ⟨3, 1, none⟩ = some (.int .i64 3) ∧ w.cell? ⟨3, 2, none⟩ = some (.int .i64 10) ∧ w.cell? ⟨3, 3, none⟩ = some (.int .i64 3)
  many : w.cell? ⟨2, 0, none⟩ = some (.int .i64 18) ∧ w.cell? ⟨2, 1, none⟩ = some (.int .i64 11) ∧ w.cell? ⟨2, 2, none⟩ = some (.int .i64 138) ∧ w.cell? ⟨2, 3, none⟩ = some (.int .i64 7)
theorem Tbls.below {B C : Nat} {w w' : World} (h : Tbls B w) (hb : Below C w w') (hC : B ≤ C) : Tbls B w' := by
  have e : ∀ k, k < B → ∀ i, w'.cell? ⟨k, i, none⟩ = w.cell? ⟨k, i, none⟩ := fun k hk i => hb.cell (p := ⟨k, i, none⟩) (show k < C by omega)
  refine ⟨h.lo, h.la, h.ls, h.lm, fun i hi => by rw [e _ h.lo]; exact h.order i hi, ?_, ?_, ?_⟩
  · simp only [e _ h.la]; exact h.again
  · simp only [e _ h.ls]; exact h.few
  · simp only [e _ h.lm]; exact h.many
/-- The table of repeats of the length before lies there. -/
def Agn (w : World) : Prop := w.cell? ⟨4, 0, none⟩ = some (.int .i64 16) ∧ w.cell? ⟨4, 1, none⟩ = some (.int .i64 3) ∧ w.cell? ⟨4, 2, none⟩ = some (.int .i64 6) ∧ w.cell? ⟨4, 3, none⟩ = some (.int .i64 2)
theorem x_rep {a : Act} {o : Oper} {w : World} (ho : o.op = .load 166 (.global 4)) (h : Agn w) : (execOp a.eval o).run Tryz.prog w = .ok (.value (.agg #[.int .i64 16, .int .i64 3, .int .i64 6, .int .i64 2])) w := by
  obtain ⟨h0, h1, h2, h3⟩ := h
  unfold execOp; rw [ho]
  go_simp
theorem x_pc1 {a : Act} {o : Oper} {n : Nat} {w : World} (s : Operand) (ho : o.op = .build 111 #[(0, s)]) (hs : a.eval s = .int .i64 (n : Int)) : (execOp a.eval o).run Tryz.prog w = .ok (.value (.agg #[.int .i64 (n : Int), .int .i64 0, .int .i64 0])) w := by
  unfold execOp; rw [ho]
  simp only [List.map_toArray, List.map_cons, List.map_nil, hs]
  go_simp
theorem x_dec {a : Act} {o : Oper} {n N : Nat} {w : World} (s : Operand) (ho : o.op = Op.binOp BinOp.sub 3 s (.const (.int .i64 1)) 3) (hs : a.eval s = .int .i64 (n : Int)) (hz : IntKind.i64.wrap ((n : Int) - 1) = (N : Int)) :
    (execOp a.eval o).run Tryz.prog w = .ok (.value (.int .i64 (N : Int))) w := by
  have ht : a.eval (.const (.int .i64 1)) = .int .i64 1 := rfl
  unfold execOp; rw [ho]
  simp only [hs, ht]
  go_simp
theorem x_one {a : Act} {o : Oper} {len : Nat} {w : World} (s : Operand) (ho : o.op = Op.buildSlice 78 1 #[(0, s)]) (hs : a.eval s = .agg #[.int .i64 (len : Int), .int .i64 0, .int .i64 0]) :
    (execOp a.eval o).run Tryz.prog w = .ok (.value (.slice (some ⟨w.heap.size, 0, none⟩) 1 1)) (w.alloc (.cells #[.int .i64 (len : Int), .int .i64 0, .int .i64 0] 111)) := by
  unfold execOp; rw [ho]
  simp only [List.map_toArray, List.map_cons, List.map_nil, hs]
  go_simp
theorem x_ext0 {a : Act} {o : Oper} {u v : Value} {w : World} (s : Operand) (ho : o.op = .extract s 0) (hs : a.eval s = .tuple #[u, v]) : (execOp a.eval o).run Tryz.prog w = .ok (.value u) w := by
  unfold execOp; rw [ho]; simp only [hs]; rfl
theorem x_ext1 {a : Act} {o : Oper} {u v : Value} {w : World} (s : Operand) (ho : o.op = .extract s 1) (hs : a.eval s = .tuple #[u, v]) : (execOp a.eval o).run Tryz.prog w = .ok (.value v) w := by
  unfold execOp; rw [ho]; simp only [hs]; rfl
theorem x_rpt {a : Act} {o : Oper} {s t r : Operand} {ts : Array TypeId} {u v z : Value} {w : World} (ho : o.op = .call { callee := .value (.func 104), args := #[s, t, r], argTypes := ts }) (hs : a.eval s = u) (ht : a.eval t = v) (hr : a.eval r = z) :
    (execOp a.eval o).run Tryz.prog w = .ok (.enter 104 #[u, v, z]) w := by
  unfold execOp; rw [ho]
  subst hs ht hr
  go_simp
theorem OwnP.drew {base : Nat} {w : World} {v : Value} {P : List Pc} (h : OwnP base w v P) : OwnP base w.drew v P := World.ownsRow.drew h
theorem keep_true (len : Nat) : ∀ (done : List Nat) (k : Nat), (fun _ : List Nat => True) done → (fun _ : List Nat => True) (done ++ List.replicate k len) := fun _ _ _ => trivial
set_option maxRecDepth 100000 in
set_option maxHeartbeats 8000000 in
theorem told_pcs (B len n : Nat) (v : Value) (P : List Pc) (w : World) (hl : len ≤ 15) (hn1 : 1 ≤ n) (hn : n ≤ 10000) (hP : P.length + n ≤ 90000) (hown : OwnP B w v P) (hB : B ≤ w.heap.size) (hT : Tbls B w) :
    Calls Tryz.prog 90 #[v, .int .i64 (len : Int), .int .i64 (n : Int)] w fun e w' =>
      (∃ (v' : Value) (Q : List Pc), e = .returned v' ∧ OwnP B w' v' (P ++ Q) ∧ Says (fun _ => True) Q len n ∧ Q.length ≤ n ∧ Q = InfMath.tel len n) ∧ Below B w w' := by
  have HT := Lib.hid hT
  have HW := Lib.hid hown
  have HBH := Lib.hid hB
  have HL15 := Lib.hid hl
  obtain ⟨m0, m1, m2, m3⟩ := hT.many
  obtain ⟨s0, s1, s2, s3⟩ := hT.few
  clear hT hown
  by_cases h0 : len = 0
  · subst h0
    by_cases h11 : 11 ≤ n
    · have HR := Lib.hid (repeated_any B 18 11 138 7 0 n (fun _ => True) v P w (by omega) (by omega) (by omega) hn (by omega) (fun k h1 h2 => by have := Says.zeros18 (fun _ => True) (k - 11) (by omega); rwa [show 11 + (k - 11) = k from by omega] at this) (keep_true 0) HW.out hB)
      rw [show ((18 : Nat) : Int) = 18 from rfl, show ((11 : Nat) : Int) = 11 from rfl, show ((138 : Nat) : Int) = 138 from rfl, show ((7 : Nat) : Int) = 7 from rfl] at HR
      rw [show ((0 : Nat) : Int) = 0 from rfl]
      clear hB
      go_enter Tryz.func90, Tryz.ntmps90
      go_wp2_with fail
      refine HR.out.mono ?_
      rintro e w1 ⟨⟨v1, Q1, k1, j1, rfl, hk1, ho1, hs1, hq1, hr1⟩, hb1⟩
      have HB1 := Lib.hid hb1
      have HS1 := Lib.hid hs1
      have HRP1 := Lib.hid hr1
      clear hr1
      obtain ⟨s0, s1, s2, s3⟩ := (HT.out.below hb1 (Nat.le_refl _)).few
      have HR2 := Lib.hid (repeated_any B 17 3 10 3 0 j1 (fun _ => True) v1 (P ++ Q1) w1 (by omega) (by omega) (by omega) (by omega) (by rw [List.length_append]; omega) (fun k h1 h2 => by have := Says.zeros17 (fun _ => True) (k - 3) (by omega); rwa [show 3 + (k - 3) = k from by omega] at this) (keep_true 0) ho1 (Nat.le_trans HBH.out hb1.size))
      rw [show ((17 : Nat) : Int) = 17 from rfl, show ((3 : Nat) : Int) = 3 from rfl, show ((10 : Nat) : Int) = 10 from rfl] at HR2
      clear hb1 hs1 ho1 HR HW
      go_wp2_with fail
      refine HR2.out.mono ?_
      rintro e w2 ⟨⟨v2, Q2, k2, J, rfl, hk2, ho2, hs2, hq2, hr2⟩, hb2⟩
      obtain ⟨Q, hQe⟩ : ∃ Q, Q = Q1 ++ Q2 := ⟨_, rfl⟩
      obtain ⟨K, hKe⟩ : ∃ K, K = k1 + k2 := ⟨_, rfl⟩
      have HO : Hid (OwnP B w2 v2 (P ++ Q)) := Lib.hid (by rw [hQe, ← List.append_assoc]; exact ho2)
      have HS : Hid (Says (fun _ => True) Q 0 K) := Lib.hid (by rw [hQe, hKe]; exact HS1.out.app hs2 fun _ _ => trivial)
      have hQ : Q.length ≤ K := by rw [hQe, hKe, List.length_append]; omega
      have HTL : Hid (InfMath.tel 0 n = Q ++ List.replicate J ⟨0, 0, 0⟩) := Lib.hid (by rw [hQe]; exact InfMath.tel_many HRP1.out hr2)
      clear hr2 HRP1
      have HBW : Hid (Below B w w2) := Lib.hid (HB1.out.trans hb2)
      have hKJ : K + J = n := by omega
      have hnK : J ≤ n := by omega
      clear hQe hKe ho2 hs2 hb2 hq2 HS1 HB1 HR2 hk1 hk2 hq1
      go_wp2_with fail
      go_loopw [0, 46] (fun lv iv wr => ∃ (Q2 : List Pc) (i : Nat), iv = .int .i64 (i : Int) ∧ i ≤ J ∧ Hid (OwnP B wr lv (P ++ Q2)) ∧ Hid (Says (fun _ => True) Q2 0 (K + i)) ∧ Q2.length ≤ K + i ∧ Hid (Below B w wr) ∧ Hid (Q2 = Q ++ List.replicate i ⟨0, 0, 0⟩)) (fun _ iv _ => J - (intOf iv).toNat)
      case atStart => exact ⟨Q, 0, rfl, Nat.zero_le _, HO, HS, hQ, HBW, Lib.hid (by simp)⟩
      case round =>
        clear HO HS hQ HBW
        obtain ⟨Q2, i, rfl, hi, HO, HS, hQ, HBW, HRQ⟩ := hrel
        by_cases hlt : i < J
        · obtain ⟨Y, hY⟩ : ∃ Y, Y = wr.alloc (.cells #[.int .i64 0, .int .i64 0, .int .i64 0] 111) := ⟨_, rfl⟩
          have HYB : Hid (Blk Y wr.heap.size 111 (pc ⟨0, 0, 0⟩)) := Lib.hid (by rw [hY]; exact Blk.new wr _ _)
          have HYO : Hid (OwnP B Y u0 (P ++ Q2)) := Lib.hid (by rw [hY]; exact HO.out.alloc _)
          have HYW : Hid (Below B w Y) := Lib.hid (by rw [hY]; exact HBW.out.alloc (Nat.le_trans HBH.out HBW.out.size) _)
          have HYS : Hid (B ≤ Y.heap.size) := Lib.hid (Nat.le_trans HBH.out HYW.out.size)
          clear HO
          go_wp2_with (at_builtin; refine wpList_append_pc (by rfl) (.tmp 48) (.tmp 51) (by rfl) B _ (P ++ Q2) (by rfl) (show OwnP B (wr.alloc (.cells #[.int .i64 0, .int .i64 0, .int .i64 0] 111)) u0 (P ++ Q2) from by rw [← hY]; exact HYO.out) wr.heap.size ⟨0, 0, 0⟩ (by rfl) (by rw [← hY]; exact HYB.out) (by rw [List.length_append]; omega) (by rw [← hY]; exact HYS.out) ?_)
          intro v' w1 h1 h2
          rw [← hY] at h2
          have HO1 : Hid (OwnP B w1 v' (P ++ (Q2 ++ [⟨0, 0, 0⟩]))) := Lib.hid h1
          have HB1 : Hid (Below B w w1) := Lib.hid (HYO.out.grown HYW.out h2 HYS.out)
          clear h1 h2 hY HYO HYW HYB HYS
          go_wp2_with fail
          go_roundw
          case rel => exact ⟨Q2 ++ [⟨0, 0, 0⟩], i + 1, by go_num, by omega, HO1, Lib.hid (HS.out.app (Says.one (fun _ => True) 0 HL15.out) fun _ _ => trivial), by rw [List.length_append]; simp; omega, HB1, Lib.hid (by rw [HRQ.out, List.append_assoc, ← List.replicate_succ'])⟩
          case measure => simp [intOf]; omega
        · obtain rfl : i = J := by omega
          have HE : Hid (K + i = n) := Lib.hid hKJ
          go_wp2_with fail
          go_ret
          exact ⟨⟨_, Q2, rfl, HO.out, by rw [← HE.out]; exact HS.out, by have := HE.out; omega, by rw [HRQ.out, HTL.out]⟩, HBW.out⟩
    · have HR2 := Lib.hid (repeated_any B 17 3 10 3 0 n (fun _ => True) v P w (by omega) (by omega) (by omega) (by omega) (by omega) (fun k h1 h2 => by have := Says.zeros17 (fun _ => True) (k - 3) (by omega); rwa [show 3 + (k - 3) = k from by omega] at this) (keep_true 0) HW.out hB)
      rw [show ((17 : Nat) : Int) = 17 from rfl, show ((3 : Nat) : Int) = 3 from rfl, show ((10 : Nat) : Int) = 10 from rfl] at HR2
      rw [show ((0 : Nat) : Int) = 0 from rfl]
      clear hB HW
      go_enter Tryz.func90, Tryz.ntmps90
      go_wp2_with fail
      refine HR2.out.mono ?_
      rintro e w2 ⟨⟨v2, Q, K, J, rfl, hKJ, ho2, hs2, hQ, hr2⟩, hb2⟩
      have HTL : Hid (InfMath.tel 0 n = Q ++ List.replicate J ⟨0, 0, 0⟩) := Lib.hid (InfMath.tel_few (by omega) hr2)
      clear hr2
      have HO : Hid (OwnP B w2 v2 (P ++ Q)) := Lib.hid ho2
      have HS : Hid (Says (fun _ => True) Q 0 K) := Lib.hid hs2
      have HBW : Hid (Below B w w2) := Lib.hid hb2
      have hnK : J ≤ n := by omega
      clear ho2 hs2 hb2 HR2
      go_wp2_with fail
      go_loopw [0, 46] (fun lv iv wr => ∃ (Q2 : List Pc) (i : Nat), iv = .int .i64 (i : Int) ∧ i ≤ J ∧ Hid (OwnP B wr lv (P ++ Q2)) ∧ Hid (Says (fun _ => True) Q2 0 (K + i)) ∧ Q2.length ≤ K + i ∧ Hid (Below B w wr) ∧ Hid (Q2 = Q ++ List.replicate i ⟨0, 0, 0⟩)) (fun _ iv _ => J - (intOf iv).toNat)
      case atStart => exact ⟨Q, 0, rfl, Nat.zero_le _, HO, HS, hQ, HBW, Lib.hid (by simp)⟩
      case round =>
        clear HO HS hQ HBW
        obtain ⟨Q2, i, rfl, hi, HO, HS, hQ, HBW, HRQ⟩ := hrel
        by_cases hlt : i < J
        · obtain ⟨Y, hY⟩ : ∃ Y, Y = wr.alloc (.cells #[.int .i64 0, .int .i64 0, .int .i64 0] 111) := ⟨_, rfl⟩
          have HYB : Hid (Blk Y wr.heap.size 111 (pc ⟨0, 0, 0⟩)) := Lib.hid (by rw [hY]; exact Blk.new wr _ _)
          have HYO : Hid (OwnP B Y u0 (P ++ Q2)) := Lib.hid (by rw [hY]; exact HO.out.alloc _)
          have HYW : Hid (Below B w Y) := Lib.hid (by rw [hY]; exact HBW.out.alloc (Nat.le_trans HBH.out HBW.out.size) _)
          have HYS : Hid (B ≤ Y.heap.size) := Lib.hid (Nat.le_trans HBH.out HYW.out.size)
          clear HO
          go_wp2_with (at_builtin; refine wpList_append_pc (by rfl) (.tmp 48) (.tmp 51) (by rfl) B _ (P ++ Q2) (by rfl) (show OwnP B (wr.alloc (.cells #[.int .i64 0, .int .i64 0, .int .i64 0] 111)) u0 (P ++ Q2) from by rw [← hY]; exact HYO.out) wr.heap.size ⟨0, 0, 0⟩ (by rfl) (by rw [← hY]; exact HYB.out) (by rw [List.length_append]; omega) (by rw [← hY]; exact HYS.out) ?_)
          intro v' w1 h1 h2
          rw [← hY] at h2
          have HO1 : Hid (OwnP B w1 v' (P ++ (Q2 ++ [⟨0, 0, 0⟩]))) := Lib.hid h1
          have HB1 : Hid (Below B w w1) := Lib.hid (HYO.out.grown HYW.out h2 HYS.out)
          clear h1 h2 hY HYO HYW HYB HYS
          go_wp2_with fail
          go_roundw
          case rel => exact ⟨Q2 ++ [⟨0, 0, 0⟩], i + 1, by go_num, by omega, HO1, Lib.hid (HS.out.app (Says.one (fun _ => True) 0 HL15.out) fun _ _ => trivial), by rw [List.length_append]; simp; omega, HB1, Lib.hid (by rw [HRQ.out, List.append_assoc, ← List.replicate_succ'])⟩
          case measure => simp [intOf]; omega
        · obtain rfl : i = J := by omega
          have HE : Hid (K + i = n) := Lib.hid hKJ
          go_wp2_with fail
          go_ret
          exact ⟨⟨_, Q2, rfl, HO.out, by rw [← HE.out]; exact HS.out, by have := HE.out; omega, by rw [HRQ.out, HTL.out]⟩, HBW.out⟩
  · have hz : ((len : Int) == 0) = false := by simp; omega
    have HNZ := Lib.hid h0
    have HX := Lib.hid (fun (X : World) (hX : Below B w X) => (show Agn X from (HT.out.below hX (Nat.le_refl _)).again))
    obtain ⟨a0, a1, a2, a3⟩ := HT.out.again
    have HR := Lib.hid (fun (v1 : Value) (w1 : World) (ho : OwnP B w1 v1 (P ++ [⟨len, 0, 0⟩])) (hs : B ≤ w1.heap.size) => repeated_any B 16 3 6 2 len (n - 1) (LastIs len) v1 (P ++ [⟨len, 0, 0⟩]) w1 (by omega) (by omega) (by omega) (by omega) (by rw [List.length_append]; simp; omega) (fun k h1 h2 => by have := Says.again16 len (k - 3) (by omega); rwa [show 3 + (k - 3) = k from by omega] at this) (fun done k hd => InfMath.last_rep hd) ho hs)
    simp only [show ((16 : Nat) : Int) = 16 from rfl, show ((3 : Nat) : Int) = 3 from rfl, show ((6 : Nat) : Int) = 6 from rfl, show ((2 : Nat) : Int) = 2 from rfl] at HR
    obtain ⟨N, hN⟩ : ∃ N : Nat, N = n - 1 := ⟨_, rfl⟩
    rw [← hN] at HR
    have hN1 : (n : Int) - 1 = (N : Int) := by omega
    have HN := Lib.hid hN
    clear hB hN
    go_enter Tryz.func90, Tryz.ntmps90
    go_upto_region 5 with (fail)
    go_cut [0, 2] (fun lv nv wr => ∃ (Q : List Pc) (K J : Nat), nv = .int .i64 (J : Int) ∧ K + J = n ∧ Hid (OwnP B wr lv (P ++ Q)) ∧ Hid (Says (fun _ => True) Q len K) ∧ Q.length ≤ K ∧ Hid (Below B w wr) ∧ Hid (InfMath.tel len n = Q ++ List.replicate J ⟨len, 0, 0⟩))
    case first =>
      have hN2 : IntKind.i64.wrap ((n : Int) - 1) = (N : Int) := by rw [hN1]; exact IntWalk.i64_in _ (by have := HN.out; omega)
      have HO2 : Hid (OwnP B (w.drew.alloc (.cells #[.int .i64 (len : Int), .int .i64 0, .int .i64 0] 111)) v P) := Lib.hid (HW.out.drew.alloc _)
      have HB2 : Hid (Blk (w.drew.alloc (.cells #[.int .i64 (len : Int), .int .i64 0, .int .i64 0] 111)) w.heap.size 111 (pc ⟨len, 0, 0⟩)) := Lib.hid (Blk.new w.drew _ _)
      have HW2 : Hid (Below B w (w.drew.alloc (.cells #[.int .i64 (len : Int), .int .i64 0, .int .i64 0] 111))) := Lib.hid ((Below.refl _ _).drew.alloc HBH.out _)
      have HS2 : Hid (B ≤ (w.drew.alloc (.cells #[.int .i64 (len : Int), .int .i64 0, .int .i64 0] 111)).heap.size) := Lib.hid (Nat.le_trans HBH.out HW2.out.size)
      have HPP : Hid (P.length ≤ 1000000) := Lib.hid (by omega)
      have hS : Agn w.drew := HX.out _ (Below.refl _ _).drew
      have hS2 : Agn (w.drew.alloc (.cells #[.int .i64 (len : Int), .int .i64 0, .int .i64 0] 111)) := HX.out _ HW2.out
      refine act_named fun A0 hA0 => ?_
      have hz0 : A0.tmps.size = 55 := by rw [hA0]; rfl
      have e0 : A0.eval (.tmp 0) = v := by rw [hA0]; rfl
      have e1 : A0.eval (.tmp 1) = .int .i64 (len : Int) := by rw [hA0]; rfl
      have e2 : A0.eval (.tmp 2) = .int .i64 (n : Int) := by rw [hA0]; rfl
      refine wp_region_held (S := Agn) (by kernel_rfl) ?_
      refine ord_step (i := 0) (d := some 34) (v) rfl (by kernel_rfl) (by kernel_rfl) (by kernel_rfl) (by kernel_rfl) (fun _ _ _ h => h) rfl hS (fun w' h => x_move (.tmp 0) rfl e0) fun A1 hA1 => ?_
      have hz1 := sz_put hA1 hz0
      have f1_1 := ev_ne hA1 e1 (by decide)
      have f2_1 := ev_ne hA1 e2 (by decide)
      have f34_1 := ev_eq hA1 hz0 (by decide)
      refine ord_step (i := 1) (d := some 35) (.int .i64 (len : Int)) rfl (by kernel_rfl) (by kernel_rfl) (by kernel_rfl) (by kernel_rfl) (fun _ _ _ h => h) rfl hS (fun w' h => x_move (.tmp 1) rfl f1_1) fun A2 hA2 => ?_
      have hz2 := sz_put hA2 hz1
      have f2_2 := ev_ne hA2 f2_1 (by decide)
      have f34_2 := ev_ne hA2 f34_1 (by decide)
      have f35_2 := ev_eq hA2 hz1 (by decide)
      refine ord_step (i := 2) (d := some 36) (.agg #[.int .i64 (len : Int), .int .i64 0, .int .i64 0]) rfl (by kernel_rfl) (by kernel_rfl) (by kernel_rfl) (by kernel_rfl) (fun _ _ _ h => h) rfl hS (fun w' h => x_pc1 (.tmp 35) rfl f35_2) fun A3 hA3 => ?_
      have hz3 := sz_put hA3 hz2
      have f2_3 := ev_ne hA3 f2_2 (by decide)
      have f34_3 := ev_ne hA3 f34_2 (by decide)
      have f36_3 := ev_eq hA3 hz2 (by decide)
      refine ord_step (i := 6) (d := some 40) (.int .i64 (n : Int)) rfl (by kernel_rfl) (by kernel_rfl) (by kernel_rfl) (by kernel_rfl) (fun _ _ _ h => h) rfl hS (fun w' h => x_move (.tmp 2) rfl f2_3) fun A4 hA4 => ?_
      have hz4 := sz_put hA4 hz3
      have f34_4 := ev_ne hA4 f34_3 (by decide)
      have f36_4 := ev_ne hA4 f36_3 (by decide)
      have f40_4 := ev_eq hA4 hz3 (by decide)
      refine ord_step (i := 7) (d := some 41) (.int .i64 (N : Int)) rfl (by kernel_rfl) (by kernel_rfl) (by kernel_rfl) (by kernel_rfl) (fun _ _ _ h => h) rfl hS (fun w' h => x_dec (.tmp 40) rfl f40_4 hN2) fun A5 hA5 => ?_
      have hz5 := sz_put hA5 hz4
      have f34_5 := ev_ne hA5 f34_4 (by decide)
      have f36_5 := ev_ne hA5 f36_4 (by decide)
      have f41_5 := ev_eq hA5 hz4 (by decide)
      refine ord_step (i := 5) (d := some 39) (.agg #[.int .i64 16, .int .i64 3, .int .i64 6, .int .i64 2]) rfl (by kernel_rfl) (by kernel_rfl) (by kernel_rfl) (by kernel_rfl) (fun _ _ _ h => h) rfl hS (fun w' h => x_rep rfl h) fun A6 hA6 => ?_
      have hz6 := sz_put hA6 hz5
      have f34_6 := ev_ne hA6 f34_5 (by decide)
      have f36_6 := ev_ne hA6 f36_5 (by decide)
      have f41_6 := ev_ne hA6 f41_5 (by decide)
      have f39_6 := ev_eq hA6 hz5 (by decide)
      refine ord_lone (i := 3) rfl (by kernel_rfl) rfl (wp_value (d := some 37) rfl (x_one (.tmp 36) rfl f36_6) (act_name_and hS2 fun A7 hA7 => ?_))
      have hz7 := sz_put hA7 hz6
      have f34_7 := ev_ne hA7 f34_6 (by decide)
      have f41_7 := ev_ne hA7 f41_6 (by decide)
      have f39_7 := ev_ne hA7 f39_6 (by decide)
      have f37_7 := ev_eq hA7 hz6 (by decide)
      refine ord_lone (i := 4) rfl (by kernel_rfl) rfl (wp_append_pc (.tmp 34) (.tmp 37) rfl B v P f34_7 HO2.out w.heap.size ⟨len, 0, 0⟩ f37_7 HB2.out HPP.out HS2.out fun v1 w1 h1 h2 => ?_)
      have HO1 := Lib.hid h1
      have HB1 := Lib.hid (HO2.out.grown HW2.out h2 HS2.out)
      clear h1 h2
      refine act_name_and (HX.out w1 HB1.out) fun A8 hA8 => ?_
      have hz8 := sz_put hA8 hz7
      have f41_8 := ev_ne hA8 f41_7 (by decide)
      have f39_8 := ev_ne hA8 f39_7 (by decide)
      have f38_8 := ev_eq hA8 hz7 (by decide)
      refine ord_lone (i := 8) rfl (by kernel_rfl) rfl (wp_enter (d := some 42) rfl (x_rpt rfl f38_8 f39_8 f41_8) (HR.out _ _ HO1.out (Nat.le_trans HBH.out HB1.out.size)) ?_)
      rintro e w2 ⟨⟨v2, Q, K, J, rfl, hKJ, ho2, hs2, hQ, hr2⟩, hb2⟩
      have HTL : Hid (InfMath.tel len n = ([⟨len, 0, 0⟩] ++ Q) ++ List.replicate J ⟨len, 0, 0⟩) := Lib.hid (InfMath.tel_len HNZ.out (by rw [← HN.out]; exact hr2))
      clear hr2
      have hS3 := HX.out w2 (HB1.out.trans hb2)
      refine ⟨_, rfl, act_name_and hS3 fun A9 hA9 => ?_⟩
      have hz9 := sz_put hA9 hz8
      have f42_9 := ev_eq hA9 hz8 (by decide)
      refine ord_step (i := 9) (d := some 33) (.tuple #[v2, .int .i64 (J : Int)]) rfl (by kernel_rfl) (by kernel_rfl) (by kernel_rfl) (by kernel_rfl) (fun _ _ _ h => h) rfl hS3 (fun w' h => x_move (.tmp 42) rfl f42_9) fun A10 hA10 => ?_
      have hz10 := sz_put hA10 hz9
      have f33_10 := ev_eq hA10 hz9 (by decide)
      refine ord_step (i := 10) (d := some 43) (v2) rfl (by kernel_rfl) (by kernel_rfl) (by kernel_rfl) (by kernel_rfl) (fun _ _ _ h => h) rfl hS3 (fun w' h => x_ext0 (.tmp 33) rfl f33_10) fun A11 hA11 => ?_
      have hz11 := sz_put hA11 hz10
      have f33_11 := ev_ne hA11 f33_10 (by decide)
      have f43_11 := ev_eq hA11 hz10 (by decide)
      refine ord_step (i := 11) (d := some 44) (.int .i64 (J : Int)) rfl (by kernel_rfl) (by kernel_rfl) (by kernel_rfl) (by kernel_rfl) (fun _ _ _ h => h) rfl hS3 (fun w' h => x_ext1 (.tmp 33) rfl f33_11) fun A12 hA12 => ?_
      have hz12 := sz_put hA12 hz11
      have f43_12 := ev_ne hA12 f43_11 (by decide)
      have f44_12 := ev_eq hA12 hz11 (by decide)
      refine ord_step (i := 12) (d := some 0) (v2) rfl (by kernel_rfl) (by kernel_rfl) (by kernel_rfl) (by kernel_rfl) (fun _ _ _ h => h) rfl hS3 (fun w' h => x_assign (.tmp 43) rfl f43_12) fun A13 hA13 => ?_
      have hz13 := sz_put hA13 hz12
      have f44_13 := ev_ne hA13 f44_12 (by decide)
      refine ord_step (i := 13) (d := some 2) (.int .i64 (J : Int)) rfl (by kernel_rfl) (by kernel_rfl) (by kernel_rfl) (by kernel_rfl) (fun _ _ _ h => h) rfl hS3 (fun w' h => x_assign (.tmp 44) rfl f44_13) fun A14 hA14 => ?_
      have hz14 := sz_put hA14 hz13
      refine wpAnyH_done (by kernel_rfl) ?_ _
      have HO3 := Lib.hid ho2
      have HS3 := Lib.hid hs2
      have HB3 := Lib.hid (HB1.out.trans hb2)
      have ea : A14 = _ := hA14
      rw [hA13, hA12, hA11, hA10, hA9, hA8, hA7, hA6, hA5, hA4, hA3, hA2, hA1, hA0] at ea
      simp only [put_lit, List.set_cons_succ, List.set_cons_zero] at ea
      rename_i J9 K9 hJ9 hK9
      refine hK9 _ _ ?_
      rw [ea]
      go_meet
      case rel => exact ⟨[⟨len, 0, 0⟩] ++ Q, 1 + K, J, rfl, by have := HN.out; omega, Lib.hid (by rw [← List.append_assoc]; exact HO3.out), Lib.hid ((Says.one (fun _ => True) len HL15.out).app HS3.out fun done _ => by unfold LastIs; simp), by rw [List.length_append]; simp; omega, HB3, HTL⟩
    case rest =>
      obtain ⟨Q, K, J, rfl, hKJ, HO, HS, hQ, HBW, HTL⟩ := hcut
      clear HX HR HW a0 a1 a2 a3 m0 m1 m2 m3 s0 s1 s2 s3
      go_wp2_with fail
      go_loopw [0, 46] (fun lv iv wr => ∃ (Q2 : List Pc) (i : Nat), iv = .int .i64 (i : Int) ∧ i ≤ J ∧ Hid (OwnP B wr lv (P ++ Q2)) ∧ Hid (Says (fun _ => True) Q2 len (K + i)) ∧ Q2.length ≤ K + i ∧ Hid (Below B w wr) ∧ Hid (Q2 = Q ++ List.replicate i ⟨len, 0, 0⟩)) (fun _ iv _ => J - (intOf iv).toNat)
      case atStart => exact ⟨Q, 0, rfl, Nat.zero_le _, HO, HS, hQ, HBW, Lib.hid (by simp)⟩
      case round =>
        clear HO HS hQ HBW
        obtain ⟨Q2, i, rfl, hi, HO, HS, hQ, HBW, HRQ⟩ := hrel
        by_cases hlt : i < J
        · obtain ⟨Y, hY⟩ : ∃ Y, Y = wr.alloc (.cells #[.int .i64 (len : Int), .int .i64 0, .int .i64 0] 111) := ⟨_, rfl⟩
          have HYB : Hid (Blk Y wr.heap.size 111 (pc ⟨len, 0, 0⟩)) := Lib.hid (by rw [hY]; exact Blk.new wr _ _)
          have HYO : Hid (OwnP B Y u0 (P ++ Q2)) := Lib.hid (by rw [hY]; exact HO.out.alloc _)
          have HYW : Hid (Below B w Y) := Lib.hid (by rw [hY]; exact HBW.out.alloc (Nat.le_trans HBH.out HBW.out.size) _)
          have HYS : Hid (B ≤ Y.heap.size) := Lib.hid (Nat.le_trans HBH.out HYW.out.size)
          clear HO
          go_wp2_with (at_builtin; refine wpList_append_pc (by rfl) (.tmp 48) (.tmp 51) (by rfl) B _ (P ++ Q2) (by rfl) (show OwnP B (wr.alloc (.cells #[.int .i64 (len : Int), .int .i64 0, .int .i64 0] 111)) u0 (P ++ Q2) from by rw [← hY]; exact HYO.out) wr.heap.size ⟨len, 0, 0⟩ (by rfl) (by rw [← hY]; exact HYB.out) (by rw [List.length_append]; omega) (by rw [← hY]; exact HYS.out) ?_)
          intro v' w1 h1 h2
          rw [← hY] at h2
          have HO1 : Hid (OwnP B w1 v' (P ++ (Q2 ++ [⟨len, 0, 0⟩]))) := Lib.hid h1
          have HB1 : Hid (Below B w w1) := Lib.hid (HYO.out.grown HYW.out h2 HYS.out)
          clear h1 h2 hY HYO HYW HYB HYS
          go_wp2_with fail
          go_roundw
          case rel => exact ⟨Q2 ++ [⟨len, 0, 0⟩], i + 1, by go_num, by omega, HO1, Lib.hid (HS.out.app (Says.one (fun _ => True) len HL15.out) fun _ _ => trivial), by rw [List.length_append]; simp; omega, HB1, Lib.hid (by rw [HRQ.out, List.append_assoc, ← List.replicate_succ'])⟩
          case measure => simp [intOf]; omega
        · obtain rfl : i = J := by omega
          have HE : Hid (K + i = n) := Lib.hid hKJ
          go_wp2_with fail
          go_ret
          exact ⟨⟨_, Q2, rfl, HO.out, by rw [← HE.out]; exact HS.out, by have := HE.out; omega, by rw [HRQ.out, HTL.out]⟩, HBW.out⟩
end Go.Proofs.YtbjjkhlebdaoaaaGreatDoor.BlkC
end

section
/-
  run, spelled: all lengths as pieces.
-/
namespace Go.Proofs.YtbjjkhlebdaoaaaGreatDoor.BlkC
open Go.RowKit Go.My BitMath
open PkC (lv)
open InfMath (Pc Sp Says LastIs)

theorem OwnP.later {base : Nat} {w w' : World} {v : Value} {P : List Pc} (h : OwnP base w v P) (hb : Below w.heap.size w w') : OwnP base w' v P := by
  refine World.ownsRow.kept h (row := none) ⟨hb.os, hb.tape, hb.output, hb.size, fun k hk _ => hb.block k hk⟩ ?_
  by_cases hv : v.ownBlock = none
  · exact .inl hv
  · exact .inr hv
theorem Tbls.more {B C : Nat} {w : World} (h : Tbls B w) (hC : B ≤ C) : Tbls C w := ⟨by have := h.lo; omega, by have := h.la; omega, by have := h.ls; omega, by have := h.lm; omega, h.order, h.again, h.few, h.many⟩
theorem lv_len (ls : List Nat) : (lv ls).length = ls.length := by simp [lv]
theorem lv_drop (ls : List Nat) (n : Nat) : lv (ls.drop n) = (lv ls).drop n := by unfold lv; rw [List.map_drop]
theorem lv_get (ls : List Nat) (i : Nat) (h : i < ls.length) : (lv ls)[i]'(by rw [lv_len]; exact h) = .int .i64 ((ls.getD i 0 : Nat) : Int) := by
  simp [lv, List.getD_eq_getElem?_getD, h]
theorem row_drop {w : World} {b off len cap n : Nat} {vs : List Value} (h : RowIn w (some ⟨b, off, none⟩) len cap vs) (hn : n ≤ len) : RowIn w (some ⟨b, off + n, none⟩) (len - n) (cap - n) (vs.drop n) := by
  have hl := h.len_eq
  have hlc := h.le_cap
  have hcm := h.cap_le
  refine ⟨by rw [List.length_drop]; omega, by omega, by omega, (fun e => by cases e), ?_⟩
  rcases h.at_ with h0 | ⟨b', off', ha, hs, hc⟩
  · left; omega
  · injection ha with ha
    injection ha with e1 e2
    subst e1 e2
    exact .inr ⟨b, off + n, rfl, hs, fun i hi => by
      rw [List.length_drop] at hi
      rw [List.getElem_drop, Nat.add_assoc]
      exact hc (n + i) (by omega)⟩
theorem row_nil {w : World} {b off cap : Nat} (hc : cap ≤ 9223372036854775807) : RowIn w (some ⟨b, off, none⟩) 0 cap [] := ⟨rfl, Nat.zero_le _, hc, (fun e => by cases e), .inl rfl⟩
set_option maxRecDepth 100000 in
set_option maxHeartbeats 4000000 in
theorem run_any (b off len c : Nat) (ls : List Nat) (w : World) (h : RowIn w (some ⟨b, off, none⟩) len c (lv ls)) (h1 : 1 ≤ len) (hn : len ≤ 1000) (hs : ∀ i, ls.getD i 0 ≤ 1000) :
    Calls Tryz.prog 89 #[.slice (some ⟨b, off, none⟩) len c] w fun e w' => (∃ n : Nat, e = .returned (.int .i64 (n : Int)) ∧ 1 ≤ n ∧ n ≤ len ∧ (∀ i, i < n → ls.getD i 0 = ls.getD 0 0) ∧ (n = ls.length ∨ ls.getD n 0 ≠ ls.getD 0 0)) ∧ Below w.heap.size w w' := by
  have hl : ls.length = len := by have := h.len_eq; rwa [lv_len] at this
  have hcell : ∀ i, i < len → w.cell? ⟨b, off + i, none⟩ = some (.int .i64 ((ls.getD i 0 : Nat) : Int)) := fun i hi => by rw [h.get i (by rw [lv_len]; omega), lv_get _ _ (by omega)]
  have HC := Lib.hid hcell
  have hc0 : w.cell? ⟨b, off, none⟩ = some (.int .i64 ((ls.getD 0 0 : Nat) : Int)) := hcell 0 (by omega)
  obtain ⟨x, hx⟩ : ∃ x, x = ls.getD 0 0 := ⟨_, rfl⟩
  have HS := Lib.hid hs
  have hx1 : x ≤ 1000 := by rw [hx]; exact hs 0
  have HLN := Lib.hid hl
  rw [← hx] at hc0 ⊢
  have HX := Lib.hid hx
  have hlc := h.le_cap
  have hcm := h.cap_le
  clear hcell h hl hx hs
  go_enter Tryz.func89, Tryz.ntmps89
  go_wp2_with fail
  go_loopw [3] (fun kv wr => ∃ k : Nat, kv = .int .i64 (k : Int) ∧ 1 ≤ k ∧ k ≤ len ∧ Hid (∀ i, i < k → ls.getD i 0 = x) ∧ ∃ q, wr = w.drewN q) (fun kv _ => len - (intOf kv).toNat)
  case atStart => exact ⟨1, rfl, Nat.le_refl _, h1, Lib.hid (fun i hi => by obtain rfl : i = 0 := by omega
                                                                            exact HX.out.symm), 0, rfl⟩
  case round =>
    obtain ⟨k, rfl, hk1, hk, HK, q, rfl⟩ := hrel
    have h00 : (0 : Int) < (len : Int) := by omega
    by_cases hlt : k < len
    · have hck : w.cell? ⟨b, off + k, none⟩ = some (.int .i64 ((ls.getD k 0 : Nat) : Int)) := HC.out k hlt
      obtain ⟨y, hy⟩ : ∃ y, y = ls.getD k 0 := ⟨_, rfl⟩
      have hy1 : y ≤ 1000 := by rw [hy]; exact HS.out k
      rw [← hy] at hck
      have HY := Lib.hid hy
      clear hy
      have hki : (k : Int) < (len : Int) := by omega
      by_cases hxy : y = x
      · have he : ((y : Int) == (x : Int)) = true := by simp; omega
        have HE := Lib.hid hxy
        clear hxy
        go_upto_region 2 with (fail)
        go_quiet (fail)
        go_wp2_with fail
        go_roundw
        case rel => exact ⟨k + 1, by go_num, by omega, by omega, Lib.hid (fun i hi => by
          by_cases e : i = k
          · subst e; rw [← HY.out, HE.out]
          · exact HK.out i (by omega)), _, rfl⟩
        case measure => simp [intOf]; omega
      · have he : ((y : Int) == (x : Int)) = false := by simp; omega
        have HNE := Lib.hid hxy
        clear hxy
        go_upto_region 2 with (fail)
        go_quiet (fail)
        go_wp2_with fail
        go_ret
        exact ⟨⟨k, rfl, hk1, hk, HK.out, .inr (by rw [← HY.out]; exact HNE.out)⟩, ⟨rfl, rfl, rfl, Nat.le_refl _, fun _ _ => rfl⟩⟩
    · obtain rfl : k = len := by omega
      go_upto_region 2 with (fail)
      go_quiet (fail)
      go_wp2_with fail
      go_ret
      exact ⟨⟨k, rfl, hk1, hk, HK.out, .inl HLN.out.symm⟩, ⟨rfl, rfl, rfl, Nat.le_refl _, fun _ _ => rfl⟩⟩
/-- What stands ahead of a run, and the run. -/
theorem take_run {ls : List Nat} {k n : Nat} (hk : k + n ≤ ls.length) (h : ∀ i, i < n → (ls.drop k).getD i 0 = (ls.drop k).getD 0 0) : ls.take (k + n) = ls.take k ++ List.replicate n ((ls.drop k).getD 0 0) := by
  rw [List.take_add]
  congr 1
  apply List.ext_getElem
  · rw [List.length_take, List.length_drop, List.length_replicate]; omega
  · intro i h1 h2
    rw [List.length_replicate] at h2
    have := h i h2
    rw [List.getElem_take, List.getElem_replicate, ← this, List.getD_eq_getElem?_getD, List.getElem?_eq_getElem (by rw [List.length_drop]; omega)]
    rfl
theorem drop_le {ls : List Nat} {m : Nat} (h : ∀ x ∈ ls, x ≤ m) (k i : Nat) : (ls.drop k).getD i 0 ≤ m := by
  rw [List.getD_eq_getElem?_getD]
  by_cases hi : i < (ls.drop k).length
  · rw [List.getElem?_eq_getElem hi]
    exact h _ (List.mem_of_mem_drop (List.getElem_mem hi))
  · rw [List.getElem?_eq_none (by omega)]; exact Nat.zero_le _
set_option maxRecDepth 100000 in
set_option maxHeartbeats 8000000 in
theorem spelled_any (a : Option Addr) (len c : Nat) (ls : List Nat) (w : World) (h : RowIn w a len c (lv ls)) (hn : len ≤ 1000) (hs : ∀ x ∈ ls, x ≤ 15) {B : Nat} (hB : B ≤ w.heap.size) (hT : Tbls B w) :
    Calls Tryz.prog 70 #[.slice a len c] w fun e w' => (∃ (v : Value) (P : List Pc), e = .returned v ∧ OwnP w.heap.size w' v P ∧ Sp [] P ls ∧ P.length ≤ len ∧ P = InfMath.spl ls) ∧ Below w.heap.size w w' := by
  have hl : ls.length = len := by have := h.len_eq; rwa [lv_len] at this
  have HR := Lib.hid h
  have HS := Lib.hid hs
  have HT := Lib.hid (hT.more hB)
  have HL := Lib.hid hl
  clear h hs hT hl hB
  go_enter Tryz.func70, Tryz.ntmps70
  go_wp2_with fail
  go_loopw [0, 3] (fun rv pv wr => ∃ (a' : Option Addr) (c' k m : Nat) (P : List Pc), rv = .slice a' m c' ∧ k + m = len ∧ Hid (RowIn wr a' m c' (lv (ls.drop k))) ∧ Hid (OwnP w.heap.size wr pv P) ∧ Hid (∀ ps all, Sp (ls.take k) ps all → Sp [] (P ++ ps) all) ∧ P.length ≤ k ∧ Hid (Below w.heap.size w wr) ∧ Hid (∀ b off, a' = some ⟨b, off, none⟩ → m = 0 ∨ b < w.heap.size) ∧ Hid (InfMath.spl ls = P ++ InfMath.spl (ls.drop k))) (fun rv _ _ => match rv with | .slice _ m _ => m | _ => 0)
  case atStart =>
    refine ⟨a, c, 0, len, [], rfl, by omega, HR, Lib.hid (OwnP.nil _ _), Lib.hid (fun ps all h => h), Nat.le_refl _, Lib.hid (Below.refl _ _), Lib.hid (fun b off e => ?_), Lib.hid (by rw [List.nil_append, List.drop_zero])⟩
    rcases HR.out.at_ with h0 | ⟨b', off', ha, hs, -⟩
    · exact .inl h0
    · rw [e] at ha
      injection ha with ha
      injection ha with e1 _
      exact .inr (by omega)
  case round =>
    obtain ⟨a', c', k, m, P, rfl, hkm, HRR, HO, HP, hPk, HB, HLO, HSL⟩ := hrel
    by_cases h0 : m = 0
    · subst h0
      have HE : Hid (ls.take k = ls) := Lib.hid (List.take_of_length_le (by rw [HL.out]; omega))
      go_wp2_with fail
      go_ret
      exact ⟨⟨_, rfl, P, HO.out, by have := HP.out [] ls HE.out; rwa [List.append_nil] at this, by omega, by have h := HSL.out; rw [List.drop_of_length_le (by rw [HL.out]; omega), InfMath.spl_nil, List.append_nil] at h; exact h.symm⟩, HB.out⟩
    · obtain ⟨b, off, rfl⟩ := HRR.out.some_ (by omega)
      have hbl : b < w.heap.size := by rcases HLO.out b off rfl with h | h <;> omega
      have hlc := HRR.out.le_cap
      have hcm := HRR.out.cap_le
      have hd0 := drop_le HS.out k 0
      have HRU := Lib.hid (run_any b off m c' (ls.drop k) wr HRR.out (by omega) (by omega) (fun i => by have := drop_le HS.out k i; omega))
      have hm0 : (0 : Int) < (m : Int) := by omega
      have HB0 := Lib.hid h0
      clear h0
      go_wp2_with fail
      refine HRU.out.mono ?_
      rintro e w1 ⟨⟨n, rfl, hn1, hnm, hsame, hend⟩, hb1⟩
      have HB1 := Lib.hid (HB.out.trans (hb1.mono HB.out.size))
      have HR1 := Lib.hid (HRR.out.below (Nat.le_refl _) hb1)
      have HRN : Hid (ls.take (k + n) = ls.take k ++ List.replicate n ((ls.drop k).getD 0 0)) := Lib.hid (take_run (by rw [HL.out]; omega) hsame)
      have hcell : w1.cell? ⟨b, off, none⟩ = some (.int .i64 (((ls.drop k).getD 0 0 : Nat) : Int)) := by
        have := HR1.out.get 0 (by rw [lv_len, List.length_drop, HL.out]; omega)
        rw [lv_get _ _ (by rw [List.length_drop, HL.out]; omega)] at this
        exact this
      obtain ⟨x, hx⟩ : ∃ x, x = (ls.drop k).getD 0 0 := ⟨_, rfl⟩
      have HSQ : Hid (InfMath.spl (ls.drop k) = InfMath.tel ((ls.drop k).getD 0 0) n ++ InfMath.spl (ls.drop (k + n))) := Lib.hid (by
        have h := InfMath.spl_run hn1 (by rw [List.length_drop, HL.out]; omega) hsame hend
        rw [List.drop_drop] at h
        exact h)
      clear hend
      rw [← hx] at hcell hd0 HRN HSQ
      have HTO := Lib.hid (told_pcs w.heap.size x n u3 P w1 hd0 hn1 (by omega) (by omega) (HO.out.later hb1) HB1.out.size (HT.out.below HB1.out (Nat.le_refl _)))
      have HX := Lib.hid hx
      clear hx hb1 hsame HRU
      go_wp2_with fail
      refine HTO.out.mono ?_
      rintro e w2 ⟨⟨v2, Q, rfl, ho2, hs2, hq2, hqt⟩, hb2⟩
      have HO2 := Lib.hid ho2
      have HSL2 : Hid (InfMath.spl ls = (P ++ Q) ++ InfMath.spl (ls.drop (k + n))) := Lib.hid (by rw [HSL.out, HSQ.out, hqt, List.append_assoc])
      clear hqt HSL HSQ
      have HB2 := Lib.hid (HB1.out.trans hb2)
      have HP2 : Hid (∀ ps all, Sp (ls.take (k + n)) ps all → Sp [] ((P ++ Q) ++ ps) all) := Lib.hid fun ps all hsp => by
        rw [List.append_assoc]
        refine HP.out _ _ (hs2 _ trivial ps all ?_)
        rw [← HRN.out]
        exact hsp
      have hR2 : RowIn w2 (some ⟨b, off, none⟩) m c' (lv (ls.drop k)) := by
        refine ⟨HR1.out.1, HR1.out.2, HR1.out.3, HR1.out.4, ?_⟩
        rcases HR1.out.at_ with h0 | ⟨b', off', ha, hs, hc⟩
        · exact .inl h0
        · injection ha with ha
          injection ha with e1 e2
          subst e1 e2
          exact .inr ⟨b, off, rfl, by have := hb2.size; have := HB2.out.size; omega, fun i hi => by rw [hb2.cell (p := ⟨b, off + i, none⟩) hbl]; exact hc i hi⟩
      have HR2 : Hid (RowIn w2 (some ⟨b, off + n, none⟩) (m - n) (c' - n) (lv (ls.drop (k + n)))) := Lib.hid (by
        have := row_drop hR2 hnm
        rw [← lv_drop, List.drop_drop] at this
        exact this)
      have HLL : Hid (b < w.heap.size ∧ P.length + Q.length ≤ k + n) := Lib.hid ⟨hbl, by omega⟩
      clear ho2 hs2 hb2 hR2 HO HP HRR HR1 HB HTO hcell hq2 hbl HLO
      have hni : (n : Int) ≤ (m : Int) := by omega
      by_cases hcn : c' = n
      · have hmn : m = n := by omega
        subst hmn
        subst hcn
        go_wp2_with fail
        go_roundw
        case rel =>
          refine ⟨some ⟨b, off, none⟩, 0, k + c', 0, P ++ Q, by go_num, by omega, Lib.hid ?_, HO2, HP2, by rw [List.length_append]; exact HLL.out.2, HB2, Lib.hid fun b' off' e => .inl rfl, HSL2⟩
          have := HR2.out.len_eq
          rw [Nat.sub_self] at this
          rw [List.length_eq_zero_iff.1 this]
          exact row_nil (by omega)
        case measure => simp; omega
      · go_wp2_with fail
        go_roundw
        case rel => exact ⟨some ⟨b, off + n, none⟩, c' - n, k + n, m - n, P ++ Q, by go_num, by omega, HR2, HO2, HP2, by rw [List.length_append]; exact HLL.out.2, HB2, Lib.hid fun b' off' e => .inr (by injection e with e; injection e with e _; rw [← e]; exact HLL.out.1), HSL2⟩
        case measure => simp; omega
end Go.Proofs.YtbjjkhlebdaoaaaGreatDoor.BlkC
end
