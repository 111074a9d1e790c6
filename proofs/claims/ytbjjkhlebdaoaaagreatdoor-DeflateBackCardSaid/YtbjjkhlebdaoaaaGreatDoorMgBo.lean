import Derived.Test.YtbjjkhlebdaoaaaGreatDoorMgBb
import Derived.Test.YtbjjkhlebdaoaaaGreatDoorMgBc

section
/-
  ownCodes: the codes that are best for a tally.
-/
namespace Go.Proofs.YtbjjkhlebdaoaaaGreatDoor.BlkC
open Go.RowKit Go.My BitMath CanMath TabMath
open CanC (iv allWords)
open PkC (cel lv cel_zero cel_cell cel_upd Best)
open InfMath (CodeOk)

/-- Where a code is cut. -/
structure Trim (ls : List Nat) (k : Nat) : Prop where
  one : 1 ≤ k
  le : k ≤ ls.length
  zero : ∀ i, k ≤ i → ls.getD i 0 = 0
  last : k = 1 ∨ 1 ≤ ls.getD (k - 1) 0
/-- What ownCodes hands back. -/
def OwnRet (F G : Nat → Nat) (w : World) (e : Ending) (w' : World) : Prop :=
  ∃ a1 c1 b1 k1 L a2 c2 b2 k2 D, e = .returned (.agg #[.slice a1 k1 c1, .slice (some ⟨b1, 0, none⟩) k1 286, .slice a2 k2 c2, .slice (some ⟨b2, 0, none⟩) k2 32]) ∧ Trim L k1 ∧ Trim D k2 ∧ Best ((List.range 286).map F) L 15 ∧ Best ((List.range 32).map G) D 15 ∧
    CodeIn w.heap.size w' a1 (some ⟨b1, 0, none⟩) k1 c1 286 (L.take k1) ∧ CodeIn w.heap.size w' a2 (some ⟨b2, 0, none⟩) k2 c2 32 (D.take k2) ∧ Below w.heap.size w w'
/-- A tally's rows, as they are read. -/
def TalAt (q g1 g2 : Nat) (w : World) : Prop := w.cell? ⟨q, 0, none⟩ = some (.slice (some ⟨g1, 0, none⟩) 286 286) ∧ w.cell? ⟨q, 1, none⟩ = some (.slice (some ⟨g2, 0, none⟩) 32 32)
theorem tal_at {q g1 g2 : Nat} {w : World} {u : Value} (h : Blk w q 69 #[.slice (some ⟨g1, 0, none⟩) 286 286, .slice (some ⟨g2, 0, none⟩) 32 32, u]) : TalAt q g1 g2 w := ⟨h.cell 0, h.cell 1⟩
theorem CodeIn.more {B C : Nat} {w : World} {a b : Option Addr} {n c1 c2 : Nat} {ls : List Nat} (h : CodeIn B w a b n c1 c2 ls) (hC : C ≤ B) : CodeIn C w a b n c1 c2 ls :=
  ⟨h.lens, h.words, fun k off e => Nat.le_trans hC (h.la k off e), fun k off e => Nat.le_trans hC (h.lb k off e)⟩
theorem only_row (w : World) (g : Nat) (cs : Array Value) : Only (fun k => k = g) w (w.setRow g cs) := ⟨rfl, rfl, rfl, by rw [size_setRow]; exact Nat.le_refl _, fun k _ hk => setRow_block w g cs k hk⟩
theorem CodeIn.rowfar {B g : Nat} {w : World} {a b : Option Addr} {n c1 c2 : Nat} {ls : List Nat} (h : CodeIn B w a b n c1 c2 ls) (hg : g < B) (cs : Array Value) : CodeIn B (w.setRow g cs) a b n c1 c2 ls :=
  ⟨row_only (only_row w g cs) h.lens (fun k off e => by have := h.la k off e; omega), row_only (only_row w g cs) h.words (fun k off e => by have := h.lb k off e; omega), h.la, h.lb⟩
theorem x_tal {a : Act} {o : Oper} (s : Operand) (k : Nat) {q : Nat} {w : World} (hk : k < 2) (ho : o.op = .fieldAddr 69 s k) (hs : a.eval s = .pointer (some ⟨q, 0, none⟩)) : (execOp a.eval o).run Tryz.prog w = .ok (.value (.pointer (some ⟨q, k, none⟩))) w := by
  unfold execOp; rw [ho]; simp only [hs]
  rcases (by omega : k = 0 ∨ k = 1) with rfl | rfl <;> go_simp
theorem x_ldi {a : Act} {o : Oper} (p : Operand) {x : Addr} {u : Option Addr} {m c : Nat} {w : World} (ho : o.op = Op.load 67 p) (hp : a.eval p = .pointer (some x)) (hc : w.cell? x = some (.slice u m c)) :
    (execOp a.eval o).run Tryz.prog w = .ok (.value (.slice u m c)) w := by
  unfold execOp
  rw [ho]
  simp only [hp]
  go_simp
theorem x_best {a : Act} {o : Oper} {s t : Operand} {ts : Array TypeId} {u v : Value} {w : World} (ho : o.op = .call { callee := .value (.func 68), args := #[s, t], argTypes := ts }) (hs : a.eval s = u) (ht : a.eval t = v) :
    (execOp a.eval o).run Tryz.prog w = .ok (.enter 68 #[u, v]) w := by
  unfold execOp; rw [ho]
  subst hs ht
  go_simp
theorem x_short {a : Act} {o : Oper} {s : Operand} {ts : Array TypeId} {u : Value} {w : World} (ho : o.op = .call { callee := .value (.func 69), args := #[s], argTypes := ts }) (hs : a.eval s = u) :
    (execOp a.eval o).run Tryz.prog w = .ok (.enter 69 #[u]) w := by
  unfold execOp; rw [ho]
  subst hs
  go_simp
theorem x_cds {a : Act} {o : Oper} {u v x y : Value} {w : World} (s t : Operand) (ho : o.op = .build 75 #[(0, s), (1, t)]) (hs : a.eval s = .agg #[u, v]) (ht : a.eval t = .agg #[x, y]) : (execOp a.eval o).run Tryz.prog w = .ok (.value (.agg #[u, v, x, y])) w := by
  unfold execOp; rw [ho]
  simp only [List.map_toArray, List.map_cons, List.map_nil, hs, ht]
  go_simp
set_option maxRecDepth 100000 in
set_option maxHeartbeats 8000000 in
theorem own_any (g1 g2 x : Nat) (F G : Nat → Nat) (w : World) (hF : Blk w g1 3 (cel 286 F).toArray) (hG : Blk w g2 3 (cel 32 G).toArray) (hFm : ∀ j, F j ≤ 1000000) (hGm : ∀ j, G j ≤ 1000000) :
    Calls Tryz.prog 37 #[.agg #[.slice (some ⟨g1, 0, none⟩) 286 286, .slice (some ⟨g2, 0, none⟩) 32 32, .int .i64 (x : Int)]] w (OwnRet F G w) := by
  obtain ⟨X, hX⟩ : ∃ X, X = (w.alloc (.cells #[.slice (some ⟨g1, 0, none⟩) 286 286, .slice (some ⟨g2, 0, none⟩) 32 32, .int .i64 (x : Int)] 69)).alloc (.cells #[.slice none 0 0, .slice none 0 0, .slice none 0 0, .slice none 0 0] 75) := ⟨_, rfl⟩
  have hXB : Below w.heap.size w X := by rw [hX]; exact ((Below.refl _ _).alloc (Nat.le_refl _) _).alloc (by rw [World.size_alloc]; omega) _
  have HBT : Hid (Blk X w.heap.size 69 #[.slice (some ⟨g1, 0, none⟩) 286 286, .slice (some ⟨g2, 0, none⟩) 32 32, .int .i64 (x : Int)]) := Lib.hid (by rw [hX]; exact (Blk.new w _ _).alloc _)
  have HBR : Hid (Blk X (w.heap.size + 1) 75 #[.slice none 0 0, .slice none 0 0, .slice none 0 0, .slice none 0 0]) := Lib.hid (by
    have := Blk.new (w.alloc (.cells #[.slice (some ⟨g1, 0, none⟩) 286 286, .slice (some ⟨g2, 0, none⟩) 32 32, .int .i64 (x : Int)] 69)) 75 #[.slice none 0 0, .slice none 0 0, .slice none 0 0, .slice none 0 0]
    rw [World.size_alloc] at this
    rw [hX]; exact this)
  have HF := Lib.hid (hF.same (hXB.block g1 hF.lt))
  have HG := Lib.hid hG
  have HFM := Lib.hid hFm
  have HGM := Lib.hid hGm
  have HXB := Lib.hid hXB
  have HSX : Hid (w.heap.size + 1 < X.heap.size) := Lib.hid HBR.out.lt
  have HS0 : Hid (TalAt w.heap.size g1 g2 X.drew) := Lib.hid (tal_at HBT.out.drew)
  clear hXB hF hG hFm hGm
  go_enter Tryz.func37, Tryz.ntmps37
  go_upto_region 1 with (fail)
  rw [← hX]
  clear hX
  refine act_named fun A0 hA0 => ?_
  have hz0 : A0.tmps.size = 12 := by rw [hA0]; rfl
  have e1 : A0.eval (.tmp 1) = .pointer (some ⟨w.heap.size, 0, none⟩) := by rw [hA0]; rfl
  have e2 : A0.eval (.tmp 2) = .pointer (some ⟨w.heap.size + 1, 0, none⟩) := by rw [hA0]; rfl
  refine wp_region_held (S := TalAt w.heap.size g1 g2) (by kernel_rfl) ?_
  refine ord_step (i := 0) (d := some 3) (.pointer (some ⟨w.heap.size, 0, none⟩)) rfl (by kernel_rfl) (by kernel_rfl) (by kernel_rfl) (by kernel_rfl) (fun _ _ _ h => h) rfl HS0.out (fun w' h => x_tal (.tmp 1) 0 (by omega) rfl e1) fun A1 hA1 => ?_
  have hz1 := sz_put hA1 hz0
  have f1_1 := ev_ne hA1 e1 (by decide)
  have f2_1 := ev_ne hA1 e2 (by decide)
  have f3_1 := ev_eq hA1 hz0 (by decide)
  refine ord_step (i := 1) (d := some 4) (.slice (some ⟨g1, 0, none⟩) 286 286) rfl (by kernel_rfl) (by kernel_rfl) (by kernel_rfl) (by kernel_rfl) (fun _ _ _ h => h) rfl HS0.out (fun w' h => x_ldi (.tmp 3) rfl f3_1 h.1) fun A2 hA2 => ?_
  have hz2 := sz_put hA2 hz1
  have f1_2 := ev_ne hA2 f1_1 (by decide)
  have f2_2 := ev_ne hA2 f2_1 (by decide)
  have f4_2 := ev_eq hA2 hz1 (by decide)
  refine ord_step (i := 4) (d := some 7) (.pointer (some ⟨w.heap.size, 1, none⟩)) rfl (by kernel_rfl) (by kernel_rfl) (by kernel_rfl) (by kernel_rfl) (fun _ _ _ h => h) rfl HS0.out (fun w' h => x_tal (.tmp 1) 1 (by omega) rfl f1_2) fun A3 hA3 => ?_
  have hz3 := sz_put hA3 hz2
  have f2_3 := ev_ne hA3 f2_2 (by decide)
  have f4_3 := ev_ne hA3 f4_2 (by decide)
  have f7_3 := ev_eq hA3 hz2 (by decide)
  refine ord_step (i := 5) (d := some 8) (.slice (some ⟨g2, 0, none⟩) 32 32) rfl (by kernel_rfl) (by kernel_rfl) (by kernel_rfl) (by kernel_rfl) (fun _ _ _ h => h) rfl HS0.out (fun w' h => x_ldi (.tmp 7) rfl f7_3 h.2) fun A4 hA4 => ?_
  have hz4 := sz_put hA4 hz3
  have f2_4 := ev_ne hA4 f2_3 (by decide)
  have f4_4 := ev_ne hA4 f4_3 (by decide)
  have f8_4 := ev_eq hA4 hz3 (by decide)
  refine ord_lone (i := 2) rfl (by kernel_rfl) rfl (wp_enter (d := some 5) rfl (x_best rfl f4_4 rfl) (best_any 286 15 F g1 X.drew HF.out.drew (by omega) (by omega) (by omega) (by omega) HFM.out) ?_)
  rintro e w1 ⟨a1, c1, b1, L, rfl, hc1, hbe1, hb1⟩
  have HB1 := Lib.hid (HXB.out.drew.trans (hb1.mono HXB.out.size))
  have HQ1 := Lib.hid (Blk.later HBT.out.drew hb1)
  have HR1 := Lib.hid (Blk.later HBR.out.drew hb1)
  have HC1 := Lib.hid hc1
  have HB1S : Hid (X.heap.size ≤ w1.heap.size) := Lib.hid hb1.size
  have HE1 := Lib.hid hbe1
  clear hc1 hbe1 hb1
  have hS1 : TalAt w.heap.size g1 g2 w1 := tal_at HQ1.out
  refine ⟨_, rfl, act_name_and hS1 fun A5 hA5 => ?_⟩
  have hz5 := sz_put hA5 hz4
  have f2_5 := ev_ne hA5 f2_4 (by decide)
  have f8_5 := ev_ne hA5 f8_4 (by decide)
  have f5_5 := ev_eq hA5 hz4 (by decide)
  refine ord_lone (i := 3) rfl (by kernel_rfl) rfl (wp_enter (d := some 6) rfl (x_short rfl f5_5) (short_any a1 (some ⟨b1, 0, none⟩) 286 c1 286 L w1 HC1.out (by omega) (by omega) (fun i => Nat.le_trans (HE1.out.all i) (by omega))) ?_)
  rintro e w2 ⟨k1, rfl, hk1, hk1n, hz1, hl1, hc2, hb2⟩
  have HB2 := Lib.hid (HB1.out.trans (hb2.mono HB1.out.size))
  have HQ2 := Lib.hid (Blk.later HQ1.out hb2)
  have HR2 := Lib.hid (Blk.later HR1.out hb2)
  have HG2 := Lib.hid (HG.out.same (HB2.out.block g2 HG.out.lt))
  have HC2 := Lib.hid hc2
  have HSW : Hid (X.heap.size ≤ w2.heap.size) := Lib.hid (Nat.le_trans HB1S.out hb2.size)
  have HT1 := Lib.hid (And.intro hk1 (And.intro hk1n (And.intro hz1 hl1)))
  clear hc2 hk1 hk1n hz1 hl1 hb2 HQ1 HR1 HC1 HB1
  have hS2 : TalAt w.heap.size g1 g2 w2 := tal_at HQ2.out
  refine ⟨_, rfl, act_name_and hS2 fun A6 hA6 => ?_⟩
  have hz6 := sz_put hA6 hz5
  have f2_6 := ev_ne hA6 f2_5 (by decide)
  have f8_6 := ev_ne hA6 f8_5 (by decide)
  have f6_6 := ev_eq hA6 hz5 (by decide)
  refine ord_lone (i := 6) rfl (by kernel_rfl) rfl (wp_enter (d := some 9) rfl (x_best rfl f8_6 rfl) (best_any 32 15 G g2 w2 HG2.out (by omega) (by omega) (by omega) (by omega) HGM.out) ?_)
  rintro e w3 ⟨a2, c2, b2, D, rfl, hc3, hbe2, hb3⟩
  have HB3 := Lib.hid (HB2.out.trans (hb3.mono HB2.out.size))
  have HQ3 := Lib.hid (Blk.later HQ2.out hb3)
  have HR3 := Lib.hid (Blk.later HR2.out hb3)
  have HC3 := Lib.hid hc3
  have HC2' := Lib.hid (HC2.out.below hb3)
  have HE2 := Lib.hid hbe2
  clear hc3 hbe2 hb3 HQ2 HR2 HC2 HG2
  have hS3 : TalAt w.heap.size g1 g2 w3 := tal_at HQ3.out
  refine ⟨_, rfl, act_name_and hS3 fun A7 hA7 => ?_⟩
  have hz7 := sz_put hA7 hz6
  have f2_7 := ev_ne hA7 f2_6 (by decide)
  have f6_7 := ev_ne hA7 f6_6 (by decide)
  have f9_7 := ev_eq hA7 hz6 (by decide)
  refine ord_lone (i := 7) rfl (by kernel_rfl) rfl (wp_enter (d := some 10) rfl (x_short rfl f9_7) (short_any a2 (some ⟨b2, 0, none⟩) 32 c2 32 D w3 HC3.out (by omega) (by omega) (fun i => Nat.le_trans (HE2.out.all i) (by omega))) ?_)
  rintro e w4 ⟨k2, rfl, hk2, hk2n, hz2, hl2, hc4, hb4⟩
  have HB4 := Lib.hid (HB3.out.trans (hb4.mono HB3.out.size))
  have HQ4 := Lib.hid (Blk.later HQ3.out hb4)
  have HR4 := Lib.hid (Blk.later HR3.out hb4)
  have HC4 := Lib.hid hc4
  have HC5 := Lib.hid (HC2'.out.below hb4)
  have HT2 := Lib.hid (And.intro hk2 (And.intro hk2n (And.intro hz2 hl2)))
  clear hc4 hk2 hk2n hz2 hl2 hb4 HQ3 HR3 HC3 HC2' HB3
  have hS4 : TalAt w.heap.size g1 g2 w4 := tal_at HQ4.out
  refine ⟨_, rfl, act_name_and hS4 fun A8 hA8 => ?_⟩
  have hz8 := sz_put hA8 hz7
  have f2_8 := ev_ne hA8 f2_7 (by decide)
  have f6_8 := ev_ne hA8 f6_7 (by decide)
  have f10_8 := ev_eq hA8 hz7 (by decide)
  refine ord_step (i := 8) (d := some 11) (.agg #[.slice a1 k1 c1, .slice (some ⟨b1, 0, none⟩) k1 286, .slice a2 k2 c2, .slice (some ⟨b2, 0, none⟩) k2 32]) rfl (by kernel_rfl) (by kernel_rfl) (by kernel_rfl) (by kernel_rfl) (fun _ _ _ h => h) rfl hS4 (fun w' h => x_cds (.tmp 6) (.tmp 10) rfl f6_8 f10_8) fun A9 hA9 => ?_
  have hz9 := sz_put hA9 hz8
  have f2_9 := ev_ne hA9 f2_8 (by decide)
  have f11_9 := ev_eq hA9 hz8 (by decide)
  refine ord_lone (i := 9) rfl (by kernel_rfl) rfl (wp_store_row 75 (.tmp 2) (.tmp 11) rfl (w.heap.size + 1) #[.slice a1 k1 c1, .slice (some ⟨b1, 0, none⟩) k1 286, .slice a2 k2 c2, .slice (some ⟨b2, 0, none⟩) k2 32] f2_9 f11_9 75 _ HR4.out info_codes rfl (by simp [Value.oneCell']) ?_)
  refine act_name_and (tal_at (Blk.rowfar HQ4.out (by omega))) fun A10 hA10 => ?_
  refine wpAnyH_done (by kernel_rfl) ?_ _
  have HW : Hid (OwnRet F G w (.returned (.agg #[.slice a1 k1 c1, .slice (some ⟨b1, 0, none⟩) k1 286, .slice a2 k2 c2, .slice (some ⟨b2, 0, none⟩) k2 32])) (w4.setRow (w.heap.size + 1) #[.slice a1 k1 c1, .slice (some ⟨b1, 0, none⟩) k1 286, .slice a2 k2 c2, .slice (some ⟨b2, 0, none⟩) k2 32])) := Lib.hid (by
    have hs1 : L.length = 286 := by rw [HE1.out.size, range_map_len]
    have hs2 : D.length = 32 := by rw [HE2.out.size, range_map_len]
    have hsx := HSX.out
    have hds : X.drew.heap.size = X.heap.size := rfl
    obtain ⟨t1, t2, t3, t4⟩ := HT1.out
    obtain ⟨u1, u2, u3, u4⟩ := HT2.out
    have hw2 := HSW.out
    exact ⟨a1, c1, b1, k1, L, a2, c2, b2, k2, D, rfl, ⟨t1, by omega, t3, t4⟩, ⟨u1, by omega, u3, u4⟩, HE1.out, HE2.out, (HC5.out.rowfar hsx _).more (by omega), (HC4.out.rowfar (by omega) _).more (by omega), below_row HB4.out (by omega) _⟩)
  have HBB := Lib.hid (HR4.out.row #[.slice a1 k1 c1, .slice (some ⟨b1, 0, none⟩) k1 286, .slice a2 k2 c2, .slice (some ⟨b2, 0, none⟩) k2 32])
  have ea := hA10
  rw [hA9, hA8, hA7, hA6, hA5, hA4, hA3, hA2, hA1, hA0] at ea
  simp only [put_lit, List.set_cons_succ, List.set_cons_zero] at ea
  rw [ea]
  go_wp2_with fail
  exact codes_ret rfl rfl rfl HBB.out info_codes HW.out
end Go.Proofs.YtbjjkhlebdaoaaaGreatDoor.BlkC
end
