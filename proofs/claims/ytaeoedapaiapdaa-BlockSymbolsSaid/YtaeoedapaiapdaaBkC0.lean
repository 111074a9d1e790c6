/-
  count of no tokens; what it hands back.
-/
import Derived.Test.YtaeoedapaiapdaaBkA
import Derived.Test.YtaeoedapaiapdaaBkCnt
import Derived.Test.YtaeoedapaiapdaaPkL0
import Derived.Test.YtaeoedapaiapdaaStepL
import Derived.Deep.RegionLaw
namespace Go.Proofs.Ytaeoedapaiapdaa.BlkC
open Go.RowKit Go.My BitMath
open LzMath (Tok May)
open LzC (TokIn tc)
open PkC (cel lv cel_zero cel_cell cel_upd)
open InfMath (Pc lp dp symL litc dstc xtr lite)

set_option maxRecDepth 100000 in
theorem make_ints (k : Nat) (hk : k ≤ 1000000) : ∀ W : World, (Instr.makeSlice 49 (.int .i64 (k : Int)) (.int .i64 (k : Int))).run Try.prog W = .ok (.slice (some ⟨W.heap.size, 0, none⟩) k k) (W.alloc (.cells (cel k fun _ => 0).toArray 3)) := by
  intro W
  have hi : (Try.prog.info? 3).map (fun i => (i.zero, i.size, i.bytes)) = some (some (.int .i64 0), 1, 8) := by kernel_rfl
  obtain ⟨i, hi, hz0, hz1, hz2⟩ := info_parts hi
  have hr := run_make (P := Try.prog) W 49 3 i (.int .i64 0) Try.underlying49 hi hz0 .i64 .i64 (k : Int) (k : Int) (by omega) (by omega) (by rw [hz2]; omega) (by omega)
  simp only [Int.toNat_natCast, hz1] at hr
  rw [hr]
  congr 3
  apply Array.ext'
  rw [Nat.mul_one]
  have e := toList_madeCells_one (.int .i64 0) k
  have e2 : Value.cells (.int .i64 0) = #[.int .i64 0] := rfl
  rw [e2, e, cel_zero]
/-- A tally in memory, of blocks of the call's own. -/
structure Tal (B : Nat) (w0 w : World) (gt g1 g2 : Nat) (F G : Nat → Nat) (x : Nat) : Prop where
  t : Blk w gt 58 #[.slice (some ⟨g1, 0, none⟩) 286 286, .slice (some ⟨g2, 0, none⟩) 32 32, .int .i64 (x : Int)]
  l : Blk w g1 3 (cel 286 F).toArray
  d : Blk w g2 3 (cel 32 G).toArray
  ne : g1 ≠ g2
  bt : B ≤ gt
  b1 : B ≤ g1
  b2 : B ≤ g2
  below : Below B w0 w
section
variable {B gt g1 g2 x : Nat} {w0 w w' : World} {F G : Nat → Nat}
theorem Tal.later (h : Tal B w0 w gt g1 g2 F G x) (hb : Below w.heap.size w w') : Tal B w0 w' gt g1 g2 F G x :=
  ⟨h.t.same (hb.block gt h.t.lt), h.l.same (hb.block g1 h.l.lt), h.d.same (hb.block g2 h.d.lt), h.ne, h.bt, h.b1, h.b2, h.below.trans (hb.mono (by have := h.bt; have := h.t.lt; omega))⟩
end
theorem blk1 (X : World) (cs : Array Value) (t : TypeId) (o2 o3 : Obj) : Blk (((X.alloc (.cells cs t)).alloc o2).alloc o3).drew X.heap.size t cs := ((Blk.new X t cs).alloc o2).alloc o3
theorem blk2 (X : World) (cs : Array Value) (t : TypeId) (o1 o3 : Obj) : Blk (((X.alloc o1).alloc (.cells cs t)).alloc o3).drew (X.heap.size + 1) t cs := by
  have h := (Blk.new (X.alloc o1) t cs).alloc o3
  rw [World.size_alloc] at h
  exact h
theorem blk3 (X : World) (cs : Array Value) (t : TypeId) (o1 o2 : Obj) : Blk (((X.alloc o1).alloc o2).alloc (.cells cs t)).drew (X.heap.size + 1 + 1) t cs := by
  have h := Blk.new ((X.alloc o1).alloc o2) t cs
  rw [World.size_alloc, World.size_alloc] at h
  exact h
set_option maxRecDepth 100000 in
theorem x_alloc {a : Act} {o : Oper} {w : World} (ho : o.op = .alloc 46) : (execOp a.eval o).run Try.prog w = .ok (.value (.pointer (some ⟨w.heap.size, 0, none⟩))) (w.alloc (.cells #[.int .i64 0, .int .i64 0, .int .i64 0] 46)) := by
  unfold execOp; rw [ho]
  go_simp
theorem below3 (X : World) (o1 o2 o3 : Obj) : Below X.heap.size X (((X.alloc o1).alloc o2).alloc o3).drew :=
  ((((Below.refl _ _).alloc (Nat.le_refl _) _).alloc (by rw [World.size_alloc]; omega) _).alloc (by rw [World.size_alloc, World.size_alloc]; omega) _).drew
theorem tal_zero {B : Nat} {w0 w : World} {gt g1 g2 : Nat} {Z1 Z2 : Array Value} (h1 : Z1 = (cel 286 fun _ => 0).toArray) (h2 : Z2 = (cel 32 fun _ => 0).toArray)
    (ht : Blk w gt 58 #[.slice (some ⟨g1, 0, none⟩) 286 286, .slice (some ⟨g2, 0, none⟩) 32 32, .int .i64 0]) (hl : Blk w g1 3 Z1) (hd : Blk w g2 3 Z2) (hn : g1 ≠ g2) (bt : B ≤ gt) (b1 : B ≤ g1) (b2 : B ≤ g2) (hb : Below B w0 w) :
    Tal B w0 w gt g1 g2 (fun _ => 0) (fun _ => 0) 0 := ⟨ht, by rw [← h1]; exact hl, by rw [← h2]; exact hd, hn, bt, b1, b2, hb⟩
/-- What count hands back. -/
def Counted (w : World) (F G : Nat → Nat) (x : Nat) (e : Ending) (w' : World) : Prop :=
  ∃ g1 g2, e = .returned (.agg #[.slice (some ⟨g1, 0, none⟩) 286 286, .slice (some ⟨g2, 0, none⟩) 32 32, .int .i64 (x : Int)]) ∧ Blk w' g1 3 (cel 286 F).toArray ∧ Blk w' g2 3 (cel 32 G).toArray ∧ w.heap.size ≤ g1 ∧ w.heap.size ≤ g2 ∧ g1 ≠ g2 ∧ Below w.heap.size w w'
theorem blk_ne {w : World} {a b : Nat} {t u : TypeId} {x y : Array Value} (h : Blk w a t x) (k : Blk w b u y) (hn : t ≠ u) : a ≠ b := by
  rintro rfl
  unfold Blk at h k
  rw [h] at k
  injection k with k
  injection k with k1 k2 k3
  exact hn k2
/-- The block's end is counted. -/
theorem tal_end {w0 X wr Z : World} {gt g1 g2 x v : Nat} {F G : Nat → Nat} {cs : Array Value} (h : Tal X.heap.size X wr gt g1 g2 F G x) (hX : Blk X w0.heap.size 58 cs) (hZ : Z = wr.setCell ⟨g1, 256, none⟩ (.int .i64 (v : Int))) :
    Tal X.heap.size X Z gt g1 g2 (fun j => if j = 256 then v else F j) G x ∧ Blk Z w0.heap.size 58 cs ∧ w0.heap.size < X.heap.size := by
  have hn1 : gt ≠ g1 := blk_ne h.t h.l (by decide)
  have hx := hX.lt
  have h1 := h.b1
  subst hZ
  refine ⟨⟨PkC.Blk.set_far h.t hn1 _ _, PkC.Blk.set_cel h.l 256 v, PkC.Blk.set_far h.d (Ne.symm h.ne) _ _, h.ne, h.bt, h.b1, h.b2, h.below.setCell (p := ⟨g1, 256, none⟩) h.b1 _⟩, PkC.Blk.set_far (hX.same (h.below.block _ hx)) (by omega) _ _, by omega⟩
theorem counted_of {w0 X Z : World} {gt g1 g2 x : Nat} {F F' G : Nat → Nat} (h : Tal X.heap.size X Z gt g1 g2 F G x) (hb : Below w0.heap.size w0 X) (hs : w0.heap.size < X.heap.size) (hF : ∀ j, j < 286 → F j = F' j) (a b c : Value) :
    Counted w0 F' G x (.returned (.agg #[.slice (some ⟨g1, 0, none⟩) 286 286, .slice (some ⟨g2, 0, none⟩) 32 32, .int .i64 (x : Int)])) (((Z.setCell ⟨w0.heap.size, 0, none⟩ a).setCell ⟨w0.heap.size, 1, none⟩ b).setCell ⟨w0.heap.size, 2, none⟩ c) := by
  have h1 := h.b1
  have h2 := h.b2
  have e : cel 286 F = cel 286 F' := by
    unfold cel
    refine List.map_congr_left fun j hj => ?_
    rw [hF j (by simpa using hj)]
  refine ⟨g1, g2, rfl, ?_, ?_, by omega, by omega, h.ne, ?_⟩
  · rw [← e]
    exact PkC.Blk.set_far (PkC.Blk.set_far (PkC.Blk.set_far h.l (by omega) _ _) (by omega) _ _) (by omega) _ _
  · exact PkC.Blk.set_far (PkC.Blk.set_far (PkC.Blk.set_far h.d (by omega) _ _) (by omega) _ _) (by omega) _ _
  · exact (((hb.trans (h.below.mono (by omega))).setCell (p := ⟨w0.heap.size, 0, none⟩) (Nat.le_refl _) a).setCell (p := ⟨w0.heap.size, 1, none⟩) (Nat.le_refl _) b).setCell (p := ⟨w0.heap.size, 2, none⟩) (Nat.le_refl _) c
theorem info_tal : (Try.prog.info? 58).map (·.size) = some 3 := by kernel_rfl
theorem tal_ret {a : Act} {w : World} {g : Nat} {cs : Array Value} {R : Ending → World → Prop} (hd : a.defers = []) (hp : a.tmps.getD 4 undef = .pointer (some ⟨g, 0, none⟩))
    (hg : Blk w g 58 cs) (hs : cs.size = 3) (h : R (.returned (.agg cs)) w) : bodyPost Try.prog Try.f27 R .ret a w :=
  bodyPost_ret (results_cell_row rfl _ _ g _ cs _ _ hp hg Try.underlying58 rfl (by rw [hs]; exact info_tal)) hd h
set_option maxRecDepth 100000 in
set_option maxHeartbeats 8000000 in
theorem count_nil (wide : Bool) (w : World) :
    Calls Try.prog 27 #[.slice none 0 0, .bool wide] w (Counted w (fun j => if j = 256 then 1 else 0) (fun _ => 0) 0) := by
  go_enter Try.func27, Try.ntmps27
  have hm1 := make_ints 286 (by omega)
  have hm2 := make_ints 32 (by omega)
  obtain ⟨Z1, hZ1⟩ : ∃ Z1, Z1 = (cel 286 fun _ => 0).toArray := ⟨_, rfl⟩
  obtain ⟨Z2, hZ2⟩ : ∃ Z2, Z2 = (cel 32 fun _ => 0).toArray := ⟨_, rfl⟩
  rw [← hZ1] at hm1
  rw [← hZ2] at hm2
  have hm1' : ∀ W : World, (Instr.makeSlice 49 (.int .i64 286) (.int .i64 286)).run Try.prog W = .ok (.slice (some ⟨W.heap.size, 0, none⟩) 286 286) (W.alloc (.cells Z1 3)) := hm1
  have hm2' : ∀ W : World, (Instr.makeSlice 49 (.int .i64 32) (.int .i64 32)).run Try.prog W = .ok (.slice (some ⟨W.heap.size, 0, none⟩) 32 32) (W.alloc (.cells Z2 3)) := hm2
  have HZ := Lib.hid (And.intro hZ1 hZ2)
  clear hm1 hm2 hZ1 hZ2
  obtain ⟨X, hX⟩ : ∃ X, X = w.alloc (.cells #[.slice none 0 0, .slice none 0 0, .int .i64 0] 58) := ⟨_, rfl⟩
  go_upto_region 1 with (fail)
  rw [← hX]
  have HBX : Hid (Blk X w.heap.size 58 #[.slice none 0 0, .slice none 0 0, .int .i64 0]) := Lib.hid (by rw [hX]; exact Blk.new w _ _)
  have HXB : Hid (Below w.heap.size w X) := Lib.hid (by rw [hX]; exact (Below.refl _ _).alloc (Nat.le_refl _) _)
  clear hX
  have hB : X.heap.size ≤ X.heap.size := Nat.le_refl _
  go_cut [5] (fun v wr => ∃ gt g1 g2, v = .pointer (some ⟨gt, 0, none⟩) ∧ Hid (Tal X.heap.size X wr gt g1 g2 (fun _ => 0) (fun _ => 0) 0))
  case first =>
    go_region
    all_goals
      go_wp2_with fail
      go_meet
      case rel =>
        first
          | exact ⟨_, _, _, rfl, Lib.hid (tal_zero HZ.out.1 HZ.out.2 (blk1 _ _ _ _ _) (blk2 _ _ _ _ _) (blk3 _ _ _ _ _) (by omega) (by omega) (by omega) (by omega) (below3 _ _ _ _))⟩
          | exact ⟨_, _, _, rfl, Lib.hid (tal_zero HZ.out.1 HZ.out.2 (blk1 _ _ _ _ _) (blk3 _ _ _ _ _) (blk2 _ _ _ _ _) (by omega) (by omega) (by omega) (by omega) (below3 _ _ _ _))⟩
          | exact ⟨_, _, _, rfl, Lib.hid (tal_zero HZ.out.1 HZ.out.2 (blk2 _ _ _ _ _) (blk1 _ _ _ _ _) (blk3 _ _ _ _ _) (by omega) (by omega) (by omega) (by omega) (below3 _ _ _ _))⟩
          | exact ⟨_, _, _, rfl, Lib.hid (tal_zero HZ.out.1 HZ.out.2 (blk2 _ _ _ _ _) (blk3 _ _ _ _ _) (blk1 _ _ _ _ _) (by omega) (by omega) (by omega) (by omega) (below3 _ _ _ _))⟩
          | exact ⟨_, _, _, rfl, Lib.hid (tal_zero HZ.out.1 HZ.out.2 (blk3 _ _ _ _ _) (blk1 _ _ _ _ _) (blk2 _ _ _ _ _) (by omega) (by omega) (by omega) (by omega) (below3 _ _ _ _))⟩
          | exact ⟨_, _, _, rfl, Lib.hid (tal_zero HZ.out.1 HZ.out.2 (blk3 _ _ _ _ _) (blk2 _ _ _ _ _) (blk1 _ _ _ _ _) (by omega) (by omega) (by omega) (by omega) (below3 _ _ _ _))⟩
  case rest =>
    obtain ⟨gt, g1, g2, rfl, HT⟩ := hcut
    clear hm1' hm2' hB
    go_wp2_with fail
    go_loopw [15] (fun iv wr => iv = .int .i64 0 ∧ Hid (Tal X.heap.size X wr gt g1 g2 (fun _ => 0) (fun _ => 0) 0)) (fun _ _ => 0)
    case atStart => exact ⟨rfl, HT⟩
    case round =>
      clear HT HZ
      obtain ⟨rfl, HT⟩ := hrel
      have hn1 : gt ≠ g1 := blk_ne HT.out.t HT.out.l (by decide)
      have t0 : wr.cell? ⟨gt, 0, none⟩ = some (.slice (some ⟨g1, 0, none⟩) 286 286) := HT.out.t.cell 0
      have l0 : wr.cell? ⟨g1, 256, none⟩ = some (.int .i64 0) := cel_cell HT.out.l 256 (by omega)
      have f0 := HT.out.l.frozen 256
      go_upto_region 13 with (fail)
      obtain ⟨Z, hZ⟩ : ∃ Z, Z = wr.setCell ⟨g1, 256, none⟩ (.int .i64 1) := ⟨_, rfl⟩
      rw [← hZ]
      have HFin := Lib.hid (tal_end HT.out HBX.out (v := 1) hZ)
      clear hZ t0 l0 f0 HT HBX
      have t0 : Z.cell? ⟨gt, 0, none⟩ = some (.slice (some ⟨g1, 0, none⟩) 286 286) := HFin.out.1.t.cell 0
      have t1 : Z.cell? ⟨gt, 1, none⟩ = some (.slice (some ⟨g2, 0, none⟩) 32 32) := HFin.out.1.t.cell 1
      have t2 : Z.cell? ⟨gt, 2, none⟩ = some (.int .i64 0) := HFin.out.1.t.cell 2
      have r0 : Z.cell? ⟨w.heap.size, 0, none⟩ = some (.slice none 0 0) := HFin.out.2.1.cell 0
      have r1 : Z.cell? ⟨w.heap.size, 1, none⟩ = some (.slice none 0 0) := HFin.out.2.1.cell 1
      have r2 : Z.cell? ⟨w.heap.size, 2, none⟩ = some (.int .i64 0) := HFin.out.2.1.cell 2
      have f0 := HFin.out.2.1.frozen 0
      have f1 := HFin.out.2.1.frozen 1
      have f2 := HFin.out.2.1.frozen 2
      go_wp2_with fail
      have HB3 := ((HFin.out.2.1.set_ 0 (.slice (some ⟨g1, 0, none⟩) 286 286)).set_ 1 (.slice (some ⟨g2, 0, none⟩) 32 32)).set_ 2 (.int .i64 0)
      refine tal_ret rfl rfl HB3 rfl (counted_of HFin.out.1 HXB.out HFin.out.2.2 (fun j _ => ?_) _ _ _)
      by_cases hj : j = 256
      · subst hj; rfl
      · simp only [if_neg hj]
end Go.Proofs.Ytaeoedapaiapdaa.BlkC
