/-
  gzip.Read: every call.
-/
import Derived.Test.YtilfmmjjiiabgaaGzC
import Derived.Deep.RegionHeld3
namespace Go.Proofs.Ytilfmmjjiiabgaa.GzC
open Go.RowKit Go.My GzMath

theorem mf : ∀ (fn : Fn) (first cap : Array Value) (w : World), (Instr.makeFunc fn first cap).run Try.prog w = .ok (.func fn first cap) w := fun _ _ _ _ => rfl
/-- The error's variable of a face that catches (a block of its own). -/
theorem read_idle (B : Nat) (w : World) (hc : w.cell? ⟨B, 0, none⟩ = some (.int .i64 0)) (hz : w.frozen? ⟨B, 0, none⟩ = false) :
    CallsD Try.prog 16 #[.pointer (some ⟨B, 0, none⟩)] .returning w fun e u' w' => e = .returned (.tuple #[]) ∧ u' = .returning ∧ w.setCell ⟨B, 0, none⟩ (.int .i64 0) = w' := by
  refine callsD_of_wpS Try.func16 rfl fun c₀ cs hu => ?_
  apply wpS_region
  simp [wpOpsS, go_sem, recoverD, hu, Try.ntmps16]
  refine (caught_nil w).mono ?_
  rintro e w' ⟨rfl, rfl⟩
  cases c₀
  simp_all [go_sem, bodyPostS, results, Try.results16]
theorem read_caught (B : Nat) (c at_ : Int) (older : List PanicEntry) (w : World) (hb0 : Blk w B 28 #[.int .i64 0]) :
    CallsD Try.prog 16 #[.pointer (some ⟨B, 0, none⟩)] (.panicking ({ v := fault c at_, recovered := false } :: older)) w fun e u' w' =>
      e = .returned (.tuple #[]) ∧ u' = .panicking ({ v := fault c at_, recovered := true } :: older) ∧ Blk w' B 28 #[.int .i64 c] ∧ Only (fun k => k = B) w w' := by
  have hB := hb0.lt
  refine callsD_of_wpS Try.func16 rfl fun c₀ cs hu => ?_
  apply wpS_region
  simp [wpOpsS, go_sem, recoverD, hu, Try.ntmps16]
  refine (caught_fault c at_ w).mono ?_
  rintro e w1 ⟨rfl, hb⟩
  have hb1 : Blk w1 B 28 #[.int .i64 0] := hb0.same (hb.block B hB)
  have h1 : w1.cell? ⟨B, 0, none⟩ = some (.int .i64 0) := hb1.cell 0
  have h2 : w1.frozen? ⟨B, 0, none⟩ = false := hb1.frozen 0
  have hs := hb1.set_ 0 (.int .i64 c)
  have ho : Only (fun k => k = B) w (w1.setCell ⟨B, 0, none⟩ (.int .i64 c)) := ((Only.of_below hb (fun k => B = k)).setCell (p := ⟨B, 0, none⟩) (fun _ => rfl) _).mono (fun _ _ h => h.symm)
  cases c₀
  simp [go_sem, bodyPostS, results, Try.results16, h1, h2]
  exact ⟨hs, ho⟩
/-- What Read answers. -/
noncomputable def readV : Got → Value
  | .bad c => .tuple #[headV false [] 0, .int .i64 0, .int .i64 (c : Int)]
  | .ok h => .tuple #[headV h.named h.name (ClkC.fromU (h.time : Int)), .int .i64 (h.n : Int), .int .i64 0]
set_option maxRecDepth 100000 in
set_option maxHeartbeats 4000000 in
theorem read_any (a : Option Addr) (len cap : Nat) (l : List UInt8) (w : World) (hb : Bytes w a len cap l) (hl : len ≤ 1099511627776) :
    Calls Try.prog 6 #[.slice a len cap] w fun e w' => e = .returned (readV (rd l)) ∧ Below w.heap.size w w' := by
  have hmf := mf
  have HI := Lib.hid (And.intro hb hl)
  clear hb hl
  go_enter_defers Try.func6, Try.ntmps6
  go_upto_region 3 with (fail)
  obtain ⟨g2, hg2⟩ : ∃ g2, g2 = w.heap.size := ⟨_, rfl⟩
  obtain ⟨w1, hw1⟩ : ∃ w1, w1 = ((w.alloc (.cells #[.bool false, .string ⟨#[]⟩, .float .f64 0] 27)).alloc (.cells #[.int .i64 0] 28)).alloc (.cells #[.slice a len cap, .int .i64 0] 49) := ⟨_, rfl⟩
  have hb1 : Below w.heap.size w w1 := by
    rw [hw1]
    exact (((Below.refl _ w).alloc (Nat.le_refl _) _).alloc (by simp) _).alloc (by simp; omega) _
  have k2 : Blk w1 g2 27 #[.bool false, .string ⟨#[]⟩, .float .f64 0] := by rw [hw1, hg2]; exact ((Blk.new w _ _).alloc _).alloc _
  have k4 : Blk w1 (g2 + 1) 28 #[.int .i64 0] := by
    have := (Blk.new (w.alloc (.cells #[.bool false, .string ⟨#[]⟩, .float .f64 0] 27)) 28 #[.int .i64 0]).alloc (.cells #[.slice a len cap, .int .i64 0] 49)
    rw [World.size_alloc, ← hg2] at this
    rw [hw1]; exact this
  have kx : Blk w1 (g2 + 1 + 1) 49 #[.slice a len cap, .int .i64 0] := by
    have := Blk.new ((w.alloc (.cells #[.bool false, .string ⟨#[]⟩, .float .f64 0] 27)).alloc (.cells #[.int .i64 0] 28)) 49 #[.slice a len cap, .int .i64 0]
    rw [World.size_alloc, World.size_alloc, ← hg2] at this
    rw [hw1]; exact this
  have hr1 : Rdr w1 (g2 + 1 + 1) a len cap l 0 w1 := by
    refine ⟨kx, HI.out.1.below (Nat.le_refl _) hb1, fun h0 b off e => ?_, Only.refl _ _, Nat.zero_le _, HI.out.2⟩
    rcases HI.out.1.at_ with h1 | ⟨b', off', e', hlt', -⟩
    · omega
    · rw [e] at e'; cases e'; omega
  rw [← hg2, ← hw1]
  obtain ⟨x, hx⟩ : ∃ x, x = g2 + 1 + 1 := ⟨_, rfl⟩
  obtain ⟨g4, hg4⟩ : ∃ g4, g4 = g2 + 1 := ⟨_, rfl⟩
  rw [← hx] at hr1
  rw [← hx, ← hg4]
  rw [← hg4] at k4
  have HB1 := Lib.hid hb1
  have HE := Lib.hid (show g2 = w.heap.size ∧ g4 = g2 + 1 ∧ x = g4 + 1 from ⟨hg2, hg4, by omega⟩)
  have K2 := Lib.hid k2
  have K4 := Lib.hid k4
  have HR1 := Lib.hid hr1
  clear hmf hg2 hw1 hb1 k2 k4 kx hr1 hx hg4
  have HQ := Lib.hid (head_any HR1)
  go_wp2_with fail
  refine HQ.out.mono ?_
  rintro e w2 (⟨c, hrd, hc, ⟨q, rfl⟩, ho⟩ | ⟨h, hrd, rfl, HR2⟩)
  · have K22 := Lib.hid (ho.blk K2.out (by have := HE.out; omega))
    have K42 := Lib.hid (ho.blk K4.out (by have := HE.out; omega))
    have HO2 := Lib.hid ho
    have HRD := Lib.hid hrd
    clear ho HQ HR1 hrd
    go_wp2_with fail
    refine leaves_cons (f := 16) (args := #[.pointer (some ⟨g4, 0, none⟩)]) (by simp) (by simp [go_sem]) ?_
    refine (read_caught g4 (c : Int) q [] _ K42.out).mono ?_
    rintro e u w3 ⟨rfl, rfl, k43, ho3⟩
    have k23 := ho3.blk K22.out (by have := HE.out; omega)
    have hc4 : w3.cell? ⟨g4, 0, none⟩ = some (.int .i64 (c : Int)) := k43.cell 0
    have d0 : w3.cell? ⟨g2, 0, none⟩ = some (.bool false) := k23.cell 0
    have d1 : w3.cell? ⟨g2, 1, none⟩ = some (.string ⟨#[]⟩) := k23.cell 1
    have d2 : w3.cell? ⟨g2, 2, none⟩ = some (.float .f64 0) := k23.cell 2
    simp [Leaves, settle, results, Try.results6, go_sem, hc4, d0, d1, d2]
    refine ⟨by rw [HRD.out]; rfl, HB1.out.trans ?_⟩
    have h12 := (HO2.out.mono (T := fun k => k = x ∨ k = g4) (fun _ _ h => .inl h)).trans (ho3.mono (T := fun k => k = x ∨ k = g4) (fun _ _ h => .inr h)) (fun _ _ h => h)
    exact h12.below HB1.out.size (fun k hk => by have := HE.out; omega)
  · have K22 := Lib.hid (HR2.out.only.blk K2.out (by have := HE.out; omega))
    have K42 := Lib.hid (HR2.out.only.blk K4.out (by have := HE.out; omega))
    have HRD := Lib.hid hrd
    obtain ⟨tf, htf⟩ : ∃ tf, tf = ClkC.fromU (h.time : Int) := ⟨_, rfl⟩
    unfold headV
    rw [← htf]
    have HTF := Lib.hid htf
    clear htf hrd HQ HR1
    go_wp2_with (first
        | (refine wpList_store_row rfl _ _ _ rfl g2 _ rfl rfl 27 #[.bool false, .string ⟨#[]⟩, .float .f64 0] K22.out (by kernel_rfl) rfl (by simp [Value.oneCell']) ?_))
    have hro := only_row w2 g2 #[.bool h.named, .string ⟨h.name.toArray⟩, .float .f64 tf]
    have K23 : Hid (Blk (w2.setRow g2 #[.bool h.named, .string ⟨h.name.toArray⟩, .float .f64 tf]) g2 27 #[.bool h.named, .string ⟨h.name.toArray⟩, .float .f64 tf]) := Lib.hid (setRow_heap _ _ _ _ _ _ K22.out)
    have K43 := Lib.hid (hro.blk K42.out (by have := HE.out; omega))
    have KX := Lib.hid (hro.blk HR2.out.blk (by have := HE.out; omega))
    have HO3 : Hid (Only (fun k => k = x ∨ k = g2 ∨ k = g4) w1 (w2.setRow g2 #[.bool h.named, .string ⟨h.name.toArray⟩, .float .f64 tf])) := Lib.hid ((HR2.out.only.mono (fun _ _ h => .inl h)).trans (hro.mono (T := fun k => k = x ∨ k = g2 ∨ k = g4) (fun _ _ h => .inr (.inl h))) (fun _ _ h => h))
    clear hro
    generalize w2.setRow g2 #[.bool h.named, .string ⟨h.name.toArray⟩, .float .f64 tf] = w3 at *
    have d0 : w3.cell? ⟨g2, 0, none⟩ = some (.bool h.named) := K23.out.cell 0
    have d1 : w3.cell? ⟨g2, 1, none⟩ = some (.string ⟨h.name.toArray⟩) := K23.out.cell 1
    have d2 : w3.cell? ⟨g2, 2, none⟩ = some (.float .f64 tf) := K23.out.cell 2
    have dx : w3.cell? ⟨x, 1, none⟩ = some (.int .i64 (h.n : Int)) := KX.out.cell 1
    have f0 : w3.frozen? ⟨g2, 0, none⟩ = false := K23.out.frozen 0
    have f1 : w3.frozen? ⟨g2, 1, none⟩ = false := K23.out.frozen 1
    have K24 : Blk ((w3.setCell ⟨g2, 0, none⟩ (.bool h.named)).setCell ⟨g2, 1, none⟩ (.string ⟨h.name.toArray⟩)).drew g2 27 #[.bool h.named, .string ⟨h.name.toArray⟩, .float .f64 tf] := ((K23.out.set_ 0 (.bool h.named)).set_ 1 (.string ⟨h.name.toArray⟩)).drew
    have hst := store_float ⟨g2, 2, none⟩ tf ((w3.setCell ⟨g2, 0, none⟩ (.bool h.named)).setCell ⟨g2, 1, none⟩ (.string ⟨h.name.toArray⟩)).drew _ (K24.cell 2) (K24.frozen 2)
    obtain ⟨w4, hw4⟩ : ∃ w4, w4 = ((w3.setCell ⟨g2, 0, none⟩ (.bool h.named)).setCell ⟨g2, 1, none⟩ (.string ⟨h.name.toArray⟩)).drew.setCell ⟨g2, 2, none⟩ (.float .f64 tf) := ⟨_, rfl⟩
    rw [← hw4] at hst
    have hon : Only (fun k => k = g2) w3 w4 := by
      rw [hw4]
      exact ((((Only.refl (fun k => g2 = k) w3).setCell (p := ⟨g2, 0, none⟩) (fun _ => rfl) _).setCell (p := ⟨g2, 1, none⟩) (fun _ => rfl) _).drew.setCell (p := ⟨g2, 2, none⟩) (fun _ => rfl) _).mono (fun _ _ h => h.symm)
    have K25 : Blk w4 g2 27 #[.bool h.named, .string ⟨h.name.toArray⟩, .float .f64 tf] := by rw [hw4]; exact K24.set_ 2 (.float .f64 tf)
    have k45 := hon.blk K43.out (by have := HE.out; omega)
    have c4 : w4.cell? ⟨g4, 0, none⟩ = some (.int .i64 0) := k45.cell 0
    have f4 : w4.frozen? ⟨g4, 0, none⟩ = false := k45.frozen 0
    have cx : w4.cell? ⟨x, 1, none⟩ = some (.int .i64 (h.n : Int)) := (hon.blk KX.out (by have := HE.out; omega)).cell 1
    have HON := Lib.hid (HO3.out.trans (hon.mono (T := fun k => k = x ∨ k = g2 ∨ k = g4) (fun _ _ h => .inr (.inl h))) (fun _ _ h => h))
    have HK25 := Lib.hid K25
    have HK45 := Lib.hid k45
    clear hw4 hon K24 K25 k45
    refine wp_region_noPanic ?_
    go_region
    all_goals
      refine NoPanic.normal ?_
      go_wp2_with fail
      clear hst d0 d1 d2 dx f0 f1 cx
      have ho5 : Only (fun k => k = g4) w4 (w4.setCell ⟨g4, 0, none⟩ (.int .i64 0)) := ((Only.refl (fun k => g4 = k) w4).setCell (p := ⟨g4, 0, none⟩) (fun _ => rfl) _).mono (fun _ _ h => h.symm)
      have K46 := HK45.out.set_ 0 (.int .i64 0)
      have K26 := ho5.blk HK25.out (by have := HE.out; omega)
      have HO5 := Lib.hid (HON.out.trans (ho5.mono (T := fun k => k = x ∨ k = g2 ∨ k = g4) (fun _ _ h => .inr (.inr h))) (fun _ _ h => h))
      clear ho5 c4 f4
      generalize w4.setCell ⟨g4, 0, none⟩ (.int .i64 0) = w5 at *
      refine leaves_cons (f := 16) (args := #[.pointer (some ⟨g4, 0, none⟩)]) (by simp) (by simp [go_sem]) ?_
      refine (read_idle g4 _ (K46.cell 0) (K46.frozen 0)).mono ?_
      rintro e u w6 ⟨rfl, rfl, rfl⟩
      have ho6 : Only (fun k => k = g4) w5 (w5.setCell ⟨g4, 0, none⟩ (.int .i64 0)) := ((Only.refl (fun k => g4 = k) w5).setCell (p := ⟨g4, 0, none⟩) (fun _ => rfl) _).mono (fun _ _ h => h.symm)
      have K47 := K46.set_ 0 (.int .i64 0)
      have K27 := ho6.blk K26 (by have := HE.out; omega)
      have HO6 := Lib.hid (HO5.out.trans (ho6.mono (T := fun k => k = x ∨ k = g2 ∨ k = g4) (fun _ _ h => .inr (.inr h))) (fun _ _ h => h))
      clear ho6
      generalize w5.setCell ⟨g4, 0, none⟩ (.int .i64 0) = w6 at *
      have hc4 : w6.cell? ⟨g4, 0, none⟩ = some (.int .i64 0) := K47.cell 0
      have d0 : w6.cell? ⟨g2, 0, none⟩ = some (.bool h.named) := K27.cell 0
      have d1 : w6.cell? ⟨g2, 1, none⟩ = some (.string ⟨h.name.toArray⟩) := K27.cell 1
      have d2 : w6.cell? ⟨g2, 2, none⟩ = some (.float .f64 tf) := K27.cell 2
      simp [Leaves, settle, results, Try.results6, go_sem, hc4, d0, d1, d2]
      refine ⟨by rw [HRD.out]; unfold readV headV; simp only; rw [← HTF.out], HB1.out.trans ?_⟩
      exact HO6.out.below HB1.out.size (fun k hk => by have := HE.out; omega)
end Go.Proofs.Ytilfmmjjiiabgaa.GzC
