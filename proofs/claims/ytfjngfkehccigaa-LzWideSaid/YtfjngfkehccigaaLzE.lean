/-
  Expand: what it recovers, what it hands back.
-/
import Derived.Test.YtfjngfkehccigaaLzD
namespace Go.Proofs.Ytfjngfkehccigaa.LzC
open Go.RowKit Go.My LzMath WinMath WinC

theorem own_from {E : TypeId} {B B' : Nat} {w : World} {v : Value} {l : List UInt8} (h : Own E B w v l) (hB : B' ≤ B) : Own E B' w v l := by
  refine ⟨h.1, ?_⟩
  rcases h.2 with hn | ⟨g, cap, cur, h1, h2, rest⟩
  · exact .inl hn
  · exact .inr ⟨g, cap, cur, h1, Nat.le_trans hB h2, rest⟩
theorem caught_nil (w : World) : Calls Try.prog 17 #[.nilIface] w fun e w' => e = .returned (.tuple #[.int .i64 0, .int .i64 0]) ∧ w = w' := by
  go_enter Try.func17, Try.ntmps17
  go_wp2_with fail
  go_ret2
  exact ⟨rfl, rfl⟩
theorem below_drewN {B : Nat} {a b : World} (h : Below B a b) (n : Nat) : Below B a (b.drewN n) := ⟨h.os, h.tape, h.output, h.size, h.block⟩
set_option maxRecDepth 100000 in
theorem caught_fault (c at_ : Int) (w : World) : Calls Try.prog 17 #[fault c at_] w fun e w' => e = .returned (.tuple #[.int .i64 at_, .int .i64 c]) ∧ Below w.heap.size w w' := by
  unfold fault
  have hta : ∀ w, (Instr.typeAssert (.iface 45 (.agg #[.int .i64 c, .int .i64 at_])) 20 45 true).run Try.prog w = .ok (.tuple #[.agg #[.int .i64 c, .int .i64 at_], .bool true]) w := fun _ => by kernel_rfl
  go_enter Try.func17, Try.ntmps17
  go_upto_region 7 with (fail)
  go_quiet (fail)
  go_wp2_with fail
  go_ret2
  exact ⟨rfl, below_drewN ((Below.refl _ _).alloc (Nat.le_refl _) _) nq⟩

section
variable {A B : Nat} {w : World} {x y : Value}
/-- Both results' cells are set. -/
theorem set_both (hA : Blk w A 3 #[x]) (hB : Blk w B 30 #[y]) (hAB : A ≠ B) (u v : Value) :
    Blk ((w.setCell ⟨A, 0, none⟩ u).setCell ⟨B, 0, none⟩ v) A 3 #[u] ∧ Blk ((w.setCell ⟨A, 0, none⟩ u).setCell ⟨B, 0, none⟩ v) B 30 #[v] ∧ Only (fun k => k = A ∨ k = B) w ((w.setCell ⟨A, 0, none⟩ u).setCell ⟨B, 0, none⟩ v) := by
  have o1 : Only (fun k => A = k) w (w.setCell ⟨A, 0, none⟩ u) := (Only.refl _ w).setCell (p := ⟨A, 0, none⟩) (fun _ => rfl) _
  have o2 : Only (fun k => B = k) (w.setCell ⟨A, 0, none⟩ u) ((w.setCell ⟨A, 0, none⟩ u).setCell ⟨B, 0, none⟩ v) := (Only.refl _ _).setCell (p := ⟨B, 0, none⟩) (fun _ => rfl) _
  exact ⟨o2.blk (hA.set_ 0 u) (fun h => hAB h.symm), (o1.blk hB hAB).set_ 0 v, (o1.mono (fun _ _ h => .inl h.symm)).trans (o2.mono (T := fun k => k = A ∨ k = B) (fun _ _ h => .inr h.symm)) (fun _ _ h => h)⟩
end
set_option maxRecDepth 100000 in
theorem idle (A B : Nat) (x y : Value) (w : World) (hA : Blk w A 3 #[x]) (hB : Blk w B 30 #[y]) (hAB : A ≠ B) :
    CallsD Try.prog 16 #[.pointer (some ⟨A, 0, none⟩), .pointer (some ⟨B, 0, none⟩)] .returning w fun e u' w' => e = .returned (.tuple #[]) ∧ u' = .returning ∧ Blk w' A 3 #[.int .i64 0] ∧ Blk w' B 30 #[.int .i64 0] ∧ Only (fun k => k = A ∨ k = B) w w' := by
  have hca : w.cell? ⟨A, 0, none⟩ = some x := hA.cell 0
  have hcb : w.cell? ⟨B, 0, none⟩ = some y := hB.cell 0
  have hfa := hA.frozen 0
  have hfb := hB.frozen 0
  refine callsD_of_wpS Try.func16 rfl fun c₀ cs hu => ?_
  apply wpS_region
  simp [wpOpsS, go_sem, recoverD, hu, Try.ntmps16]
  refine (caught_nil w).mono ?_
  rintro e w' ⟨rfl, rfl⟩
  cases c₀
  simp_all [go_sem, bodyPostS, results, Try.results16]
  exact set_both hA hB hAB _ _
set_option maxRecDepth 100000 in
theorem caught_ (A B : Nat) (x y : Value) (c at_ : Int) (older : List PanicEntry) (w : World) (hA : Blk w A 3 #[x]) (hB : Blk w B 30 #[y]) (hAB : A ≠ B) :
    CallsD Try.prog 16 #[.pointer (some ⟨A, 0, none⟩), .pointer (some ⟨B, 0, none⟩)] (.panicking ({ v := fault c at_, recovered := false } :: older)) w fun e u' w' =>
      e = .returned (.tuple #[]) ∧ u' = .panicking ({ v := fault c at_, recovered := true } :: older) ∧ Blk w' A 3 #[.int .i64 at_] ∧ Blk w' B 30 #[.int .i64 c] ∧ Only (fun k => k = A ∨ k = B) w w' := by
  refine callsD_of_wpS Try.func16 rfl fun c₀ cs hu => ?_
  apply wpS_region
  simp [wpOpsS, go_sem, recoverD, hu, Try.ntmps16]
  refine (caught_fault c at_ w).mono ?_
  rintro e w1 ⟨rfl, hb⟩
  have hA1 := hA.same (hb.block A hA.lt)
  have hB1 := hB.same (hb.block B hB.lt)
  have hca : w1.cell? ⟨A, 0, none⟩ = some x := hA1.cell 0
  have hcb : w1.cell? ⟨B, 0, none⟩ = some y := hB1.cell 0
  have hfa := hA1.frozen 0
  have hfb := hB1.frozen 0
  cases c₀
  simp [go_sem, bodyPostS, results, Try.results16, hca, hcb, hfa, hfb]
  obtain ⟨h1, h2, h3⟩ := set_both hA1 hB1 hAB (.int .i64 at_) (.int .i64 c)
  exact ⟨h1, h2, (Only.of_below hb _).trans h3 (fun _ _ h => h)⟩

theorem mf : ∀ (fn : Fn) (first cap : Array Value) (w : World), (Instr.makeFunc fn first cap).run Try.prog w = .ok (.func fn first cap) w := fun _ _ _ _ => rfl

/-- What Expand hands back where token K is the first that may not stand there. -/
def Expanded (f : Nat → Tok) (len K : Nat) (w : World) (e : Ending) (w' : World) : Prop :=
  Below w.heap.size w w' ∧ (K = len ∧ (∃ a c, e = .returned (.tuple #[.slice a (tot f len) c, .int .i64 0, .int .i64 0]) ∧ Own 5 w.heap.size w' (.slice a (tot f len) c) (ex f len)) ∨ K < len ∧ e = .returned (.tuple #[.slice none 0 0, .int .i64 (K : Int), .int .i64 2]))

set_option maxRecDepth 100000 in
set_option maxHeartbeats 8000000 in
theorem expand_all (wide : Bool) (a : Option Addr) (len c : Nat) (f : Nat → Tok) (K : Nat) (w : World) (h : TokIn w a len c f) (hE : EndsT wide f len K) (ht : tot f len ≤ 1000000) :
    Calls Try.prog 12 #[.slice a len c, .bool wide] w (Expanded f len K w) := by
  have hmf := mf
  obtain ⟨w1, hw1⟩ : ∃ w1, w1 = (w.alloc (.cells #[.int .i64 0] 3)).alloc (.cells #[.int .i64 0] 30) := ⟨_, rfl⟩
  have hb1 : Below w.heap.size w w1 := by rw [hw1]; exact ((Below.refl _ _).alloc (Nat.le_refl _) _).alloc (by simp) _
  have hA : Blk w1 w.heap.size 3 #[.int .i64 0] := by rw [hw1]; exact (Blk.new w _ _).alloc _
  have hB : Blk w1 (w.heap.size + 1) 30 #[.int .i64 0] := by
    rw [hw1]
    have := Blk.new (w.alloc (.cells #[.int .i64 0] 3)) 30 #[.int .i64 0]
    rw [World.size_alloc] at this
    exact this
  have hsz : w1.heap.size = w.heap.size + 2 := by rw [hw1]; simp
  have HB1 := Lib.hid hb1
  have HA := Lib.hid hA
  have HB := Lib.hid hB
  have H := Lib.hid (h.below (Nat.le_refl _) hb1)
  have HS := Lib.hid hsz
  have HE := Lib.hid hE
  clear h hb1 hA hB hsz hE
  go_enter_defers Try.func12, Try.ntmps12
  go_upto_region 2 with (fail)
  rw [← hw1]
  clear hw1 hmf
  have HSZ : Hid (w.heap.size ≤ w1.heap.size) := Lib.hid HB1.out.size
  obtain ⟨B, hBe⟩ : ∃ B, B = w.heap.size + 1 := ⟨_, rfl⟩
  rw [← hBe] at HB ⊢
  obtain ⟨A, hAe⟩ : ∃ A, A = w.heap.size := ⟨_, rfl⟩
  rw [← hAe] at HA ⊢
  have HW : Hid (A = w.heap.size ∧ B = w.heap.size + 1 ∧ A ≠ B) := Lib.hid ⟨hAe, hBe, by omega⟩
  clear hAe hBe
  go_wp2_with fail
  refine (measure_any wide a len c f K w1 H.out HE.out ht).mono ?_
  rintro e w2 ⟨hm, hb⟩
  have HA2 := Lib.hid (HA.out.same (hb.block A HA.out.lt))
  have HB2 := Lib.hid (HB.out.same (hb.block B HB.out.lt))
  have H2 := Lib.hid (H.out.below (Nat.le_refl _) hb)
  have HBL2 := Lib.hid (HB1.out.trans (hb.mono HSZ.out))
  clear HA HB H HB1 HSZ hb
  rcases hm with ⟨rfl, rfl⟩ | ⟨hK, rfl⟩
  · go_wp2_with fail
    refine (expand_any wide a K c f w2 H2.out HE.out.good ht).mono ?_
    rintro e w3 ⟨a', c', rfl, hown, hb⟩
    rw [ex_len] at hown
    have hA3 := HA2.out.same (hb.block A HA2.out.lt)
    have hB3 := HB2.out.same (hb.block B HB2.out.lt)
    have HBL3 := Lib.hid (HBL2.out.trans (hb.mono HBL2.out.size))
    have HO := Lib.hid hown
    have HSZ := Lib.hid HBL2.out.size
    have HAB2 := Lib.hid (And.intro HA2.out.lt HB2.out.lt)
    have hca : w3.cell? ⟨A, 0, none⟩ = some (.int .i64 0) := hA3.cell 0
    have hB4 : Blk (w3.setCell ⟨A, 0, none⟩ (.int .i64 0)) B 30 #[.int .i64 0] := ((Only.refl (fun k => A = k) w3).setCell (p := ⟨A, 0, none⟩) (fun _ => rfl) _).blk hB3 HW.out.2.2
    have hcb : (w3.setCell ⟨A, 0, none⟩ (.int .i64 0)).cell? ⟨B, 0, none⟩ = some (.int .i64 0) := hB4.cell 0
    have hfa := hA3.frozen 0
    have hfb := hB4.frozen 0
    have hel := ex_len f K
    have HX := Lib.hid (set_both hA3 hB3 HW.out.2.2 (.int .i64 0) (.int .i64 0))
    rw [hel]
    clear hb hown hA3 hB3 hB4 HA2 HB2 H2 HBL2 hel
    go_wp2_with fail
    clear hca hcb hfa hfb
    generalize (w3.setCell ⟨A, 0, none⟩ (.int .i64 0)).setCell ⟨B, 0, none⟩ (.int .i64 0) = w4 at *
    refine leaves_cons (f := 16) (args := #[.pointer (some ⟨A, 0, none⟩), .pointer (some ⟨B, 0, none⟩)]) (by simp) (by simp [go_sem]) ?_
    refine (idle A B _ _ w4 HX.out.1 HX.out.2.1 HW.out.2.2).mono ?_
    rintro e u' w5 ⟨rfl, rfl, hA5, hB5, hO5⟩
    have hca : w5.cell? ⟨A, 0, none⟩ = some (.int .i64 0) := hA5.cell 0
    have hcb : w5.cell? ⟨B, 0, none⟩ = some (.int .i64 0) := hB5.cell 0
    simp [Leaves, settle, results, Try.results12, go_sem, hca, hcb]
    have hO : Only (fun k => k = A ∨ k = B) w3 w5 := HX.out.2.2.trans hO5 (fun _ _ h => h)
    have hbig : ∀ k, k = A ∨ k = B → w.heap.size ≤ k := fun k hk => by have := HW.out; omega
    refine ⟨HBL3.out.trans (hO.below HBL3.out.size hbig), .inl ⟨rfl, a', c', rfl, ?_⟩⟩
    refine hO.own (own_from HO.out HSZ.out) (fun k hk hS => ?_)
    have h1 := (World.ownsRow.lt HO.out k hk).1
    have h2 := HAB2.out
    rcases hS with rfl | rfl <;> omega
  · go_wp2_with fail
    refine leaves_cons (f := 16) (args := #[.pointer (some ⟨A, 0, none⟩), .pointer (some ⟨B, 0, none⟩)]) (by simp) (by simp [go_sem]) ?_
    refine (caught_ A B _ _ 2 (K : Int) [] w2 HA2.out HB2.out HW.out.2.2).mono ?_
    rintro e u' w5 ⟨rfl, rfl, hA5, hB5, hO5⟩
    have hca : w5.cell? ⟨A, 0, none⟩ = some (.int .i64 (K : Int)) := hA5.cell 0
    have hcb : w5.cell? ⟨B, 0, none⟩ = some (.int .i64 2) := hB5.cell 0
    simp [Leaves, settle, results, Try.results12, go_sem, hca, hcb]
    have hbig : ∀ k, k = A ∨ k = B → w.heap.size ≤ k := fun k hk => by have := HW.out; omega
    exact ⟨HBL2.out.trans (hO5.below HBL2.out.size hbig), .inr ⟨hK, rfl⟩⟩
end Go.Proofs.Ytfjngfkehccigaa.LzC
