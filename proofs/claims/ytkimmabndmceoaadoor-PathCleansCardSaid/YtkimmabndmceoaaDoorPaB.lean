/-
  strings.SplitSeq(s, "/"): its iterator hands out the parts of s, in order.
-/
import Derived.Test.YtkimmabndmceoaaDoorPaA
import Derived.Test.YtkimmabndmceoaaDoorSeq
import Derived.RangeFuncLeaves
import Derived.RangeFuncCalls
import Derived.WalkKit
import Derived.OwnWalkIn
import Derived.TacticsInMore
import Derived.LoopNIn
import Derived.LoopIn
namespace Go.Proofs.YtkimmabndmceoaaDoor.PaC
open Go.RowKit Go.My PaMath

attribute [local go_sem] Oper.semAt_some

/-- The iterator's three boxes, ahead of the first round. -/
def Boxes (g : Nat) (s : ByteArray) (W : World) : Prop := Blk W g 9 #[.string s] ∧ Blk W (g + 1) 9 #[.string ⟨#[47]⟩] ∧ Blk W (g + 2) 3 #[.int .i64 0]

theorem seq_new (s : ByteArray) (w : World) :
    Calls Tryd.prog 23 #[.string s, .string ⟨#[47]⟩] w fun e w' => e = .returned (.func (.func 48) #[] #[.pointer (some ⟨w.heap.size + 1, 0, none⟩), .pointer (some ⟨w.heap.size, 0, none⟩), .pointer (some ⟨w.heap.size + 2, 0, none⟩)]) ∧
      Boxes w.heap.size s w' ∧ Below w.heap.size w w' ∧ w'.heap.size = w.heap.size + 3 := by
  go_enter Tryd.func23, Tryd.ntmps23
  go_wp2
  go_ret
  refine ⟨by simp, ⟨?_, ?_, ?_⟩, ?_, by simp⟩
  · exact ((Blk.new _ _ _).alloc _).alloc _
  · have := (Blk.new (w.alloc (.cells #[.string s] 9)) 9 #[.string ⟨#[47]⟩]).alloc (.cells #[.int .i64 0] 3)
    rwa [World.size_alloc] at this
  · have := Blk.new ((w.alloc (.cells #[.string s] 9)).alloc (.cells #[.string ⟨#[47]⟩] 9)) 3 #[.int .i64 0]
    rwa [World.size_alloc, World.size_alloc] at this
  · exact (((Below.refl _ _).alloc (Nat.le_refl _) _).alloc (by simp) _).alloc (by simp; omega) _

/-- What is handed to round r. -/
def handed (s : ByteArray) (r : Nat) : Array Value := #[.string (tx ((parts (lst s)).getD r []))]
theorem drop_one (s rest : List UInt8) (k : Nat) (h : parts rest = (parts s).drop k) (h1 : parts rest = [rest]) : k + 1 = (parts s).length ∧ (parts s).getD k [] = rest := by
  rw [h1] at h
  have hl := congrArg List.length h
  simp only [List.length_drop, List.length_cons, List.length_nil] at hl
  refine ⟨by omega, ?_⟩
  have := congrArg (·.head?) h
  simp only [List.head?_cons, List.head?_drop] at this
  rw [List.getD_eq_getElem?_getD, ← this]; rfl
theorem drop_more (s rest p q : List UInt8) (k : Nat) (h : parts rest = (parts s).drop k) (h1 : parts rest = p :: parts q) : k + 1 < (parts s).length ∧ (parts s).getD k [] = p ∧ parts q = (parts s).drop (k + 1) := by
  rw [h1] at h
  have hl := congrArg List.length h
  have hq : 0 < (parts q).length := List.length_pos_iff.2 (parts_ne q)
  simp only [List.length_drop, List.length_cons] at hl
  refine ⟨by omega, ?_, ?_⟩
  · have := congrArg (·.head?) h
    simp only [List.head?_cons, List.head?_drop] at this
    rw [List.getD_eq_getElem?_getD, ← this]; rfl
  · have := congrArg List.tail h
    simpa [List.tail_drop] using this
/-- The blocks of the iterator. -/
def BoxS (g : Nat) : Nat → Prop := fun k => k = g ∨ k = g + 1 ∨ k = g + 2
/-- How much is left. -/
def left_ (g : Nat) (W : World) : Nat := match W.cell? ⟨g, 0, none⟩ with
  | some (.string r) => r.size
  | _ => 0
theorem left_eq {g : Nat} {W : World} {t : TypeId} {r : ByteArray} (h : Blk W g t #[.string r]) : left_ g W = r.size := by
  unfold left_
  rw [h.cell 0]
  rfl
set_option maxRecDepth 100000 in
set_option maxHeartbeats 4000000 in
theorem seq_in (n : Nat) (hn : 3 ≤ n) (g : Nat) (s : ByteArray) (hs : s.size ≤ 1000000) (w : World) (hB : Boxes g s w) :
    InSeq Fence.wide n Tryd.prog 48 #[.pointer (some ⟨g + 1, 0, none⟩), .pointer (some ⟨g, 0, none⟩), .pointer (some ⟨g + 2, 0, none⟩)] (handed s) (parts (lst s)).length g (BoxS g) w := by
  intro l J Jx W hW hM hY h0
  have HM := Lib.hid hM
  have HY := Lib.hid hY
  have H0 := Lib.hid h0
  have H00 := Lib.hid (hW _ _ _ (.inl rfl) hB.1)
  have HB1 := Lib.hid (hW _ _ _ (.inr (.inl rfl)) hB.2.1)
  have HB2 := Lib.hid (hW _ _ _ (.inr (.inr rfl)) hB.2.2)
  have c1 := HB1.out.cell 0
  simp only [List.getElem?_toArray, List.getElem?_cons_zero] at c1
  clear hM hY h0 hW hB
  refine callsIn_of_wp Tryd.func48 rfl trivial ?_ rfl
  simp only [Tryd.ntmps48, List.size_toArray, List.length_cons, List.length_nil, Nat.reduceAdd, Nat.reduceSub, Array.replicate_succ, Array.replicate_zero, List.push_toArray, List.append_toArray, List.nil_append, List.cons_append]
  gi_wp2
  clear c1
  gi_loopw [7, 8] (fun _ _ wr => ∃ (k : Nat) (rest : ByteArray), Hid (Blk wr g 9 #[.string rest]) ∧ Hid (Blk wr (g + 1) 9 #[.string ⟨#[47]⟩]) ∧ Hid (Blk wr (g + 2) 3 #[.int .i64 0]) ∧ k < (parts (lst s)).length ∧ Hid (parts (lst rest) = (parts (lst s)).drop k) ∧ rest.size ≤ 1000000 ∧ Hid (J k wr)) (fun _ _ wr => left_ g wr)
  case atStart => exact ⟨0, s, H00, HB1, HB2, List.length_pos_iff.2 (parts_ne _), Lib.hid (by simp), hs, H0⟩
  case round =>
    clear H0 H00 HB1 HB2
    obtain ⟨k, rest, H0, H1, H2, hk, HP, hrs, HJ⟩ := hrel
    have c0 : wr.cell? ⟨g, 0, none⟩ = some (.string rest) := H0.out.cell 0
    have c1 : wr.cell? ⟨g + 1, 0, none⟩ = some (.string ⟨#[47]⟩) := H1.out.cell 0
    have c2 : wr.cell? ⟨g + 2, 0, none⟩ = some (.int .i64 0) := H2.out.cell 0
    have f0 : wr.frozen? ⟨g, 0, none⟩ = false := H0.out.frozen 0
    rcases index_parts (lst rest) with ⟨hx, hp⟩ | ⟨i, hx, hi, hp⟩
    · -- the last part
      have hd := drop_one _ _ _ HP.out hp
      obtain ⟨fn, tmps, assign, body, hy, hR⟩ := HY.out k wr hk HJ.out
      unfold handed at hy
      rw [hd.2, tx_lst] at hy
      have HR := Lib.hid hR
      have HX := Lib.hid hx
      have HD := Lib.hid hd
      clear hx hd hR hp
      gi_wp2_with fail
      refine ⟨trivial, fun _ => by omega, (callsIn_wide.2 (index_any rest wr)).mono ?_⟩
      rintro e w' ⟨rfl, rfl⟩
      rw [HX.out]
      gi_wp2_with fail
      refine ⟨fun _ => by omega, HR.out.mono ?_⟩
      rintro e W' h
      have HH : Hid ((∃ v, e = .returned v) ∧ (J (parts (lst s)).length W' ∨ ∃ r, r < (parts (lst s)).length ∧ Jx r W')) := by
        rcases h with ⟨he, h, _⟩ | ⟨he, h⟩
        · exact Lib.hid ⟨⟨_, he⟩, .inl (by rw [← HD.out.1]; exact h)⟩
        · exact Lib.hid ⟨⟨_, he⟩, .inr ⟨k, hk, h⟩⟩
      clear h hy
      obtain ⟨⟨v, rfl⟩, hh⟩ := HH.out
      have H9 := Lib.hid hh
      clear HH hh
      gi_wp2_with fail
      go_end0
      exact ⟨⟨_, rfl⟩, H9.out⟩
    · -- a part, and more
      have hd := drop_more _ _ _ _ _ HP.out hp
      obtain ⟨fn, tmps, assign, body, hy, hR⟩ := HY.out k wr hk HJ.out
      unfold handed at hy
      rw [hd.2.1, ← lst_take, tx_lst] at hy
      have hi9 : i < rest.size := by rw [lst_size]; exact hi
      have e0 : IntKind.i64.wrap ((i : Int) + 0) = (i : Int) := by rw [IntKind.wrap_i64]; omega
      have e1 : IntKind.i64.wrap ((i : Int) + 1) = (i : Int) + 1 := by rw [IntKind.wrap_i64]; omega
      have HR := Lib.hid hR
      have HX := Lib.hid hx
      have HD := Lib.hid hd
      clear hx hd hR hp hi
      gi_wp2_with fail
      refine ⟨trivial, fun _ => by omega, (callsIn_wide.2 (index_any rest wr)).mono ?_⟩
      rintro e w' ⟨rfl, rfl⟩
      rw [HX.out]
      gi_wp2_with fail
      refine ⟨fun _ => by omega, HR.out.mono ?_⟩
      rintro e W' (⟨rfl, hJ, hK⟩ | ⟨rfl, hJ⟩)
      · have HJ2 := Lib.hid hJ
        have K0 := Lib.hid (hK _ _ _ (.inl rfl) H0.out)
        have K1 := Lib.hid (hK _ _ _ (.inr (.inl rfl)) H1.out)
        have K2 := Lib.hid (hK _ _ _ (.inr (.inr rfl)) H2.out)
        have d0 : W'.cell? ⟨g, 0, none⟩ = some (.string rest) := K0.out.cell 0
        have d1 : W'.cell? ⟨g + 1, 0, none⟩ = some (.string ⟨#[47]⟩) := K1.out.cell 0
        have g0 : W'.frozen? ⟨g, 0, none⟩ = false := K0.out.frozen 0
        clear hJ hK hy c0 c1 c2 f0
        gi_wp2_with fail
        have B0 : Blk (W'.setCell ⟨g, 0, none⟩ (.string (rest.extract (i + 1) rest.size))) g 9 #[.string (rest.extract (i + 1) rest.size)] := K0.out.set_ 0 _
        have hO : Only (fun k => k = g) W' (W'.setCell ⟨g, 0, none⟩ (.string (rest.extract (i + 1) rest.size))) := (Only.refl (fun k => k = g) W').setCell (p := ⟨g, 0, none⟩) (fun _ => rfl) _
        refine ⟨⟨k + 1, rest.extract (i + 1) rest.size, Lib.hid B0, Lib.hid (hO.blk K1.out (by omega)), Lib.hid (hO.blk K2.out (by omega)), HD.out.1, Lib.hid ?_, ?_, Lib.hid (HM.out _ _ _ HJ2.out ⟨_, rfl⟩)⟩, ?_⟩
        · rw [lst_drop]; exact HD.out.2.2
        · rw [ByteArray.size_extract]; omega
        · rw [left_eq B0, left_eq H0.out, ByteArray.size_extract]; omega
      · have HJ2 := Lib.hid hJ
        clear hJ hy
        gi_wp2_with fail
        refine bodyPost_ret (results_none rfl _ _ _) rfl ?_
        exact ⟨⟨_, rfl⟩, .inr ⟨k, hk, HJ2.out⟩⟩
end Go.Proofs.YtkimmabndmceoaaDoor.PaC
