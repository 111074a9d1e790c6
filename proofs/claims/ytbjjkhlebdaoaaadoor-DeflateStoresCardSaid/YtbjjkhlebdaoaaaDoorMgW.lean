import Derived.Test.YtbjjkhlebdaoaaaDoorRows
import Derived.Test.YtbjjkhlebdaoaaaDoorMgA
import Derived.Test.YtbjjkhlebdaoaaaDoorMgB
import Derived.Laws.Pointers
import Derived.StillTailTactics
import Derived.Deep.RegionLaw
import Derived.Deep.QuietTactic
import Derived.BigQuiet
import Derived.Deep.DeepCutAuto
import Derived.Deep.CutBlock
import Derived.Test.YtbjjkhlebdaoaaaDoorMgX

section
/-
  A window behind a pointer: New, after, Have, Total, Put.
-/
namespace Go.Proofs.YtbjjkhlebdaoaaaDoor.WinC
open Go.RowKit Go.My WinMath

theorem info5 : (Tryd.prog.info? 5).map (fun i => (i.zero, i.size, i.bytes)) = some (some (.int .u8 0), 1, 1) := by kernel_rfl

/-- A Window's block: its size S, its ring l (the slice v), the next place, how many there were. -/
structure WnAt (B : Nat) (w : World) (g S : Nat) (v : Value) (l : List UInt8) (next total : Nat) : Prop where
  blk : Blk w g 152 #[.int .i64 (S : Int), v, .int .i64 (next : Int), .int .i64 (total : Int)]
  own : Own 5 B w v l
  base : B ≤ g
/-- A window of S bytes behind all these bytes; its ring lies in block r. -/
def Wn (B : Nat) (w : World) (g S : Nat) (r : Option Nat) (all : List UInt8) : Prop :=
  ∃ v l next, WnAt B w g S v l next all.length ∧ v.ownBlock = r ∧ Ring S all l next ∧ 0 < S ∧ S ≤ 65536

section
variable {B g S : Nat} {w w' : World} {v : Value} {l all : List UInt8} {next total : Nat} {r : Option Nat} {T : Nat → Prop}
theorem WnAt.far (h : WnAt B w g S v l next total) : v.ownBlock ≠ some g := own_len_ne h.own h.blk (by decide)
theorem WnAt.only (h : WnAt B w g S v l next total) (hk : Only T w w') (hg : ¬ T g) (hr : ∀ k, v.ownBlock = some k → ¬ T k) : WnAt B w' g S v l next total :=
  ⟨hk.blk h.blk hg, hk.own h.own hr, h.base⟩
theorem Wn.only (h : Wn B w g S r all) (hk : Only T w w') (hg : ¬ T g) (hr : ∀ k, r = some k → ¬ T k) : Wn B w' g S r all := by
  obtain ⟨v, l, next, h1, rfl, h2⟩ := h
  exact ⟨v, l, next, h1.only hk hg hr, rfl, h2⟩
theorem Wn.below (h : Wn B w g S r all) (hk : Below w.heap.size w w') : Wn B w' g S r all := h.only (Only.of_below hk (fun _ => False)) (fun h => h) (fun _ _ h => h)
theorem Wn.lt (h : Wn B w g S r all) : g < w.heap.size := by
  obtain ⟨v, l, next, h1, _⟩ := h
  exact h1.blk.lt
theorem Wn.rlt (h : Wn B w g S r all) : ∀ k, r = some k → B ≤ k ∧ k < w.heap.size := by
  obtain ⟨v, l, next, h1, rfl, _⟩ := h
  exact fun k hk => World.ownsRow.lt h1.own k hk
theorem Wn.base (h : Wn B w g S r all) : B ≤ g := by
  obtain ⟨v, l, next, h1, _⟩ := h
  exact h1.base
theorem Wn.fp (h : Wn B w g S r all) : ∀ k, Fp g r k → B ≤ k := by
  rintro k (rfl | hk)
  · exact h.base
  · exact (h.rlt k hk).1
theorem Wn.flt (h : Wn B w g S r all) : ∀ k, Fp g r k → k < w.heap.size := by
  rintro k (rfl | hk)
  · exact h.lt
  · exact (h.rlt k hk).2
end

theorem wn_new (w : World) (S : Nat) (h1 : 0 < S) (h2 : S ≤ 65536) : Wn w.heap.size (w.alloc (.cells #[.int .i64 (S : Int), .slice none 0 0, .int .i64 0, .int .i64 0] 152)) w.heap.size S none [] :=
  ⟨.slice none 0 0, [], 0, ⟨Blk.new w _ _, Own.nil _ _ _, Nat.le_refl _⟩, rfl, Ring.nil S, h1, h2⟩

theorem new_ok (S : Nat) (w : World) (h1 : 0 < S) (h2 : S ≤ 65536) : Calls Tryd.prog 75 #[.int .i64 (S : Int)] w fun e w' =>
    e = .returned (.tuple #[.pointer (some ⟨w.heap.size, 0, none⟩), .int .i64 0]) ∧ Wn w.heap.size w' w.heap.size S none [] ∧ Below w.heap.size w w' := by
  have hn := wn_new w S h1 h2
  have H := Lib.hid (And.intro hn ((Below.refl w.heap.size w).alloc (Nat.le_refl _) (.cells #[.int .i64 (S : Int), .slice none 0 0, .int .i64 0, .int .i64 0] 152)))
  clear hn
  have h3 : ¬ (S : Int) < 1 := by omega
  have h4 : ¬ 65536 < (S : Int) := by omega
  go_enter Tryd.func75, Tryd.ntmps75
  go_wp2_with fail
  go_ret2
  exact ⟨rfl, H.out.1, H.out.2⟩

theorem after_any (B g S n : Nat) (v : Value) (l : List UInt8) (next total : Nat) (w : World) (h : WnAt B w g S v l next total) (hS : S ≤ 65536) (hn : n < S) :
    Calls Tryd.prog 88 #[.pointer (some ⟨g, 0, none⟩), .int .i64 (n : Int)] w fun e w' => e = .returned (.int .i64 ((after S n : Nat) : Int)) ∧ w = w' := by
  have hc := h.blk.cell 0
  simp only [List.getElem?_toArray, List.getElem?_cons_zero] at hc
  clear h
  by_cases he : n + 1 = S
  · have HC : Hid (after S n = 0) := Lib.hid (by unfold after; rw [if_pos he])
    have h1 : (n : Int) + 1 = (S : Int) := by omega
    go_enter Tryd.func88, Tryd.ntmps88
    go_wp2_with fail
    go_ret
    exact ⟨by rw [HC.out]; rfl, rfl⟩
  · have HC : Hid (after S n = n + 1) := Lib.hid (by unfold after; rw [if_neg he])
    have h1 : ¬ (n : Int) + 1 = (S : Int) := by omega
    go_enter Tryd.func88, Tryd.ntmps88
    go_wp2_with fail
    go_ret
    exact ⟨by rw [HC.out]; rfl, rfl⟩

theorem have_any (B g S : Nat) (r : Option Nat) (all : List UInt8) (w : World) (h : Wn B w g S r all) :
    Calls Tryd.prog 89 #[.pointer (some ⟨g, 0, none⟩)] w fun e w' => e = .returned (.int .i64 ((min all.length S : Nat) : Int)) ∧ w = w' := by
  obtain ⟨v, l, next, h1, h2, h3, h4⟩ := h
  have hc := h1.blk.cell 1
  simp only [List.getElem?_toArray, List.getElem?_cons_zero, List.getElem?_cons_succ] at hc
  obtain ⟨a0, c0, rfl, -⟩ := h1.own.bytes
  have HL := Lib.hid h3.len
  clear h1 h2 h3 h4
  go_enter Tryd.func89, Tryd.ntmps89
  go_wp2_with fail
  go_ret
  exact ⟨by rw [HL.out]; rfl, rfl⟩
end Go.Proofs.YtbjjkhlebdaoaaaDoor.WinC
end

section
/-
  Put on a window: one byte more.
-/
namespace Go.Proofs.YtbjjkhlebdaoaaaDoor.WinC
open Go.RowKit Go.My WinMath

/-- What a call on a window leaves: all bytes, a ring that may be a new one. -/
def Left (B g S : Nat) (r : Option Nat) (w : World) (all : List UInt8) (w' : World) : Prop :=
  ∃ r', Wn B w' g S r' all ∧ Only (Fp g r) w w' ∧ Nxt r w.heap.size r'
theorem Left.refl {B g S : Nat} {r : Option Nat} {w : World} {all : List UInt8} (h : Wn B w g S r all) : Left B g S r w all w := ⟨r, h, Only.refl _ _, Nxt.refl _ _⟩

section
variable {B g S : Nat} {w w2 : World} {v v' : Value} {l l' : List UInt8} {next total : Nat}
theorem WnAt.set_total (h : WnAt B w g S v l next total) (t : Nat) (T : Int) (hT : T = (t : Int)) : WnAt B (w.setCell ⟨g, 3, none⟩ (.int .i64 T)) g S v l next t := by
  subst hT
  have hO : Only (fun k => g = k) w (w.setCell ⟨g, 3, none⟩ (.int .i64 (t : Int))) := (Only.refl _ w).setCell (p := ⟨g, 3, none⟩) (fun _ => rfl) _
  exact ⟨h.blk.set_ 3 _, hO.own h.own (fun k hk e => h.far (by rw [hk, ← e])), h.base⟩
theorem WnAt.set_next (h : WnAt B w g S v l next total) (t : Nat) : WnAt B (w.setCell ⟨g, 2, none⟩ (.int .i64 (t : Int))) g S v l t total := by
  have hO : Only (fun k => g = k) w (w.setCell ⟨g, 2, none⟩ (.int .i64 (t : Int))) := (Only.refl _ w).setCell (p := ⟨g, 2, none⟩) (fun _ => rfl) _
  exact ⟨h.blk.set_ 2 _, hO.own h.own (fun k hk e => h.far (by rw [hk, ← e])), h.base⟩
theorem WnAt.set_ring {o : Obj} (h : WnAt B w g S v l next total) (hown : Own 5 B w2 v' l') (hg : (w.alloc o).grownBy w2 v.ownBlock) : WnAt B (w2.setCell ⟨g, 1, none⟩ v') g S v' l' next total := by
  have hb2 := (h.blk.alloc o).grown hg (Ne.symm h.far)
  have hfar := own_len_ne hown hb2 (by decide)
  have hO : Only (fun k => g = k) w2 (w2.setCell ⟨g, 1, none⟩ v') := (Only.refl _ w2).setCell (p := ⟨g, 1, none⟩) (fun _ => rfl) _
  exact ⟨hb2.set_ 1 _, hO.own hown (fun k hk e => hfar (by rw [hk, ← e])), h.base⟩
theorem WnAt.set_byte {a n c : Nat} (h : WnAt B w g S (.slice (some ⟨a, 0, none⟩) n c) l next total) (hn : l.length = n) (i : Nat) (b : UInt8) : WnAt B (w.setCell ⟨a, i, none⟩ (bv b)) g S (.slice (some ⟨a, 0, none⟩) n c) (l.set i b) next total := by
  have hne : a ≠ g := fun e => h.far (by rw [e]; rfl)
  have hO : Only (fun k => a = k) w (w.setCell ⟨a, i, none⟩ (bv b)) := (Only.refl _ w).setCell (p := ⟨a, i, none⟩) (fun _ => rfl) _
  exact ⟨hO.blk h.blk hne, own_store h.own hn i b, h.base⟩
end

theorem left_end {B g S : Nat} {r : Option Nat} {w w4 : World} {v' : Value} {l' all' : List UInt8} {next n2 : Nat} {T : Nat} (h : WnAt B w4 g S v' l' next T) (hT : T = all'.length) (hO : Only (Fp g r) w w4) (hN : Nxt r w.heap.size v'.ownBlock) (hR : Ring S all' l' n2) (hS : 0 < S) (hS2 : S ≤ 65536) :
    Left B g S r w all' (w4.setCell ⟨g, 2, none⟩ (.int .i64 (n2 : Int))) :=
  ⟨v'.ownBlock, ⟨v', l', n2, hT ▸ h.set_next n2, rfl, hR, hS, hS2⟩, hO.setCell (p := ⟨g, 2, none⟩) (fun _ => .inl rfl) _, hN⟩

set_option maxRecDepth 100000 in
set_option maxHeartbeats 4000000 in
theorem put_any (c : UInt8) (B g S : Nat) (r : Option Nat) (all : List UInt8) (w : World) (h : Wn B w g S r all) (hl : all.length ≤ 100000000000) :
    Calls Tryd.prog 76 #[.pointer (some ⟨g, 0, none⟩), .int .u8 (c.toNat : Int)] w fun e w' => e = .returned (.tuple #[]) ∧ Left B g S r w (all ++ [c]) w' := by
  obtain ⟨v, l, next, hat, rfl, hring, hS, hS2⟩ := h
  obtain ⟨a0, c0, rfl, -⟩ := hat.own.bytes
  have hc3 := hat.blk.cell 3
  have hf3 := hat.blk.frozen 3
  simp only [List.getElem?_toArray, List.getElem?_cons_zero, List.getElem?_cons_succ] at hc3
  have hat1 := hat.set_total (all.length + 1) ((all.length : Int) + 1) (by omega)
  have HO1 : Hid (Only (Fp g (Value.ownBlock (.slice a0 l.length c0))) w (w.setCell ⟨g, 3, none⟩ (.int .i64 ((all.length : Int) + 1)))) := Lib.hid ((Only.refl _ w).setCell (p := ⟨g, 3, none⟩) (fun _ => .inl rfl) _)
  have HA := Lib.hid hat1
  have HR := Lib.hid hring
  have hSz : ((S : Int) == 0) = false := by simp; omega
  clear hat hat1 hring
  go_enter Tryd.func76, Tryd.ntmps76
  go_upto_region 2 with (fail)
  generalize w.setCell ⟨g, 3, none⟩ (.int .i64 ((all.length : Int) + 1)) = w1 at *
  clear hc3 hf3
  have hc0 := HA.out.blk.cell 0
  have hc1 := HA.out.blk.cell 1
  simp only [List.getElem?_toArray, List.getElem?_cons_zero, List.getElem?_cons_succ] at hc0 hc1
  have hnS : next < S := HR.out.lt hS
  by_cases hlt : l.length < S
  · go_upto_region 3 with (fail)
    go_quiet (fail)
    have HO2 := Lib.hid (HO1.out.drewN nq)
    have HA2 := Lib.hid (HA.out.only ((Only.refl (fun _ => False) w1).drewN nq) (fun h => h) (fun _ _ h => h))
    clear HO1 HA hc0 hc1
    generalize w1.drewN nq = w2 at *
    have hc1 := HA2.out.blk.cell 1
    simp only [List.getElem?_toArray, List.getElem?_cons_zero, List.getElem?_cons_succ] at hc1
    have hB : B ≤ w2.heap.size := by have := HA2.out.base; have := HA2.out.blk.lt; omega
    have hb1 : Bytes (w2.alloc (.cells #[.int .u8 (c.toNat : Int)] 5)) (some ⟨w2.heap.size, 0, none⟩) 1 1 [c] := one_bytes 5 w2 c
    have ho1 : Own 5 B (w2.alloc (.cells #[.int .u8 (c.toNat : Int)] 5)) (.slice a0 l.length c0) l := HA2.out.own.below (Nat.le_refl _) ((Below.refl _ w2).alloc (Nat.le_refl _) _)
    have HB1 := Lib.hid hb1
    have HO := Lib.hid ho1
    clear hb1 ho1
    go_wp2_with (at_builtin; refine wpList_append_lie (by rfl) (.tmp 32) (.tmp 34) 22 (by rfl) B 5 Tryd.underlying22 info5 (.slice a0 l.length c0) l (by rfl) HO.out (some ⟨w2.heap.size, 0, none⟩) 1 1 [c] (by rfl) HB1.out (by omega) (by simp; omega) ?_)
    intro a1 c1 w3 hown hgrow hnext
    have hO3 : Only (Fp g (Value.ownBlock (.slice a0 l.length c0))) w w3 := (HO2.out.alloc _).grown hgrow (fun k _ hk => .inr hk)
    have ha3 := HA2.out.set_ring hown hgrow
    have hbk := (HA2.out.blk.alloc (.cells #[.int .u8 (c.toNat : Int)] 5)).grown hgrow (Ne.symm HA2.out.far)
    have HA3 := Lib.hid ha3
    have HO3 := Lib.hid (hO3.setCell (p := ⟨g, 1, none⟩) (fun _ => .inl rfl) (.slice a1 (l.length + 1) c1))
    have HN3 : Hid (Nxt (Value.ownBlock (.slice a0 l.length c0)) w.heap.size (Value.ownBlock (.slice a1 (l.length + 1) c1))) := Lib.hid (by
      rcases hnext with h | ⟨k, h, hk⟩
      · exact .inl h
      · exact .inr ⟨k, h, by have := HO2.out.size; omega⟩)
    have hb1 := hbk.cell 1
    have hf1 := hbk.frozen 1
    simp only [List.getElem?_toArray, List.getElem?_cons_zero, List.getElem?_cons_succ] at hb1
    clear hO3 ha3 hbk hown hgrow hnext HO HB1 HA2 HO2 hc1
    go_upto_region 6 with (fail)
    generalize w3.setCell ⟨g, 1, none⟩ (.slice a1 (l.length + 1) c1) = w4 at *
    have hd2 := HA3.out.blk.cell 2
    have hg2 := HA3.out.blk.frozen 2
    simp only [List.getElem?_toArray, List.getElem?_cons_zero, List.getElem?_cons_succ] at hd2
    clear hb1 hf1
    go_wp2_with fail
    refine (after_any B g S next _ _ _ _ w4 HA3.out hS2 hnS).mono ?_
    rintro e w' ⟨rfl, rfl⟩
    go_wp2_with fail
    go_end0
    exact ⟨rfl, left_end HA3.out (by simp) HO3.out HN3.out (HR.out.push hS c hlt) hS hS2⟩
  · have hlen : l.length = S := by have := HR.out.le; omega
    obtain ⟨a, cc, hv, -⟩ := HA.out.own.some_ (by omega)
    simp only [Value.slice.injEq] at hv
    obtain ⟨rfl, -, -⟩ := hv
    have hnl : next < l.length := by omega
    go_upto_region 3 with (fail)
    go_quiet (fail)
    have HO2 := Lib.hid (HO1.out.drewN nq)
    have HA2 := Lib.hid (HA.out.only ((Only.refl (fun _ => False) w1).drewN nq) (fun h => h) (fun _ _ h => h))
    clear HO1 HA hc0 hc1
    generalize w1.drewN nq = w2 at *
    have hc1 := HA2.out.blk.cell 1
    have hc2 := HA2.out.blk.cell 2
    simp only [List.getElem?_toArray, List.getElem?_cons_zero, List.getElem?_cons_succ] at hc1 hc2
    go_upto_region 5 with (fail)
    go_still_tail 10, (by kernel_rfl)
    clear hc1 hc2
    have HO3 := Lib.hid HO2.out.drew
    have HA3 := Lib.hid (HA2.out.only ((Only.refl (fun _ => False) w2).drew) (fun h => h) (fun _ _ h => h))
    clear HO2 HA2
    change wpList _ _ _ _ _ w2.drew
    generalize w2.drew = w3 at *
    have hc1 := HA3.out.blk.cell 1
    have hc2 := HA3.out.blk.cell 2
    simp only [List.getElem?_toArray, List.getElem?_cons_zero, List.getElem?_cons_succ] at hc1 hc2
    have hce := own_cell HA3.out.own rfl next hnl
    have hfr := own_free HA3.out.own rfl next
    have ha4 := HA3.out.set_byte rfl next c
    unfold bv at hce ha4
    have HA4 := Lib.hid ha4
    have HO4 := Lib.hid (HO3.out.setCell (p := ⟨a, next, none⟩) (fun _ => .inr rfl) (.int .u8 (c.toNat : Int)))
    clear ha4 HO3
    go_upto_region 6 with (fail)
    generalize w3.setCell ⟨a, next, none⟩ (.int .u8 (c.toNat : Int)) = w4 at *
    have hd2 := HA4.out.blk.cell 2
    have hg2 := HA4.out.blk.frozen 2
    simp only [List.getElem?_toArray, List.getElem?_cons_zero, List.getElem?_cons_succ] at hd2
    clear hce hfr hc1 hc2
    go_wp2_with fail
    refine (after_any B g S next _ _ _ _ w4 HA4.out hS2 hnS).mono ?_
    rintro e w' ⟨rfl, rfl⟩
    go_wp2_with fail
    go_end0
    exact ⟨rfl, left_end HA4.out (by simp) HO4.out (.inl rfl) (HR.out.put hS c hlt) hS hS2⟩
end Go.Proofs.YtbjjkhlebdaoaaaDoor.WinC
end

section
/-
  Copy on a window.
-/
namespace Go.Proofs.YtbjjkhlebdaoaaaDoor.WinC
open Go.RowKit Go.My WinMath

/-- The row that Copy fills, behind k rounds. -/
def lst (all : List UInt8) (d n k : Nat) : List UInt8 := copy all d k ++ List.replicate (n - k) 0
theorem lst_len (all : List UInt8) (d n k : Nat) (h : k ≤ n) : (lst all d n k).length = n := by unfold lst; simp [copy_len]; omega
theorem lst_set (all : List UInt8) (d n k : Nat) (h : k < n) : (lst all d n k).set k ((grow all d k).getD ((grow all d k).length - d) 0) = lst all d n (k + 1) := by
  unfold lst
  rw [List.set_append_right _ _ (by rw [copy_len]; omega), copy_len, Nat.sub_self, show n - k = (n - (k + 1)) + 1 from by omega, List.replicate_succ, List.set_cons_zero, copy_succ, List.append_assoc]
  rfl

/-- What Copy's rounds keep: the window behind all', the row. -/
structure Cp (B g S : Nat) (r : Option Nat) (W : Nat) (w1 : World) (gb n : Nat) (all row : List UInt8) (wr : World) (r' : Option Nat) : Prop where
  wn : Wn B wr g S r' all
  only : Only (fun j => Fp g r j ∨ j = gb) w1 wr
  next : Nxt r w1.heap.size r'
  own : Own 5 W wr (.slice (some ⟨gb, 0, none⟩) n n) row
  gne : gb ≠ g
  rne : r ≠ some gb
  glt : gb < w1.heap.size

section
variable {B g S W gb n : Nat} {r r' : Option Nat} {w1 wr w' : World} {all all' row : List UInt8}
theorem Cp.rne' (h : Cp B g S r W w1 gb n all row wr r') : r' ≠ some gb := by
  rcases h.next with e | ⟨j, e, hj⟩
  · rw [e]; exact h.rne
  · intro e2
    rw [e] at e2
    injection e2 with e2
    have := h.glt
    omega
theorem Cp.store (h : Cp B g S r W w1 gb n all row wr r') (hn : row.length = n) (k : Nat) (x : UInt8) : Cp B g S r W w1 gb n all (row.set k x) (wr.setCell ⟨gb, k, none⟩ (bv x)) r' := by
  have hO : Only (fun j => gb = j) wr (wr.setCell ⟨gb, k, none⟩ (bv x)) := (Only.refl _ wr).setCell (p := ⟨gb, k, none⟩) (fun _ => rfl) _
  exact ⟨h.wn.only hO h.gne (fun j hj e => h.rne' (by rw [hj, ← e])), h.only.setCell (p := ⟨gb, k, none⟩) (fun _ => .inr rfl) _, h.next, own_store h.own hn k x, h.gne, h.rne, h.glt⟩
theorem Cp.put (h : Cp B g S r W w1 gb n all row wr r') (hp : Left B g S r' wr all' w') : ∃ r2, Cp B g S r W w1 gb n all' row w' r2 := by
  obtain ⟨r2, h1, h2, h3⟩ := hp
  refine ⟨r2, h1, h.only.trans h2 (fun i hi e => ?_), h.next.trans h3 h.only.size, ?_, h.gne, h.rne, h.glt⟩
  · rcases e with rfl | e
    · exact .inl (.inl rfl)
    · rcases h.next with e2 | ⟨j, e2, hj⟩
      · exact .inl (.inr (by rw [← e2]; exact e))
      · rw [e2] at e
        injection e with e
        omega
  · refine h2.own h.own (fun j hj e => ?_)
    injection hj with hj
    subst hj
    rcases e with e | e
    · exact h.gne e
    · exact h.rne' e
end

def Copied (B g S : Nat) (r : Option Nat) (all : List UInt8) (d n : Nat) (w : World) (e : Ending) (w' : World) : Prop :=
  ∃ b, e = .returned (.tuple #[.slice (some ⟨b, 0, none⟩) n n, .int .i64 0]) ∧ Own 5 w.heap.size w' (.slice (some ⟨b, 0, none⟩) n n) (copy all d n) ∧ Left B g S r w (grow all d n) w'

set_option maxRecDepth 100000 in
set_option maxHeartbeats 4000000 in
theorem copy_ok (d n B g S : Nat) (r : Option Nat) (all : List UInt8) (w : World) (hw : Wn B w g S r all) (hn : n ≤ 65538) (h1 : 1 ≤ d) (h2 : d ≤ min all.length S) (hl : all.length ≤ 10000000000) :
    Calls Tryd.prog 77 #[.pointer (some ⟨g, 0, none⟩), .int .i64 (d : Int), .int .i64 (n : Int)] w (Copied B g S r all d n w) := by
  have H := Lib.hid hw
  have HB := Lib.hid hw.base
  obtain ⟨v, l, next, hat, hr0, hring, hS, hS2⟩ := hw
  have hc0 := hat.blk.cell 0
  have hc2 := hat.blk.cell 2
  simp only [List.getElem?_toArray, List.getElem?_cons_zero, List.getElem?_cons_succ] at hc0 hc2
  have h3 : ¬ (n : Int) < 0 := by omega
  have h4 : ¬ 65538 < (n : Int) := by omega
  have h5 : ¬ (d : Int) < 1 := by omega
  have hfr := hring.from_ hS d h1 (by rw [hring.len]; omega)
  have hnx := hring.lt hS
  obtain ⟨F, hF⟩ : ∃ F, F = (all.length - d) % S := ⟨_, rfl⟩
  rw [← hF] at hfr
  have HF := Lib.hid hF
  clear hF
  have h6 : ¬ (min all.length S : Nat) < d := by omega
  obtain ⟨M, hM⟩ : ∃ M, M = min all.length S := ⟨_, rfl⟩
  rw [← hM] at h6 h2
  have HM := Lib.hid hM
  clear hM hat hring hr0
  go_enter Tryd.func77, Tryd.ntmps77
  go_wp2_with fail
  refine (have_any B g S r all w H.out).mono ?_
  rw [← HM.out]
  rintro e w' ⟨rfl, rfl⟩
  go_upto_if 32 with (fail)
  go_cut [8] (fun v wc => v = .int .i64 (F : Int) ∧ wc = w)
  case first =>
    by_cases hneg : (next : Int) - (d : Int) < 0
    · rw [if_pos hneg] at hfr
      go_wp2_with fail
      go_meet
      case rel => exact ⟨rfl, rfl⟩
    · rw [if_neg hneg] at hfr
      go_wp2_with fail
      go_meet
      case rel => exact ⟨rfl, rfl⟩
  obtain ⟨rfl, rfl⟩ := hcut
  clear hc0 hc2 hfr hnx next h6
  go_wp2_with (at_make; refine wpList_make_bytes _ rfl (.tmp 39) (.tmp 39) 22 rfl wc.heap.size 5 Tryd.underlying22 info5 .i64 .i64 n rfl rfl (by omega) (Nat.le_refl _) ?_)
  intro w1 hown hg
  have HB1 : Hid (Below wc.heap.size wc w1) := Lib.hid (grown_none_below (Below.refl wc.heap.size wc) hg (Nat.le_refl _))
  have hlt := (World.ownsRow.lt hown wc.heap.size rfl).2
  have HC : Hid (Cp B g S r wc.heap.size w1 wc.heap.size n (grow all d 0) (lst all d n 0) w1 r) := Lib.hid (by
    refine ⟨H.out.below HB1.out, Only.refl _ _, Nxt.refl _ _, ?_, ?_, ?_, hlt⟩
    · unfold lst; rw [copy_zero]; simpa using hown
    · have := H.out.lt; omega
    · intro e; have := (H.out.rlt _ e).2; omega)
  clear hown hg hlt
  go_wp2_with fail
  generalize hgb : wc.heap.size = gb at *
  have HGB := Lib.hid hgb
  clear hgb
  go_loopw [8, 42] (fun f i wr => ∃ (k : Nat) (r' : Option Nat), k ≤ n ∧ i = .int .i64 (k : Int) ∧ f = .int .i64 (((all.length + k - d) % S : Nat) : Int) ∧ Hid (Cp B g S r gb w1 gb n (grow all d k) (lst all d n k) wr r')) (fun _ i _ => n - (intOf i).toNat)
  case atStart => exact ⟨0, r, Nat.zero_le _, rfl, by rw [HF.out]; rfl, HC⟩
  case round =>
    clear HC
    obtain ⟨k, r', hk, rfl, rfl, HC⟩ := hrel
    by_cases hlt : k < n
    · obtain ⟨v, l, next, hat, -, hring, -, -⟩ := HC.out.wn
      have hgl := grow_len all d k
      obtain ⟨hFl, hFe⟩ := hring.get d h1 (by rw [hring.len, hgl]; have := HM.out; omega)
      have hll := hring.len
      obtain ⟨a, cc, rfl, -⟩ := hat.own.some_ (show 0 < l.length by omega)
      have hnx : after S ((all.length + k - d) % S) = (all.length + (k + 1) - d) % S := by
        rw [after_mod _ _ hS]; congr 1; have := HM.out; omega
      rw [hgl] at hFl hFe
      have hx : l[(all.length + k - d) % S] = (grow all d k).getD ((grow all d k).length - d) 0 := by
        rw [List.getD_eq_getElem?_getD, hgl, ← hFe, List.getElem?_eq_getElem hFl]; rfl
      have hce := own_cell hat.own rfl _ hFl
      rw [hx] at hce
      have hls := lst_len all d n k hk
      have hset := lst_set all d n k hlt
      have hgs := grow_succ all d k
      have hFS : (all.length + k - d) % S < S := Nat.mod_lt _ hS
      generalize (grow all d k).getD ((grow all d k).length - d) 0 = x at hce hset hgs
      have HNX := Lib.hid hnx
      have HGS := Lib.hid hgs
      have HGL := Lib.hid hgl
      clear hnx hFe hx hring hgs hgl
      obtain ⟨Fk, hFk⟩ : ∃ Fk, Fk = (all.length + k - d) % S := ⟨_, rfl⟩
      rw [← hFk] at hce hFl hFS HNX ⊢
      clear hFk
      have hc1 := hat.blk.cell 1
      simp only [List.getElem?_toArray, List.getElem?_cons_zero, List.getElem?_cons_succ] at hc1
      have hck := own_cell HC.out.own hls k (by omega)
      have hfk := own_free HC.out.own hls k
      unfold bv at hce hck
      generalize (lst all d n k)[k] = y at hck
      have hst := HC.out.store hls k x
      have hgx : (lst all d n (k + 1))[k]? = some x := by rw [← hset, List.getElem?_set_self (by omega)]
      rw [hset] at hst
      unfold bv at hst
      have HST := Lib.hid hst
      clear hst hset hls hat hll
      go_upto_region 13 with (fail)
      generalize wr.setCell ⟨gb, k, none⟩ (.int .u8 (x.toNat : Int)) = w2 at *
      clear hck hfk hc1 hce
      have hck : w2.cell? ⟨gb, k, none⟩ = some (.int .u8 (x.toNat : Int)) := by
        have hls := lst_len all d n (k + 1) hlt
        have h := own_cell HST.out.own hls k (by omega)
        rw [List.getElem?_eq_getElem (by omega)] at hgx
        injection hgx with hgx
        rw [hgx] at h
        exact h
      clear hgx
      go_wp2_with fail
      refine (put_any x B g S r' (grow all d k) w2 HST.out.wn (by rw [HGL.out]; omega)).mono ?_
      rintro e w3 ⟨rfl, hp⟩
      rw [← HGS.out] at hp
      obtain ⟨r2, h3⟩ := HST.out.put hp
      have H3 := Lib.hid h3
      clear hp h3 hck HST
      obtain ⟨v3, l3, next3, hat3, -, -, -, -⟩ := H3.out.wn
      have HAT := Lib.hid hat3
      clear hat3
      go_wp2_with fail
      refine (after_any B g S Fk _ _ _ _ w3 HAT.out hS2 hFS).mono ?_
      rw [HNX.out]
      rintro e w' ⟨rfl, rfl⟩
      clear HAT
      go_wp2_with fail
      go_roundw
      case rel => exact ⟨k + 1, r2, by omega, by go_num, rfl, H3⟩
      case measure => simp [intOf]; omega
    · obtain rfl : k = n := by omega
      go_wp2_with fail
      go_ret2
      refine ⟨gb, rfl, ?_, r', HC.out.wn, ?_, ?_⟩
      · rw [HGB.out]
        have := HC.out.own
        unfold lst at this
        rw [Nat.sub_self, List.replicate_zero, List.append_nil] at this
        exact this
      · refine (Only.of_below (HGB.out.symm ▸ HB1.out) (Fp g r)).trans HC.out.only (fun i hi e => ?_)
        rcases e with e | e
        · exact e
        · have := HGB.out; omega
      · rcases HC.out.next with e | ⟨j, e, hj⟩
        · exact .inl e
        · exact .inr ⟨j, e, by have := HB1.out.size; omega⟩
end Go.Proofs.YtbjjkhlebdaoaaaDoor.WinC
end

section
/-
  A window that was made in the call; a row of bytes of the call's own beside it.
-/
namespace Go.Proofs.YtbjjkhlebdaoaaaDoor.WinC
open Go.RowKit Go.My WinMath

section
variable {B g S : Nat} {r : Option Nat} {w w' : World} {all : List UInt8}
/-- A window that was made behind w0, and nothing elder turned. -/
structure Kept (w0 w : World) (g S : Nat) (r : Option Nat) (all : List UInt8) : Prop where
  wn : Wn w0.heap.size w g S r all
  below : Below w0.heap.size w0 w
theorem Kept.left {w0 : World} (h : Kept w0 w g S r all) {all' : List UInt8} (hp : Left w0.heap.size g S r w all' w') : ∃ r', Kept w0 w' g S r' all' ∧ Only (Fp g r) w w' := by
  obtain ⟨r', h1, h2, h3⟩ := hp
  exact ⟨r', ⟨h1, h.below.trans (h2.below h.below.size h.wn.fp)⟩, h2⟩
theorem Kept.later {w0 : World} (h : Kept w0 w g S r all) (hb : Below w.heap.size w w') : Kept w0 w' g S r all := ⟨h.wn.below hb, h.below.trans (hb.mono h.below.size)⟩
end
theorem new_k (S : Nat) (w0 : World) (h1 : 0 < S) (h2 : S ≤ 65536) : Calls Tryd.prog 75 #[.int .i64 (S : Int)] w0 fun e w' =>
    e = .returned (.tuple #[.pointer (some ⟨w0.heap.size, 0, none⟩), .int .i64 0]) ∧ Hid (Kept w0 w' w0.heap.size S none []) :=
  (new_ok S w0 h1 h2).mono fun _ _ ⟨he, h3, h4⟩ => ⟨he, Lib.hid ⟨h3, h4⟩⟩
theorem conv {X : World} {B : Nat} {b : Addr} {n c : Nat} {l : List UInt8} (h : Own 5 B X (.slice (some b) n c) l) : (convert 22 9 (.slice (some b) n c)).run Tryd.prog X = .ok (.string ⟨l.toArray⟩) X := by
  obtain ⟨a', c', h1, h2⟩ := h.bytes
  simp only [Value.slice.injEq] at h1
  obtain ⟨rfl, rfl, rfl⟩ := h1
  exact run_string_bytes X 22 9 5 Tryd.underlying22 Tryd.underlying5 Tryd.underlying9 h2

/-- A window that was made in the call, and a row of bytes of the call's own beside it. -/
structure St (w wr : World) (g S : Nat) (r : Option Nat) (all L : List UInt8) (aa : Option Addr) (n ca : Nat) : Prop where
  kept : Kept w wr g S r all
  own : Own 5 w.heap.size wr (.slice aa n ca) L
  len : L.length = n
  sep : ∀ j, Value.ownBlock (.slice aa n ca) = some j → ¬ Fp g r j

section
variable {w wr w' : World} {g S n ca : Nat} {r : Option Nat} {all all' L : List UInt8} {aa : Option Addr}
theorem St.later (h : St w wr g S r all L aa n ca) (hb : Below wr.heap.size wr w') : St w w' g S r all L aa n ca := ⟨h.kept.later hb, h.own.below (Nat.le_refl _) hb, h.len, h.sep⟩
theorem St.left (h : St w wr g S r all L aa n ca) (hp : Left w.heap.size g S r wr all' w') : ∃ r', St w w' g S r' all' L aa n ca ∧ Only (Fp g r) wr w' := by
  obtain ⟨r', h1, h2, h3⟩ := hp
  refine ⟨r', ⟨⟨h1, h.kept.below.trans (h2.below h.kept.below.size h.kept.wn.fp)⟩, h2.own h.own (fun j hj e => h.sep j hj e), h.len, fun j hj hk => ?_⟩, h2⟩
  rcases hk with e | e
  · exact h.sep j hj (.inl e)
  · rcases h3 with e2 | ⟨i, e2, hi⟩
    · exact h.sep j hj (.inr (by rw [← e2]; exact e))
    · have := (World.ownsRow.lt h.own j hj).2
      rw [e2] at e
      injection e with e
      omega
theorem St.app (h : St w wr g S r all L aa n ca) {o : Obj} {a2 : Option Addr} {c2 m : Nat} {l2 : List UInt8} (hl : l2.length = m) (hown : Own 5 w.heap.size w' (.slice a2 (n + m) c2) (L ++ l2)) (hg : (wr.alloc o).grownBy w' (Value.ownBlock (.slice aa n ca)))
    (hn : Nxt (Value.ownBlock (.slice aa n ca)) (wr.heap.size + 1) (Value.ownBlock (.slice a2 (n + m) c2))) : St w w' g S r all (L ++ l2) a2 (n + m) c2 := by
  have hO : Only (fun k => Value.ownBlock (.slice aa n ca) = some k) wr w' := ((Only.refl _ wr).alloc o).grown hg (fun k _ hk => hk)
  refine ⟨⟨h.kept.wn.only hO (fun e => h.sep g e (.inl rfl)) (fun k hk e => h.sep k e (.inr hk)), h.kept.below.trans (hO.below h.kept.below.size (fun k hk => (World.ownsRow.lt h.own k hk).1))⟩, hown, by rw [List.length_append, h.len, hl], fun j hj hk => ?_⟩
  rcases hn with e | ⟨i, e, hi⟩
  · exact h.sep j (by rw [← e]; exact hj) hk
  · rw [e] at hj
    injection hj with hj
    have := h.kept.wn.flt j hk
    omega
theorem put_s (c : UInt8) (h : Hid (St w wr g S r all L aa n ca)) (hl : all.length ≤ 100000000000) :
    Calls Tryd.prog 76 #[.pointer (some ⟨g, 0, none⟩), .int .u8 (c.toNat : Int)] wr fun e w' => e = .returned (.tuple #[]) ∧ ∃ r', Hid (St w w' g S r' (all ++ [c]) L aa n ca) ∧ Hid (Only (Fp g r) wr w') :=
  (put_any c _ g S r all wr h.out.kept.wn hl).mono fun _ _ ⟨he, hp⟩ => ⟨he, let ⟨r', h1, h2⟩ := h.out.left hp; ⟨r', Lib.hid h1, Lib.hid h2⟩⟩
theorem copy_s (d m : Nat) (h : Hid (St w wr g S r all L aa n ca)) (hn : m ≤ 65538) (h1 : 1 ≤ d) (h2 : d ≤ min all.length S) (hl : all.length ≤ 10000000000) :
    Calls Tryd.prog 77 #[.pointer (some ⟨g, 0, none⟩), .int .i64 (d : Int), .int .i64 (m : Int)] wr fun e w' =>
      ∃ b r', e = .returned (.tuple #[.slice (some ⟨b, 0, none⟩) m m, .int .i64 0]) ∧ Hid (Own 5 wr.heap.size w' (.slice (some ⟨b, 0, none⟩) m m) (copy all d m)) ∧ Hid (St w w' g S r' (grow all d m) L aa n ca) :=
  (copy_ok d m _ g S r all wr h.out.kept.wn hn h1 h2 hl).mono fun _ _ ⟨b, he, ho, hp⟩ => let ⟨r', k1, _⟩ := h.out.left hp; ⟨b, r', he, Lib.hid ho, Lib.hid k1⟩
end

end Go.Proofs.YtbjjkhlebdaoaaaDoor.WinC
end

section
/-
  expand (on XTok0).
-/
namespace Go.Proofs.YtbjjkhlebdaoaaaDoor.LzC
open Go.RowKit Go.My LzMath WinMath WinC

section
variable {w wr w' : World} {g S n ca : Nat} {r : Option Nat} {all L : List UInt8} {aa : Option Addr}
theorem st_app (h : St w wr g S r all L aa n ca) {a2 : Option Addr} {c2 m : Nat} {l2 : List UInt8} (hl : l2.length = m) (hown : Own 5 w.heap.size w' (.slice a2 (n + m) c2) (L ++ l2)) (hg : wr.grownBy w' (Value.ownBlock (.slice aa n ca)))
    (hn : Nxt (Value.ownBlock (.slice aa n ca)) wr.heap.size (Value.ownBlock (.slice a2 (n + m) c2))) : St w w' g S r all (L ++ l2) a2 (n + m) c2 := by
  have hO : Only (fun k => Value.ownBlock (.slice aa n ca) = some k) wr w' := (Only.refl _ wr).grown hg (fun k _ hk => hk)
  refine ⟨⟨h.kept.wn.only hO (fun e => h.sep g e (.inl rfl)) (fun k hk e => h.sep k e (.inr hk)), h.kept.below.trans (hO.below h.kept.below.size (fun k hk => (World.ownsRow.lt h.own k hk).1))⟩, hown, by rw [List.length_append, h.len, hl], fun j hj hk => ?_⟩
  rcases hn with e | ⟨i, e, hi⟩
  · exact h.sep j (by rw [← e]; exact hj) hk
  · rw [e] at hj
    injection hj with hj
    have := h.kept.wn.flt j hk
    omega
end
/-- A call that hands back bytes of its own. -/
def Made (w : World) (l : List UInt8) (e : Ending) (w' : World) : Prop :=
  ∃ a c, e = .returned (.slice a l.length c) ∧ Own 5 w.heap.size w' (.slice a l.length c) l ∧ Below w.heap.size w w'

set_option maxRecDepth 100000 in
set_option maxHeartbeats 8000000 in
theorem expand_any (wide : Bool) (a : Option Addr) (len c : Nat) (f : Nat → Tok) (w : World) (h : TokIn w a len c f) (hG : GoodT wide f len) (ht : tot f len ≤ 1000000) :
    Calls Tryd.prog 61 #[.slice a len c, .bool wide, .int .i64 (tot f len : Int)] w (Made w (ex f len)) := by
  have H := Lib.hid h
  have hlc := h.le_cap
  have hcm := h.cap_le
  have HG := Lib.hid hG
  have HM := Lib.hid (md_ok wide)
  obtain ⟨T, hT⟩ : ∃ T, T = tot f len := ⟨_, rfl⟩
  rw [← hT] at ht ⊢
  have HT := Lib.hid hT
  clear h hG hT
  go_enter Tryd.func61, Tryd.ntmps61
  go_wp2_with fail
  refine (bounds_any wide w).mono ?_
  rintro e w' ⟨rfl, rfl⟩
  go_wp2_with fail
  refine (new_k (md wide) w HM.out.1 HM.out.2).mono ?_
  rintro e w1 ⟨rfl, H1⟩
  have hs1 : w.heap.size ≤ w1.heap.size := H1.out.below.size
  go_wp2_with (at_make; refine wpList_make_cap _ rfl (.const (.int .i64 0)) (.tmp 26) 22 rfl w.heap.size 5 Tryd.underlying22 info5 .i64 .i64 _ T rfl rfl rfl (by omega) hs1 ?_)
  intro w2 hown hg
  have H2 : Hid (St w w2 w.heap.size (md wide) none (ex f 0) (ex f 0) (some ⟨w1.heap.size, 0, none⟩) (tot f 0) T) := Lib.hid (by
    have hb := grown_none_below (Below.refl w1.heap.size w1) hg (Nat.le_refl _)
    refine ⟨H1.out.later hb, hown, rfl, fun j hj hF => ?_⟩
    have := H1.out.wn.flt j hF
    injection hj with hj
    have hj : w1.heap.size = j := hj
    omega)
  clear H1 hown hg hs1
  go_wp2_with fail
  generalize w1.heap.size = g1 at *
  generalize hg : w.heap.size = g at *
  have HGW := Lib.hid hg
  clear hg
  go_loopw [11, 30] (fun bv i wr => ∃ (k : Nat) (r : Option Nat) (aa : Option Addr) (ca : Nat), k ≤ len ∧ i = .int .i64 (k : Int) ∧ bv = .slice aa (tot f k) ca ∧ Hid (St w wr g (md wide) r (ex f k) (ex f k) aa (tot f k) ca)) (fun _ i _ => len - (intOf i).toNat)
  case atStart => exact ⟨0, none, _, T, Nat.zero_le _, rfl, rfl, H2⟩
  case round =>
    clear H2
    obtain ⟨k, r, aa, ca, hk, rfl, rfl, HK⟩ := hrel
    by_cases hlt : k < len
    · obtain ⟨b, off, rfl, ho⟩ := (H.out.below (Nat.le_refl _) HK.out.kept.below).get hlt
      obtain ⟨c0, c1, c2, hbl, wf⟩ := ho
      have hm := tot_mono f (k + 1) len hlt
      have hok := HG.out k hlt
      have hel := ex_len f k
      have hT1 : tot f (k + 1) ≤ 1000000 := by have := HT.out; omega
      by_cases h0 : (f k).len = 0
      · obtain ⟨ch, hfk, hex, htk⟩ := lit_nums hok h0
        rw [hfk] at c0 c1 c2
        simp only at c0 c1 c2
        have HEX := Lib.hid hex
        have HTK := Lib.hid htk
        obtain ⟨N, hN⟩ : ∃ N, N = tot f k := ⟨_, rfl⟩
        rw [← hN] at HTK HK hel ⊢
        have hNb : N ≤ 1000000 := by omega
        have HEL := Lib.hid hel
        obtain ⟨X, hX⟩ : ∃ X, X = wr.alloc (.cells #[.int .i64 0, .int .i64 0, .int .u8 (ch.toNat : Int)] 85) := ⟨_, rfl⟩
        have HBL : Hid (Blk X wr.heap.size 85 #[.int .i64 0, .int .i64 0, .int .u8 (ch.toNat : Int)]) := Lib.hid (by rw [hX]; exact Blk.new wr _ _)
        have HNE : Hid (¬ Fp g r wr.heap.size) := Lib.hid (fun hF => by have := HK.out.kept.wn.flt _ hF; omega)
        have HX : Hid (St w X g (md wide) r (ex f k) (ex f k) aa N ca) := Lib.hid (by rw [hX]; exact HK.out.later ((Below.refl _ _).alloc (Nat.le_refl _) _))
        clear h0 hfk hex htk hm hok hel hN wf HK
        go_upto_region 7 with (fail)
        rw [← hX]
        clear hX c0 c1 c2 hbl
        generalize wr.heap.size = gt at *
        have x0 : X.cell? ⟨gt, 0, none⟩ = some (.int .i64 0) := HBL.out.cell 0
        have x2 : X.cell? ⟨gt, 2, none⟩ = some (.int .u8 (ch.toNat : Int)) := HBL.out.cell 2
        go_wp2_with fail
        refine (put_s ch HX (by rw [HEL.out]; omega)).mono ?_
        rintro e w3 ⟨rfl, r2, H3, HO3⟩
        have HB3 : Hid (Blk w3 gt 85 #[.int .i64 0, .int .i64 0, .int .u8 (ch.toNat : Int)]) := Lib.hid (HO3.out.blk HBL.out HNE.out)
        clear x0 x2 HBL HX HO3 HNE
        have x2 : w3.cell? ⟨gt, 2, none⟩ = some (.int .u8 (ch.toNat : Int)) := HB3.out.cell 2
        have hB : w.heap.size ≤ w3.heap.size := H3.out.kept.below.size
        have ho3 : Own 5 w.heap.size (w3.alloc (.cells #[.int .u8 (ch.toNat : Int)] 5)) (.slice aa (ex f k).length ca) (ex f k) := by rw [HEL.out]; exact (H3.out.later ((Below.refl _ _).alloc (Nat.le_refl _) _)).own
        have hb1 : Bytes (w3.alloc (.cells #[.int .u8 (ch.toNat : Int)] 5)) (some ⟨w3.heap.size, 0, none⟩) 1 1 [ch] := one_bytes 5 w3 ch
        have HO := Lib.hid ho3
        have HB1 := Lib.hid hb1
        clear ho3 hb1
        rw [HEL.out] at HO
        go_wp2_with (at_builtin; refine wpList_append_lie (by rfl) (.tmp 41) (.tmp 44) 22 (by rfl) w.heap.size 5 Tryd.underlying22 info5 (.slice aa N ca) (ex f k) (by rfl) HO.out (some ⟨w3.heap.size, 0, none⟩) 1 1 [ch] (by rfl) HB1.out (by rw [HEL.out]; omega) (by simp; omega) ?_)
        rw [HEL.out]
        intro a4 c4 w4 hown hgrow hnext
        have H4 : Hid (St w w4 g (md wide) r2 (ex f (k + 1)) (ex f (k + 1)) a4 (tot f (k + 1)) c4) := Lib.hid (by
          rw [HEX.out, HTK.out]
          exact H3.out.app rfl hown hgrow (by simpa using hnext))
        clear H3 HO HB1 HB3 x2 hown hgrow hnext
        go_wp2_with fail
        go_roundw
        case rel => exact ⟨k + 1, r2, a4, c4, by omega, by go_num, by rw [HTK.out], H4⟩
        case measure => simp [intOf]; omega
      · obtain ⟨d, n, hfk, hn3, hn, hd1, hdS, hdN, hex, htk⟩ := mat_nums hok h0
        rw [hfk] at c0 c1 c2
        simp only at c0 c1 c2
        have HEX := Lib.hid hex
        have HTK := Lib.hid htk
        have hgc := grow_copy (ex f k) d n
        have hcl := copy_len (ex f k) d n
        obtain ⟨N, hN⟩ : ∃ N, N = tot f k := ⟨_, rfl⟩
        rw [← hN] at HTK HK hel hdN ⊢
        have hNb : N + n ≤ 1000000 := by omega
        have hdM : d ≤ min (ex f k).length (md wide) := by rw [hel]; omega
        have HEL := Lib.hid hel
        have HGC := Lib.hid hgc
        have HCL := Lib.hid hcl
        have HDM := Lib.hid hdM
        obtain ⟨X, hX⟩ : ∃ X, X = wr.alloc (.cells #[.int .i64 (n : Int), .int .i64 (d : Int), .int .u8 ((0 : UInt8).toNat : Int)] 85) := ⟨_, rfl⟩
        have HBL : Hid (Blk X wr.heap.size 85 #[.int .i64 (n : Int), .int .i64 (d : Int), .int .u8 ((0 : UInt8).toNat : Int)]) := Lib.hid (by rw [hX]; exact Blk.new wr _ _)
        have HX : Hid (St w X g (md wide) r (ex f k) (ex f k) aa N ca) := Lib.hid (by rw [hX]; exact HK.out.later ((Below.refl _ _).alloc (Nat.le_refl _) _))
        have hn0 : ((n : Int) == 0) = false := by simp; omega
        clear h0 hfk hex htk hm hok hel hN wf HK hgc hcl hdM hdS hdN
        generalize ((0 : UInt8).toNat : Int) = zz at *
        go_upto_region 7 with (fail)
        rw [← hX]
        clear hX c0 c1 c2 hbl
        generalize wr.heap.size = gt at *
        have x0 : X.cell? ⟨gt, 0, none⟩ = some (.int .i64 (n : Int)) := HBL.out.cell 0
        have x1 : X.cell? ⟨gt, 1, none⟩ = some (.int .i64 (d : Int)) := HBL.out.cell 1
        go_wp2_with fail
        refine (copy_s d n HX hn hd1 HDM.out (by rw [HEL.out]; omega)).mono ?_
        rintro e w3 ⟨bp, r2, rfl, HP, H3⟩
        clear x0 x1 HBL HX
        have hB : w.heap.size ≤ w3.heap.size := H3.out.kept.below.size
        have ho3 : Own 5 w.heap.size w3 (.slice aa (ex f k).length ca) (ex f k) := by rw [HEL.out]; exact H3.out.own
        have hb1 : Bytes w3 (some ⟨bp, 0, none⟩) n n (copy (ex f k) d n) := by
          obtain ⟨a', c', h1, h2⟩ := HP.out.bytes
          simp only [Value.slice.injEq] at h1
          obtain ⟨rfl, h1, rfl⟩ := h1
          rw [← h1] at h2
          exact h2
        have HO := Lib.hid ho3
        have HB1 := Lib.hid hb1
        clear ho3 hb1
        rw [HEL.out] at HO
        go_wp2_with (at_builtin; refine wpList_append_lie (by rfl) (.tmp 55) (.tmp 56) 22 (by rfl) w.heap.size 5 Tryd.underlying22 info5 (.slice aa N ca) (ex f k) (by rfl) HO.out (some ⟨bp, 0, none⟩) n n (copy (ex f k) d n) (by rfl) HB1.out (by rw [HEL.out]; omega) hB ?_)
        rw [HEL.out]
        intro a4 c4 w4 hown hgrow hnext
        have H4 : Hid (St w w4 g (md wide) r2 (ex f (k + 1)) (ex f (k + 1)) a4 (tot f (k + 1)) c4) := Lib.hid (by
          rw [HEX.out, HTK.out]
          have := st_app H3.out HCL.out hown hgrow hnext
          rw [← HGC.out] at this
          exact this)
        clear H3 HO HB1 hown hgrow hnext HP
        go_wp2_with fail
        go_roundw
        case rel => exact ⟨k + 1, r2, a4, c4, by omega, by go_num, by rw [HTK.out], H4⟩
        case measure => simp [intOf]; omega
    · obtain rfl : k = len := by omega
      go_wp2_with fail
      go_ret
      refine ⟨aa, ca, by rw [ex_len]; rfl, ?_, HK.out.kept.below⟩
      rw [ex_len]
      exact HK.out.own
end Go.Proofs.YtbjjkhlebdaoaaaDoor.LzC
end

section
/-
  Expand (on XTok0).
-/
namespace Go.Proofs.YtbjjkhlebdaoaaaDoor.LzC
open Go.RowKit Go.My LzMath WinMath WinC

theorem own_from {E : TypeId} {B B' : Nat} {w : World} {v : Value} {l : List UInt8} (h : Own E B w v l) (hB : B' ≤ B) : Own E B' w v l := by
  refine ⟨h.1, ?_⟩
  rcases h.2 with hn | ⟨g, cap, cur, h1, h2, rest⟩
  · exact .inl hn
  · exact .inr ⟨g, cap, cur, h1, Nat.le_trans hB h2, rest⟩
theorem caught_nil (w : World) : Calls Tryd.prog 60 #[.nilIface] w fun e w' => e = .returned (.tuple #[.int .i64 0, .int .i64 0]) ∧ w = w' := by
  go_enter Tryd.func60, Tryd.ntmps60
  go_wp2_with fail
  go_ret2
  exact ⟨rfl, rfl⟩
theorem below_drewN {B : Nat} {a b : World} (h : Below B a b) (n : Nat) : Below B a (b.drewN n) := ⟨h.os, h.tape, h.output, h.size, h.block⟩
set_option maxRecDepth 100000 in
theorem caught_fault (c at_ : Int) (w : World) : Calls Tryd.prog 60 #[fault c at_] w fun e w' => e = .returned (.tuple #[.int .i64 at_, .int .i64 c]) ∧ Below w.heap.size w w' := by
  unfold fault
  have hta : ∀ w, (Instr.typeAssert (.iface 126 (.agg #[.int .i64 c, .int .i64 at_])) 20 126 true).run Tryd.prog w = .ok (.tuple #[.agg #[.int .i64 c, .int .i64 at_], .bool true]) w := fun _ => by kernel_rfl
  go_enter Tryd.func60, Tryd.ntmps60
  go_upto_region 7 with (fail)
  go_quiet (fail)
  go_wp2_with fail
  go_ret2
  exact ⟨rfl, below_drewN ((Below.refl _ _).alloc (Nat.le_refl _) _) nq⟩

section
variable {A B : Nat} {w : World} {x y : Value}
/-- Both results' cells are set. -/
theorem set_both (hA : Blk w A 3 #[x]) (hB : Blk w B 46 #[y]) (hAB : A ≠ B) (u v : Value) :
    Blk ((w.setCell ⟨A, 0, none⟩ u).setCell ⟨B, 0, none⟩ v) A 3 #[u] ∧ Blk ((w.setCell ⟨A, 0, none⟩ u).setCell ⟨B, 0, none⟩ v) B 46 #[v] ∧ Only (fun k => k = A ∨ k = B) w ((w.setCell ⟨A, 0, none⟩ u).setCell ⟨B, 0, none⟩ v) := by
  have o1 : Only (fun k => A = k) w (w.setCell ⟨A, 0, none⟩ u) := (Only.refl _ w).setCell (p := ⟨A, 0, none⟩) (fun _ => rfl) _
  have o2 : Only (fun k => B = k) (w.setCell ⟨A, 0, none⟩ u) ((w.setCell ⟨A, 0, none⟩ u).setCell ⟨B, 0, none⟩ v) := (Only.refl _ _).setCell (p := ⟨B, 0, none⟩) (fun _ => rfl) _
  exact ⟨o2.blk (hA.set_ 0 u) (fun h => hAB h.symm), (o1.blk hB hAB).set_ 0 v, (o1.mono (fun _ _ h => .inl h.symm)).trans (o2.mono (T := fun k => k = A ∨ k = B) (fun _ _ h => .inr h.symm)) (fun _ _ h => h)⟩
end
set_option maxRecDepth 100000 in
theorem idle (A B : Nat) (x y : Value) (w : World) (hA : Blk w A 3 #[x]) (hB : Blk w B 46 #[y]) (hAB : A ≠ B) :
    CallsD Tryd.prog 59 #[.pointer (some ⟨A, 0, none⟩), .pointer (some ⟨B, 0, none⟩)] .returning w fun e u' w' => e = .returned (.tuple #[]) ∧ u' = .returning ∧ Blk w' A 3 #[.int .i64 0] ∧ Blk w' B 46 #[.int .i64 0] ∧ Only (fun k => k = A ∨ k = B) w w' := by
  have hca : w.cell? ⟨A, 0, none⟩ = some x := hA.cell 0
  have hcb : w.cell? ⟨B, 0, none⟩ = some y := hB.cell 0
  have hfa := hA.frozen 0
  have hfb := hB.frozen 0
  refine callsD_of_wpS Tryd.func59 rfl fun c₀ cs hu => ?_
  apply wpS_region
  simp [wpOpsS, go_sem, recoverD, hu, Tryd.ntmps59]
  refine (caught_nil w).mono ?_
  rintro e w' ⟨rfl, rfl⟩
  cases c₀
  simp_all [go_sem, bodyPostS, results, Tryd.results59]
  exact set_both hA hB hAB _ _
set_option maxRecDepth 100000 in
theorem caught_ (A B : Nat) (x y : Value) (c at_ : Int) (older : List PanicEntry) (w : World) (hA : Blk w A 3 #[x]) (hB : Blk w B 46 #[y]) (hAB : A ≠ B) :
    CallsD Tryd.prog 59 #[.pointer (some ⟨A, 0, none⟩), .pointer (some ⟨B, 0, none⟩)] (.panicking ({ v := fault c at_, recovered := false } :: older)) w fun e u' w' =>
      e = .returned (.tuple #[]) ∧ u' = .panicking ({ v := fault c at_, recovered := true } :: older) ∧ Blk w' A 3 #[.int .i64 at_] ∧ Blk w' B 46 #[.int .i64 c] ∧ Only (fun k => k = A ∨ k = B) w w' := by
  refine callsD_of_wpS Tryd.func59 rfl fun c₀ cs hu => ?_
  apply wpS_region
  simp [wpOpsS, go_sem, recoverD, hu, Tryd.ntmps59]
  refine (caught_fault c at_ w).mono ?_
  rintro e w1 ⟨rfl, hb⟩
  have hA1 := hA.same (hb.block A hA.lt)
  have hB1 := hB.same (hb.block B hB.lt)
  have hca : w1.cell? ⟨A, 0, none⟩ = some x := hA1.cell 0
  have hcb : w1.cell? ⟨B, 0, none⟩ = some y := hB1.cell 0
  have hfa := hA1.frozen 0
  have hfb := hB1.frozen 0
  cases c₀
  simp [go_sem, bodyPostS, results, Tryd.results59, hca, hcb, hfa, hfb]
  obtain ⟨h1, h2, h3⟩ := set_both hA1 hB1 hAB (.int .i64 at_) (.int .i64 c)
  exact ⟨h1, h2, (Only.of_below hb _).trans h3 (fun _ _ h => h)⟩

theorem mf : ∀ (fn : Fn) (first cap : Array Value) (w : World), (Instr.makeFunc fn first cap).run Tryd.prog w = .ok (.func fn first cap) w := fun _ _ _ _ => rfl

/-- What Expand hands back where token K is the first that may not stand there. -/
def Expanded (f : Nat → Tok) (len K : Nat) (w : World) (e : Ending) (w' : World) : Prop :=
  Below w.heap.size w w' ∧ (K = len ∧ (∃ a c, e = .returned (.tuple #[.slice a (tot f len) c, .int .i64 0, .int .i64 0]) ∧ Own 5 w.heap.size w' (.slice a (tot f len) c) (ex f len)) ∨ K < len ∧ e = .returned (.tuple #[.slice none 0 0, .int .i64 (K : Int), .int .i64 2]))

set_option maxRecDepth 100000 in
set_option maxHeartbeats 8000000 in
theorem expand_all (wide : Bool) (a : Option Addr) (len c : Nat) (f : Nat → Tok) (K : Nat) (w : World) (h : TokIn w a len c f) (hE : EndsT wide f len K) (ht : tot f len ≤ 1000000) :
    Calls Tryd.prog 39 #[.slice a len c, .bool wide] w (Expanded f len K w) := by
  have hmf := mf
  obtain ⟨w1, hw1⟩ : ∃ w1, w1 = (w.alloc (.cells #[.int .i64 0] 3)).alloc (.cells #[.int .i64 0] 46) := ⟨_, rfl⟩
  have hb1 : Below w.heap.size w w1 := by rw [hw1]; exact ((Below.refl _ _).alloc (Nat.le_refl _) _).alloc (by simp) _
  have hA : Blk w1 w.heap.size 3 #[.int .i64 0] := by rw [hw1]; exact (Blk.new w _ _).alloc _
  have hB : Blk w1 (w.heap.size + 1) 46 #[.int .i64 0] := by
    rw [hw1]
    have := Blk.new (w.alloc (.cells #[.int .i64 0] 3)) 46 #[.int .i64 0]
    rw [World.size_alloc] at this
    exact this
  have hsz : w1.heap.size = w.heap.size + 2 := by rw [hw1]; simp
  have HB1 := Lib.hid hb1
  have HA := Lib.hid hA
  have HB := Lib.hid hB
  have H := Lib.hid (h.below (Nat.le_refl _) hb1)
  have HS := Lib.hid hsz
  have HE := Lib.hid hE
  clear h hb1 hA hB hsz hE
  go_enter_defers Tryd.func39, Tryd.ntmps39
  go_upto_region 2 with (fail)
  rw [← hw1]
  clear hw1 hmf
  have HSZ : Hid (w.heap.size ≤ w1.heap.size) := Lib.hid HB1.out.size
  obtain ⟨B, hBe⟩ : ∃ B, B = w.heap.size + 1 := ⟨_, rfl⟩
  rw [← hBe] at HB ⊢
  obtain ⟨A, hAe⟩ : ∃ A, A = w.heap.size := ⟨_, rfl⟩
  rw [← hAe] at HA ⊢
  have HW : Hid (A = w.heap.size ∧ B = w.heap.size + 1 ∧ A ≠ B) := Lib.hid ⟨hAe, hBe, by omega⟩
  clear hAe hBe
  go_wp2_with fail
  refine (measure_any wide a len c f K w1 H.out HE.out ht).mono ?_
  rintro e w2 ⟨hm, hb⟩
  have HA2 := Lib.hid (HA.out.same (hb.block A HA.out.lt))
  have HB2 := Lib.hid (HB.out.same (hb.block B HB.out.lt))
  have H2 := Lib.hid (H.out.below (Nat.le_refl _) hb)
  have HBL2 := Lib.hid (HB1.out.trans (hb.mono HSZ.out))
  clear HA HB H HB1 HSZ hb
  rcases hm with ⟨rfl, rfl⟩ | ⟨hK, rfl⟩
  · go_wp2_with fail
    refine (expand_any wide a K c f w2 H2.out HE.out.good ht).mono ?_
    rintro e w3 ⟨a', c', rfl, hown, hb⟩
    rw [ex_len] at hown
    have hA3 := HA2.out.same (hb.block A HA2.out.lt)
    have hB3 := HB2.out.same (hb.block B HB2.out.lt)
    have HBL3 := Lib.hid (HBL2.out.trans (hb.mono HBL2.out.size))
    have HO := Lib.hid hown
    have HSZ := Lib.hid HBL2.out.size
    have HAB2 := Lib.hid (And.intro HA2.out.lt HB2.out.lt)
    have hca : w3.cell? ⟨A, 0, none⟩ = some (.int .i64 0) := hA3.cell 0
    have hB4 : Blk (w3.setCell ⟨A, 0, none⟩ (.int .i64 0)) B 46 #[.int .i64 0] := ((Only.refl (fun k => A = k) w3).setCell (p := ⟨A, 0, none⟩) (fun _ => rfl) _).blk hB3 HW.out.2.2
    have hcb : (w3.setCell ⟨A, 0, none⟩ (.int .i64 0)).cell? ⟨B, 0, none⟩ = some (.int .i64 0) := hB4.cell 0
    have hfa := hA3.frozen 0
    have hfb := hB4.frozen 0
    have hel := ex_len f K
    have HX := Lib.hid (set_both hA3 hB3 HW.out.2.2 (.int .i64 0) (.int .i64 0))
    rw [hel]
    clear hb hown hA3 hB3 hB4 HA2 HB2 H2 HBL2 hel
    go_wp2_with fail
    clear hca hcb hfa hfb
    generalize (w3.setCell ⟨A, 0, none⟩ (.int .i64 0)).setCell ⟨B, 0, none⟩ (.int .i64 0) = w4 at *
    refine leaves_cons (f := 59) (args := #[.pointer (some ⟨A, 0, none⟩), .pointer (some ⟨B, 0, none⟩)]) (by simp) (by simp [go_sem]) ?_
    refine (idle A B _ _ w4 HX.out.1 HX.out.2.1 HW.out.2.2).mono ?_
    rintro e u' w5 ⟨rfl, rfl, hA5, hB5, hO5⟩
    have hca : w5.cell? ⟨A, 0, none⟩ = some (.int .i64 0) := hA5.cell 0
    have hcb : w5.cell? ⟨B, 0, none⟩ = some (.int .i64 0) := hB5.cell 0
    simp [Leaves, settle, results, Tryd.results39, go_sem, hca, hcb]
    have hO : Only (fun k => k = A ∨ k = B) w3 w5 := HX.out.2.2.trans hO5 (fun _ _ h => h)
    have hbig : ∀ k, k = A ∨ k = B → w.heap.size ≤ k := fun k hk => by have := HW.out; omega
    refine ⟨HBL3.out.trans (hO.below HBL3.out.size hbig), .inl ⟨rfl, a', c', rfl, ?_⟩⟩
    refine hO.own (own_from HO.out HSZ.out) (fun k hk hS => ?_)
    have h1 := (World.ownsRow.lt HO.out k hk).1
    have h2 := HAB2.out
    rcases hS with rfl | rfl <;> omega
  · go_wp2_with fail
    refine leaves_cons (f := 59) (args := #[.pointer (some ⟨A, 0, none⟩), .pointer (some ⟨B, 0, none⟩)]) (by simp) (by simp [go_sem]) ?_
    refine (caught_ A B _ _ 2 (K : Int) [] w2 HA2.out HB2.out HW.out.2.2).mono ?_
    rintro e u' w5 ⟨rfl, rfl, hA5, hB5, hO5⟩
    have hca : w5.cell? ⟨A, 0, none⟩ = some (.int .i64 (K : Int)) := hA5.cell 0
    have hcb : w5.cell? ⟨B, 0, none⟩ = some (.int .i64 2) := hB5.cell 0
    simp [Leaves, settle, results, Tryd.results39, go_sem, hca, hcb]
    have hbig : ∀ k, k = A ∨ k = B → w.heap.size ≤ k := fun k hk => by have := HW.out; omega
    exact ⟨HBL2.out.trans (hO5.below HBL2.out.size hbig), .inr ⟨hK, rfl⟩⟩
end Go.Proofs.YtbjjkhlebdaoaaaDoor.LzC
end
