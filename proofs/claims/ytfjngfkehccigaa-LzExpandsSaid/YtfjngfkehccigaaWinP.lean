/-
  Put on a window: one byte more.
-/
import Derived.Test.YtfjngfkehccigaaWinA
import Derived.Deep.QuietTactic
import Derived.BigQuiet
import Derived.Deep.DeepCutAuto
import Derived.Deep.CutBlock
namespace Go.Proofs.Ytfjngfkehccigaa.WinC
open Go.RowKit Go.My WinMath

/-- What a call on a window leaves: all bytes, a ring that may be a new one. -/
def Left (B g S : Nat) (r : Option Nat) (w : World) (all : List UInt8) (w' : World) : Prop :=
  ∃ r', Wn B w' g S r' all ∧ Only (Fp g r) w w' ∧ Nxt r w.heap.size r'
theorem Left.refl {B g S : Nat} {r : Option Nat} {w : World} {all : List UInt8} (h : Wn B w g S r all) : Left B g S r w all w := ⟨r, h, Only.refl _ _, Nxt.refl _ _⟩

section
variable {B g S : Nat} {w w2 : World} {v v' : Value} {l l' : List UInt8} {next total : Nat}
theorem WnAt.set_total (h : WnAt B w g S v l next total) (t : Nat) (T : Int) (hT : T = (t : Int)) : WnAt B (w.setCell ⟨g, 3, none⟩ (.int .i64 T)) g S v l next t := by
  subst hT
  have hO : Only (fun k => g = k) w (w.setCell ⟨g, 3, none⟩ (.int .i64 (t : Int))) := (Only.refl _ w).setCell (p := ⟨g, 3, none⟩) (fun _ => rfl) _
  exact ⟨h.blk.set_ 3 _, hO.own h.own (fun k hk e => h.far (by rw [hk, ← e])), h.base⟩
theorem WnAt.set_next (h : WnAt B w g S v l next total) (t : Nat) : WnAt B (w.setCell ⟨g, 2, none⟩ (.int .i64 (t : Int))) g S v l t total := by
  have hO : Only (fun k => g = k) w (w.setCell ⟨g, 2, none⟩ (.int .i64 (t : Int))) := (Only.refl _ w).setCell (p := ⟨g, 2, none⟩) (fun _ => rfl) _
  exact ⟨h.blk.set_ 2 _, hO.own h.own (fun k hk e => h.far (by rw [hk, ← e])), h.base⟩
theorem WnAt.set_ring {o : Obj} (h : WnAt B w g S v l next total) (hown : Own 5 B w2 v' l') (hg : (w.alloc o).grownBy w2 v.ownBlock) : WnAt B (w2.setCell ⟨g, 1, none⟩ v') g S v' l' next total := by
  have hb2 := (h.blk.alloc o).grown hg (Ne.symm h.far)
  have hfar := own_len_ne hown hb2 (by decide)
  have hO : Only (fun k => g = k) w2 (w2.setCell ⟨g, 1, none⟩ v') := (Only.refl _ w2).setCell (p := ⟨g, 1, none⟩) (fun _ => rfl) _
  exact ⟨hb2.set_ 1 _, hO.own hown (fun k hk e => hfar (by rw [hk, ← e])), h.base⟩
theorem WnAt.set_byte {a n c : Nat} (h : WnAt B w g S (.slice (some ⟨a, 0, none⟩) n c) l next total) (hn : l.length = n) (i : Nat) (b : UInt8) : WnAt B (w.setCell ⟨a, i, none⟩ (bv b)) g S (.slice (some ⟨a, 0, none⟩) n c) (l.set i b) next total := by
  have hne : a ≠ g := fun e => h.far (by rw [e]; rfl)
  have hO : Only (fun k => a = k) w (w.setCell ⟨a, i, none⟩ (bv b)) := (Only.refl _ w).setCell (p := ⟨a, i, none⟩) (fun _ => rfl) _
  exact ⟨hO.blk h.blk hne, own_store h.own hn i b, h.base⟩
end

theorem left_end {B g S : Nat} {r : Option Nat} {w w4 : World} {v' : Value} {l' all' : List UInt8} {next n2 : Nat} {T : Nat} (h : WnAt B w4 g S v' l' next T) (hT : T = all'.length) (hO : Only (Fp g r) w w4) (hN : Nxt r w.heap.size v'.ownBlock) (hR : Ring S all' l' n2) (hS : 0 < S) (hS2 : S ≤ 65536) :
    Left B g S r w all' (w4.setCell ⟨g, 2, none⟩ (.int .i64 (n2 : Int))) :=
  ⟨v'.ownBlock, ⟨v', l', n2, hT ▸ h.set_next n2, rfl, hR, hS, hS2⟩, hO.setCell (p := ⟨g, 2, none⟩) (fun _ => .inl rfl) _, hN⟩

set_option maxRecDepth 100000 in
set_option maxHeartbeats 4000000 in
theorem put_any (c : UInt8) (B g S : Nat) (r : Option Nat) (all : List UInt8) (w : World) (h : Wn B w g S r all) (hl : all.length ≤ 100000000000) :
    Calls Try.prog 21 #[.pointer (some ⟨g, 0, none⟩), .int .u8 (c.toNat : Int)] w fun e w' => e = .returned (.tuple #[]) ∧ Left B g S r w (all ++ [c]) w' := by
  obtain ⟨v, l, next, hat, rfl, hring, hS, hS2⟩ := h
  obtain ⟨a0, c0, rfl, -⟩ := hat.own.bytes
  have hc3 := hat.blk.cell 3
  have hf3 := hat.blk.frozen 3
  simp only [List.getElem?_toArray, List.getElem?_cons_zero, List.getElem?_cons_succ] at hc3
  have hat1 := hat.set_total (all.length + 1) ((all.length : Int) + 1) (by omega)
  have HO1 : Hid (Only (Fp g (Value.ownBlock (.slice a0 l.length c0))) w (w.setCell ⟨g, 3, none⟩ (.int .i64 ((all.length : Int) + 1)))) := Lib.hid ((Only.refl _ w).setCell (p := ⟨g, 3, none⟩) (fun _ => .inl rfl) _)
  have HA := Lib.hid hat1
  have HR := Lib.hid hring
  have hSz : ((S : Int) == 0) = false := by simp; omega
  clear hat hat1 hring
  go_enter Try.func21, Try.ntmps21
  go_upto_region 2 with (fail)
  generalize w.setCell ⟨g, 3, none⟩ (.int .i64 ((all.length : Int) + 1)) = w1 at *
  clear hc3 hf3
  have hc0 := HA.out.blk.cell 0
  have hc1 := HA.out.blk.cell 1
  simp only [List.getElem?_toArray, List.getElem?_cons_zero, List.getElem?_cons_succ] at hc0 hc1
  have hnS : next < S := HR.out.lt hS
  by_cases hlt : l.length < S
  · go_upto_region 3 with (fail)
    go_quiet (fail)
    have HO2 := Lib.hid (HO1.out.drewN nq)
    have HA2 := Lib.hid (HA.out.only ((Only.refl (fun _ => False) w1).drewN nq) (fun h => h) (fun _ _ h => h))
    clear HO1 HA hc0 hc1
    generalize w1.drewN nq = w2 at *
    have hc1 := HA2.out.blk.cell 1
    simp only [List.getElem?_toArray, List.getElem?_cons_zero, List.getElem?_cons_succ] at hc1
    have hB : B ≤ w2.heap.size := by have := HA2.out.base; have := HA2.out.blk.lt; omega
    have hb1 : Bytes (w2.alloc (.cells #[.int .u8 (c.toNat : Int)] 5)) (some ⟨w2.heap.size, 0, none⟩) 1 1 [c] := one_bytes 5 w2 c
    have ho1 : Own 5 B (w2.alloc (.cells #[.int .u8 (c.toNat : Int)] 5)) (.slice a0 l.length c0) l := HA2.out.own.below (Nat.le_refl _) ((Below.refl _ w2).alloc (Nat.le_refl _) _)
    have HB1 := Lib.hid hb1
    have HO := Lib.hid ho1
    clear hb1 ho1
    go_wp2_with (at_builtin; refine wpList_append_lie (by rfl) (.tmp 32) (.tmp 34) 29 (by rfl) B 5 Try.underlying29 info5 (.slice a0 l.length c0) l (by rfl) HO.out (some ⟨w2.heap.size, 0, none⟩) 1 1 [c] (by rfl) HB1.out (by omega) (by simp; omega) ?_)
    intro a1 c1 w3 hown hgrow hnext
    have hO3 : Only (Fp g (Value.ownBlock (.slice a0 l.length c0))) w w3 := (HO2.out.alloc _).grown hgrow (fun k _ hk => .inr hk)
    have ha3 := HA2.out.set_ring hown hgrow
    have hbk := (HA2.out.blk.alloc (.cells #[.int .u8 (c.toNat : Int)] 5)).grown hgrow (Ne.symm HA2.out.far)
    have HA3 := Lib.hid ha3
    have HO3 := Lib.hid (hO3.setCell (p := ⟨g, 1, none⟩) (fun _ => .inl rfl) (.slice a1 (l.length + 1) c1))
    have HN3 : Hid (Nxt (Value.ownBlock (.slice a0 l.length c0)) w.heap.size (Value.ownBlock (.slice a1 (l.length + 1) c1))) := Lib.hid (by
      rcases hnext with h | ⟨k, h, hk⟩
      · exact .inl h
      · exact .inr ⟨k, h, by have := HO2.out.size; omega⟩)
    have hb1 := hbk.cell 1
    have hf1 := hbk.frozen 1
    simp only [List.getElem?_toArray, List.getElem?_cons_zero, List.getElem?_cons_succ] at hb1
    clear hO3 ha3 hbk hown hgrow hnext HO HB1 HA2 HO2 hc1
    go_upto_region 6 with (fail)
    generalize w3.setCell ⟨g, 1, none⟩ (.slice a1 (l.length + 1) c1) = w4 at *
    have hd2 := HA3.out.blk.cell 2
    have hg2 := HA3.out.blk.frozen 2
    simp only [List.getElem?_toArray, List.getElem?_cons_zero, List.getElem?_cons_succ] at hd2
    clear hb1 hf1
    go_wp2_with fail
    refine (after_any B g S next _ _ _ _ w4 HA3.out hS2 hnS).mono ?_
    rintro e w' ⟨rfl, rfl⟩
    go_wp2_with fail
    go_end0
    exact ⟨rfl, left_end HA3.out (by simp) HO3.out HN3.out (HR.out.push hS c hlt) hS hS2⟩
  · have hlen : l.length = S := by have := HR.out.le; omega
    obtain ⟨a, cc, hv, -⟩ := HA.out.own.some_ (by omega)
    simp only [Value.slice.injEq] at hv
    obtain ⟨rfl, -, -⟩ := hv
    have hnl : next < l.length := by omega
    go_upto_region 3 with (fail)
    go_quiet (fail)
    have HO2 := Lib.hid (HO1.out.drewN nq)
    have HA2 := Lib.hid (HA.out.only ((Only.refl (fun _ => False) w1).drewN nq) (fun h => h) (fun _ _ h => h))
    clear HO1 HA hc0 hc1
    generalize w1.drewN nq = w2 at *
    have hc1 := HA2.out.blk.cell 1
    have hc2 := HA2.out.blk.cell 2
    simp only [List.getElem?_toArray, List.getElem?_cons_zero, List.getElem?_cons_succ] at hc1 hc2
    go_upto_region 5 with (fail)
    go_still_tail 10, (by kernel_rfl)
    clear hc1 hc2
    have HO3 := Lib.hid HO2.out.drew
    have HA3 := Lib.hid (HA2.out.only ((Only.refl (fun _ => False) w2).drew) (fun h => h) (fun _ _ h => h))
    clear HO2 HA2
    change wpList _ _ _ _ _ w2.drew
    generalize w2.drew = w3 at *
    have hc1 := HA3.out.blk.cell 1
    have hc2 := HA3.out.blk.cell 2
    simp only [List.getElem?_toArray, List.getElem?_cons_zero, List.getElem?_cons_succ] at hc1 hc2
    have hce := own_cell HA3.out.own rfl next hnl
    have hfr := own_free HA3.out.own rfl next
    have ha4 := HA3.out.set_byte rfl next c
    unfold bv at hce ha4
    have HA4 := Lib.hid ha4
    have HO4 := Lib.hid (HO3.out.setCell (p := ⟨a, next, none⟩) (fun _ => .inr rfl) (.int .u8 (c.toNat : Int)))
    clear ha4 HO3
    go_upto_region 6 with (fail)
    generalize w3.setCell ⟨a, next, none⟩ (.int .u8 (c.toNat : Int)) = w4 at *
    have hd2 := HA4.out.blk.cell 2
    have hg2 := HA4.out.blk.frozen 2
    simp only [List.getElem?_toArray, List.getElem?_cons_zero, List.getElem?_cons_succ] at hd2
    clear hce hfr hc1 hc2
    go_wp2_with fail
    refine (after_any B g S next _ _ _ _ w4 HA4.out hS2 hnS).mono ?_
    rintro e w' ⟨rfl, rfl⟩
    go_wp2_with fail
    go_end0
    exact ⟨rfl, left_end HA4.out (by simp) HO4.out (.inl rfl) (HR.out.put hS c hlt) hS hS2⟩
end Go.Proofs.Ytfjngfkehccigaa.WinC
