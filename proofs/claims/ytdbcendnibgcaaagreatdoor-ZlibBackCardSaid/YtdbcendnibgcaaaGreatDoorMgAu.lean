import Derived.Test.YtdbcendnibgcaaaGreatDoorMgAt
import Derived.Deep.QuietTactic
import Derived.BigQuiet
import Derived.Deep.DeepCutAuto
import Derived.Deep.CutBlock
import Derived.Test.YtdbcendnibgcaaaGreatDoorMgAr

section
/-
  Put on a window: one byte more.
-/
namespace Go.Proofs.YtdbcendnibgcaaaGreatDoor.WinC
open Go.RowKit Go.My WinMath

/-- What a call on a window leaves: all bytes, a ring that may be a new one. -/
def Left (B g S : Nat) (r : Option Nat) (w : World) (all : List UInt8) (w' : World) : Prop :=
  ∃ r', Wn B w' g S r' all ∧ Only (Fp g r) w w' ∧ Nxt r w.heap.size r'
theorem Left.refl {B g S : Nat} {r : Option Nat} {w : World} {all : List UInt8} (h : Wn B w g S r all) : Left B g S r w all w := ⟨r, h, Only.refl _ _, Nxt.refl _ _⟩

section
variable {B g S : Nat} {w w2 : World} {v v' : Value} {l l' : List UInt8} {next total : Nat}
theorem WnAt.set_total (h : WnAt B w g S v l next total) (t : Nat) (T : Int) (hT : T = (t : Int)) : WnAt B (w.setCell ⟨g, 3, none⟩ (.int .i64 T)) g S v l next t := by
  subst hT
  have hO : Only (fun k => g = k) w (w.setCell ⟨g, 3, none⟩ (.int .i64 (t : Int))) := (Only.refl _ w).setCell (p := ⟨g, 3, none⟩) (fun _ => rfl) _
  exact ⟨h.blk.set_ 3 _, hO.own h.own (fun k hk e => h.far (by rw [hk, ← e])), h.base⟩
theorem WnAt.set_next (h : WnAt B w g S v l next total) (t : Nat) : WnAt B (w.setCell ⟨g, 2, none⟩ (.int .i64 (t : Int))) g S v l t total := by
  have hO : Only (fun k => g = k) w (w.setCell ⟨g, 2, none⟩ (.int .i64 (t : Int))) := (Only.refl _ w).setCell (p := ⟨g, 2, none⟩) (fun _ => rfl) _
  exact ⟨h.blk.set_ 2 _, hO.own h.own (fun k hk e => h.far (by rw [hk, ← e])), h.base⟩
theorem WnAt.set_ring {o : Obj} (h : WnAt B w g S v l next total) (hown : Own 5 B w2 v' l') (hg : (w.alloc o).grownBy w2 v.ownBlock) : WnAt B (w2.setCell ⟨g, 1, none⟩ v') g S v' l' next total := by
  have hb2 := (h.blk.alloc o).grown hg (Ne.symm h.far)
  have hfar := own_len_ne hown hb2 (by decide)
  have hO : Only (fun k => g = k) w2 (w2.setCell ⟨g, 1, none⟩ v') := (Only.refl _ w2).setCell (p := ⟨g, 1, none⟩) (fun _ => rfl) _
  exact ⟨hb2.set_ 1 _, hO.own hown (fun k hk e => hfar (by rw [hk, ← e])), h.base⟩
theorem WnAt.set_byte {a n c : Nat} (h : WnAt B w g S (.slice (some ⟨a, 0, none⟩) n c) l next total) (hn : l.length = n) (i : Nat) (b : UInt8) : WnAt B (w.setCell ⟨a, i, none⟩ (bv b)) g S (.slice (some ⟨a, 0, none⟩) n c) (l.set i b) next total := by
  have hne : a ≠ g := fun e => h.far (by rw [e]; rfl)
  have hO : Only (fun k => a = k) w (w.setCell ⟨a, i, none⟩ (bv b)) := (Only.refl _ w).setCell (p := ⟨a, i, none⟩) (fun _ => rfl) _
  exact ⟨hO.blk h.blk hne, own_store h.own hn i b, h.base⟩
end

theorem left_end {B g S : Nat} {r : Option Nat} {w w4 : World} {v' : Value} {l' all' : List UInt8} {next n2 : Nat} {T : Nat} (h : WnAt B w4 g S v' l' next T) (hT : T = all'.length) (hO : Only (Fp g r) w w4) (hN : Nxt r w.heap.size v'.ownBlock) (hR : Ring S all' l' n2) (hS : 0 < S) (hS2 : S ≤ 65536) :
    Left B g S r w all' (w4.setCell ⟨g, 2, none⟩ (.int .i64 (n2 : Int))) :=
  ⟨v'.ownBlock, ⟨v', l', n2, hT ▸ h.set_next n2, rfl, hR, hS, hS2⟩, hO.setCell (p := ⟨g, 2, none⟩) (fun _ => .inl rfl) _, hN⟩

set_option maxRecDepth 100000 in
set_option maxHeartbeats 4000000 in
theorem put_any (c : UInt8) (B g S : Nat) (r : Option Nat) (all : List UInt8) (w : World) (h : Wn B w g S r all) (hl : all.length ≤ 100000000000) :
    Calls Tryz.prog 112 #[.pointer (some ⟨g, 0, none⟩), .int .u8 (c.toNat : Int)] w fun e w' => e = .returned (.tuple #[]) ∧ Left B g S r w (all ++ [c]) w' := by
  obtain ⟨v, l, next, hat, rfl, hring, hS, hS2⟩ := h
  obtain ⟨a0, c0, rfl, -⟩ := hat.own.bytes
  have hc3 := hat.blk.cell 3
  have hf3 := hat.blk.frozen 3
  simp only [List.getElem?_toArray, List.getElem?_cons_zero, List.getElem?_cons_succ] at hc3
  have hat1 := hat.set_total (all.length + 1) ((all.length : Int) + 1) (by omega)
  have HO1 : Hid (Only (Fp g (Value.ownBlock (.slice a0 l.length c0))) w (w.setCell ⟨g, 3, none⟩ (.int .i64 ((all.length : Int) + 1)))) := Lib.hid ((Only.refl _ w).setCell (p := ⟨g, 3, none⟩) (fun _ => .inl rfl) _)
  have HA := Lib.hid hat1
  have HR := Lib.hid hring
  have hSz : ((S : Int) == 0) = false := by simp; omega
  clear hat hat1 hring
  go_enter Tryz.func112, Tryz.ntmps112
  go_upto_region 2 with (fail)
  generalize w.setCell ⟨g, 3, none⟩ (.int .i64 ((all.length : Int) + 1)) = w1 at *
  clear hc3 hf3
  have hc0 := HA.out.blk.cell 0
  have hc1 := HA.out.blk.cell 1
  simp only [List.getElem?_toArray, List.getElem?_cons_zero, List.getElem?_cons_succ] at hc0 hc1
  have hnS : next < S := HR.out.lt hS
  by_cases hlt : l.length < S
  · go_upto_region 3 with (fail)
    go_quiet (fail)
    have HO2 := Lib.hid (HO1.out.drewN nq)
    have HA2 := Lib.hid (HA.out.only ((Only.refl (fun _ => False) w1).drewN nq) (fun h => h) (fun _ _ h => h))
    clear HO1 HA hc0 hc1
    generalize w1.drewN nq = w2 at *
    have hc1 := HA2.out.blk.cell 1
    simp only [List.getElem?_toArray, List.getElem?_cons_zero, List.getElem?_cons_succ] at hc1
    have hB : B ≤ w2.heap.size := by have := HA2.out.base; have := HA2.out.blk.lt; omega
    have hb1 : Bytes (w2.alloc (.cells #[.int .u8 (c.toNat : Int)] 5)) (some ⟨w2.heap.size, 0, none⟩) 1 1 [c] := one_bytes 5 w2 c
    have ho1 : Own 5 B (w2.alloc (.cells #[.int .u8 (c.toNat : Int)] 5)) (.slice a0 l.length c0) l := HA2.out.own.below (Nat.le_refl _) ((Below.refl _ w2).alloc (Nat.le_refl _) _)
    have HB1 := Lib.hid hb1
    have HO := Lib.hid ho1
    clear hb1 ho1
    go_wp2_with (at_builtin; refine wpList_append_lie (by rfl) (.tmp 32) (.tmp 34) 22 (by rfl) B 5 Tryz.underlying22 info5 (.slice a0 l.length c0) l (by rfl) HO.out (some ⟨w2.heap.size, 0, none⟩) 1 1 [c] (by rfl) HB1.out (by omega) (by simp; omega) ?_)
    intro a1 c1 w3 hown hgrow hnext
    have hO3 : Only (Fp g (Value.ownBlock (.slice a0 l.length c0))) w w3 := (HO2.out.alloc _).grown hgrow (fun k _ hk => .inr hk)
    have ha3 := HA2.out.set_ring hown hgrow
    have hbk := (HA2.out.blk.alloc (.cells #[.int .u8 (c.toNat : Int)] 5)).grown hgrow (Ne.symm HA2.out.far)
    have HA3 := Lib.hid ha3
    have HO3 := Lib.hid (hO3.setCell (p := ⟨g, 1, none⟩) (fun _ => .inl rfl) (.slice a1 (l.length + 1) c1))
    have HN3 : Hid (Nxt (Value.ownBlock (.slice a0 l.length c0)) w.heap.size (Value.ownBlock (.slice a1 (l.length + 1) c1))) := Lib.hid (by
      rcases hnext with h | ⟨k, h, hk⟩
      · exact .inl h
      · exact .inr ⟨k, h, by have := HO2.out.size; omega⟩)
    have hb1 := hbk.cell 1
    have hf1 := hbk.frozen 1
    simp only [List.getElem?_toArray, List.getElem?_cons_zero, List.getElem?_cons_succ] at hb1
    clear hO3 ha3 hbk hown hgrow hnext HO HB1 HA2 HO2 hc1
    go_upto_region 6 with (fail)
    generalize w3.setCell ⟨g, 1, none⟩ (.slice a1 (l.length + 1) c1) = w4 at *
    have hd2 := HA3.out.blk.cell 2
    have hg2 := HA3.out.blk.frozen 2
    simp only [List.getElem?_toArray, List.getElem?_cons_zero, List.getElem?_cons_succ] at hd2
    clear hb1 hf1
    go_wp2_with fail
    refine (after_any B g S next _ _ _ _ w4 HA3.out hS2 hnS).mono ?_
    rintro e w' ⟨rfl, rfl⟩
    go_wp2_with fail
    go_end0
    exact ⟨rfl, left_end HA3.out (by simp) HO3.out HN3.out (HR.out.push hS c hlt) hS hS2⟩
  · have hlen : l.length = S := by have := HR.out.le; omega
    obtain ⟨a, cc, hv, -⟩ := HA.out.own.some_ (by omega)
    simp only [Value.slice.injEq] at hv
    obtain ⟨rfl, -, -⟩ := hv
    have hnl : next < l.length := by omega
    go_upto_region 3 with (fail)
    go_quiet (fail)
    have HO2 := Lib.hid (HO1.out.drewN nq)
    have HA2 := Lib.hid (HA.out.only ((Only.refl (fun _ => False) w1).drewN nq) (fun h => h) (fun _ _ h => h))
    clear HO1 HA hc0 hc1
    generalize w1.drewN nq = w2 at *
    have hc1 := HA2.out.blk.cell 1
    have hc2 := HA2.out.blk.cell 2
    simp only [List.getElem?_toArray, List.getElem?_cons_zero, List.getElem?_cons_succ] at hc1 hc2
    go_upto_region 5 with (fail)
    go_still_tail 10, (by kernel_rfl)
    clear hc1 hc2
    have HO3 := Lib.hid HO2.out.drew
    have HA3 := Lib.hid (HA2.out.only ((Only.refl (fun _ => False) w2).drew) (fun h => h) (fun _ _ h => h))
    clear HO2 HA2
    change wpList _ _ _ _ _ w2.drew
    generalize w2.drew = w3 at *
    have hc1 := HA3.out.blk.cell 1
    have hc2 := HA3.out.blk.cell 2
    simp only [List.getElem?_toArray, List.getElem?_cons_zero, List.getElem?_cons_succ] at hc1 hc2
    have hce := own_cell HA3.out.own rfl next hnl
    have hfr := own_free HA3.out.own rfl next
    have ha4 := HA3.out.set_byte rfl next c
    unfold bv at hce ha4
    have HA4 := Lib.hid ha4
    have HO4 := Lib.hid (HO3.out.setCell (p := ⟨a, next, none⟩) (fun _ => .inr rfl) (.int .u8 (c.toNat : Int)))
    clear ha4 HO3
    go_upto_region 6 with (fail)
    generalize w3.setCell ⟨a, next, none⟩ (.int .u8 (c.toNat : Int)) = w4 at *
    have hd2 := HA4.out.blk.cell 2
    have hg2 := HA4.out.blk.frozen 2
    simp only [List.getElem?_toArray, List.getElem?_cons_zero, List.getElem?_cons_succ] at hd2
    clear hce hfr hc1 hc2
    go_wp2_with fail
    refine (after_any B g S next _ _ _ _ w4 HA4.out hS2 hnS).mono ?_
    rintro e w' ⟨rfl, rfl⟩
    go_wp2_with fail
    go_end0
    exact ⟨rfl, left_end HA4.out (by simp) HO4.out (.inl rfl) (HR.out.put hS c hlt) hS hS2⟩
end Go.Proofs.YtdbcendnibgcaaaGreatDoor.WinC
end

section
/-
  Copy on a window.
-/
namespace Go.Proofs.YtdbcendnibgcaaaGreatDoor.WinC
open Go.RowKit Go.My WinMath

theorem copy_arg (d n : Int) (v : Value) (w : World) (h : n < 0 ∨ 65538 < n) : Calls Tryz.prog 103 #[v, .int .i64 d, .int .i64 n] w fun e w' => e = .returned (.tuple #[.slice none 0 0, .int .i64 1]) ∧ w = w' := by
  by_cases h1 : n < 0
  · go_enter Tryz.func103, Tryz.ntmps103
    go_wp2_with fail
    go_ret2
    exact ⟨rfl, rfl⟩
  · have h2 : 65538 < n := by omega
    go_enter Tryz.func103, Tryz.ntmps103
    go_wp2_with fail
    go_ret2
    exact ⟨rfl, rfl⟩

theorem copy_form (d n : Int) (B g S : Nat) (r : Option Nat) (all : List UInt8) (w : World) (hw : Wn B w g S r all) (h1 : 0 ≤ n) (h2 : n ≤ 65538) (h : d < 1 ∨ ((min all.length S : Nat) : Int) < d) :
    Calls Tryz.prog 103 #[.pointer (some ⟨g, 0, none⟩), .int .i64 d, .int .i64 n] w fun e w' => e = .returned (.tuple #[.slice none 0 0, .int .i64 2]) ∧ w = w' := by
  have H := Lib.hid hw
  clear hw
  have h3 : ¬ n < 0 := by omega
  have h4 : ¬ 65538 < n := by omega
  by_cases h5 : d < 1
  · go_enter Tryz.func103, Tryz.ntmps103
    go_wp2_with fail
    go_ret2
    exact ⟨rfl, rfl⟩
  · have h6 : ((min all.length S : Nat) : Int) < d := by omega
    generalize hM : min all.length S = M at *
    have HM := Lib.hid hM
    clear hM
    go_enter Tryz.func103, Tryz.ntmps103
    go_wp2_with fail
    refine (have_any B g S r all w H.out).mono ?_
    rw [HM.out]
    rintro e w' ⟨rfl, rfl⟩
    go_wp2_with fail
    go_ret2
    exact ⟨rfl, rfl⟩

/-- The row that Copy fills, behind k rounds. -/
def lst (all : List UInt8) (d n k : Nat) : List UInt8 := copy all d k ++ List.replicate (n - k) 0
theorem lst_len (all : List UInt8) (d n k : Nat) (h : k ≤ n) : (lst all d n k).length = n := by unfold lst; simp [copy_len]; omega
theorem lst_set (all : List UInt8) (d n k : Nat) (h : k < n) : (lst all d n k).set k ((grow all d k).getD ((grow all d k).length - d) 0) = lst all d n (k + 1) := by
  unfold lst
  rw [List.set_append_right _ _ (by rw [copy_len]; omega), copy_len, Nat.sub_self, show n - k = (n - (k + 1)) + 1 from by omega, List.replicate_succ, List.set_cons_zero, copy_succ, List.append_assoc]
  rfl

/-- What Copy's rounds keep: the window behind all', the row. -/
structure Cp (B g S : Nat) (r : Option Nat) (W : Nat) (w1 : World) (gb n : Nat) (all row : List UInt8) (wr : World) (r' : Option Nat) : Prop where
  wn : Wn B wr g S r' all
  only : Only (fun j => Fp g r j ∨ j = gb) w1 wr
  next : Nxt r w1.heap.size r'
  own : Own 5 W wr (.slice (some ⟨gb, 0, none⟩) n n) row
  gne : gb ≠ g
  rne : r ≠ some gb
  glt : gb < w1.heap.size

section
variable {B g S W gb n : Nat} {r r' : Option Nat} {w1 wr w' : World} {all all' row : List UInt8}
theorem Cp.rne' (h : Cp B g S r W w1 gb n all row wr r') : r' ≠ some gb := by
  rcases h.next with e | ⟨j, e, hj⟩
  · rw [e]; exact h.rne
  · intro e2
    rw [e] at e2
    injection e2 with e2
    have := h.glt
    omega
theorem Cp.store (h : Cp B g S r W w1 gb n all row wr r') (hn : row.length = n) (k : Nat) (x : UInt8) : Cp B g S r W w1 gb n all (row.set k x) (wr.setCell ⟨gb, k, none⟩ (bv x)) r' := by
  have hO : Only (fun j => gb = j) wr (wr.setCell ⟨gb, k, none⟩ (bv x)) := (Only.refl _ wr).setCell (p := ⟨gb, k, none⟩) (fun _ => rfl) _
  exact ⟨h.wn.only hO h.gne (fun j hj e => h.rne' (by rw [hj, ← e])), h.only.setCell (p := ⟨gb, k, none⟩) (fun _ => .inr rfl) _, h.next, own_store h.own hn k x, h.gne, h.rne, h.glt⟩
theorem Cp.put (h : Cp B g S r W w1 gb n all row wr r') (hp : Left B g S r' wr all' w') : ∃ r2, Cp B g S r W w1 gb n all' row w' r2 := by
  obtain ⟨r2, h1, h2, h3⟩ := hp
  refine ⟨r2, h1, h.only.trans h2 (fun i hi e => ?_), h.next.trans h3 h.only.size, ?_, h.gne, h.rne, h.glt⟩
  · rcases e with rfl | e
    · exact .inl (.inl rfl)
    · rcases h.next with e2 | ⟨j, e2, hj⟩
      · exact .inl (.inr (by rw [← e2]; exact e))
      · rw [e2] at e
        injection e with e
        omega
  · refine h2.own h.own (fun j hj e => ?_)
    injection hj with hj
    subst hj
    rcases e with e | e
    · exact h.gne e
    · exact h.rne' e
end

def Copied (B g S : Nat) (r : Option Nat) (all : List UInt8) (d n : Nat) (w : World) (e : Ending) (w' : World) : Prop :=
  ∃ b, e = .returned (.tuple #[.slice (some ⟨b, 0, none⟩) n n, .int .i64 0]) ∧ Own 5 w.heap.size w' (.slice (some ⟨b, 0, none⟩) n n) (copy all d n) ∧ Left B g S r w (grow all d n) w'

set_option maxRecDepth 100000 in
set_option maxHeartbeats 4000000 in
theorem copy_ok (d n B g S : Nat) (r : Option Nat) (all : List UInt8) (w : World) (hw : Wn B w g S r all) (hn : n ≤ 65538) (h1 : 1 ≤ d) (h2 : d ≤ min all.length S) (hl : all.length ≤ 10000000000) :
    Calls Tryz.prog 103 #[.pointer (some ⟨g, 0, none⟩), .int .i64 (d : Int), .int .i64 (n : Int)] w (Copied B g S r all d n w) := by
  have H := Lib.hid hw
  have HB := Lib.hid hw.base
  obtain ⟨v, l, next, hat, hr0, hring, hS, hS2⟩ := hw
  have hc0 := hat.blk.cell 0
  have hc2 := hat.blk.cell 2
  simp only [List.getElem?_toArray, List.getElem?_cons_zero, List.getElem?_cons_succ] at hc0 hc2
  have h3 : ¬ (n : Int) < 0 := by omega
  have h4 : ¬ 65538 < (n : Int) := by omega
  have h5 : ¬ (d : Int) < 1 := by omega
  have hfr := hring.from_ hS d h1 (by rw [hring.len]; omega)
  have hnx := hring.lt hS
  obtain ⟨F, hF⟩ : ∃ F, F = (all.length - d) % S := ⟨_, rfl⟩
  rw [← hF] at hfr
  have HF := Lib.hid hF
  clear hF
  have h6 : ¬ (min all.length S : Nat) < d := by omega
  obtain ⟨M, hM⟩ : ∃ M, M = min all.length S := ⟨_, rfl⟩
  rw [← hM] at h6 h2
  have HM := Lib.hid hM
  clear hM hat hring hr0
  go_enter Tryz.func103, Tryz.ntmps103
  go_wp2_with fail
  refine (have_any B g S r all w H.out).mono ?_
  rw [← HM.out]
  rintro e w' ⟨rfl, rfl⟩
  go_upto_if 32 with (fail)
  go_cut [8] (fun v wc => v = .int .i64 (F : Int) ∧ wc = w)
  case first =>
    by_cases hneg : (next : Int) - (d : Int) < 0
    · rw [if_pos hneg] at hfr
      go_wp2_with fail
      go_meet
      case rel => exact ⟨rfl, rfl⟩
    · rw [if_neg hneg] at hfr
      go_wp2_with fail
      go_meet
      case rel => exact ⟨rfl, rfl⟩
  obtain ⟨rfl, rfl⟩ := hcut
  clear hc0 hc2 hfr hnx next h6
  go_wp2_with (at_make; refine wpList_make_bytes _ rfl (.tmp 39) (.tmp 39) 22 rfl wc.heap.size 5 Tryz.underlying22 info5 .i64 .i64 n rfl rfl (by omega) (Nat.le_refl _) ?_)
  intro w1 hown hg
  have HB1 : Hid (Below wc.heap.size wc w1) := Lib.hid (grown_none_below (Below.refl wc.heap.size wc) hg (Nat.le_refl _))
  have hlt := (World.ownsRow.lt hown wc.heap.size rfl).2
  have HC : Hid (Cp B g S r wc.heap.size w1 wc.heap.size n (grow all d 0) (lst all d n 0) w1 r) := Lib.hid (by
    refine ⟨H.out.below HB1.out, Only.refl _ _, Nxt.refl _ _, ?_, ?_, ?_, hlt⟩
    · unfold lst; rw [copy_zero]; simpa using hown
    · have := H.out.lt; omega
    · intro e; have := (H.out.rlt _ e).2; omega)
  clear hown hg hlt
  go_wp2_with fail
  generalize hgb : wc.heap.size = gb at *
  have HGB := Lib.hid hgb
  clear hgb
  go_loopw [8, 42] (fun f i wr => ∃ (k : Nat) (r' : Option Nat), k ≤ n ∧ i = .int .i64 (k : Int) ∧ f = .int .i64 (((all.length + k - d) % S : Nat) : Int) ∧ Hid (Cp B g S r gb w1 gb n (grow all d k) (lst all d n k) wr r')) (fun _ i _ => n - (intOf i).toNat)
  case atStart => exact ⟨0, r, Nat.zero_le _, rfl, by rw [HF.out]; rfl, HC⟩
  case round =>
    clear HC
    obtain ⟨k, r', hk, rfl, rfl, HC⟩ := hrel
    by_cases hlt : k < n
    · obtain ⟨v, l, next, hat, -, hring, -, -⟩ := HC.out.wn
      have hgl := grow_len all d k
      obtain ⟨hFl, hFe⟩ := hring.get d h1 (by rw [hring.len, hgl]; have := HM.out; omega)
      have hll := hring.len
      obtain ⟨a, cc, rfl, -⟩ := hat.own.some_ (show 0 < l.length by omega)
      have hnx : after S ((all.length + k - d) % S) = (all.length + (k + 1) - d) % S := by
        rw [after_mod _ _ hS]; congr 1; have := HM.out; omega
      rw [hgl] at hFl hFe
      have hx : l[(all.length + k - d) % S] = (grow all d k).getD ((grow all d k).length - d) 0 := by
        rw [List.getD_eq_getElem?_getD, hgl, ← hFe, List.getElem?_eq_getElem hFl]; rfl
      have hce := own_cell hat.own rfl _ hFl
      rw [hx] at hce
      have hls := lst_len all d n k hk
      have hset := lst_set all d n k hlt
      have hgs := grow_succ all d k
      have hFS : (all.length + k - d) % S < S := Nat.mod_lt _ hS
      generalize (grow all d k).getD ((grow all d k).length - d) 0 = x at hce hset hgs
      have HNX := Lib.hid hnx
      have HGS := Lib.hid hgs
      have HGL := Lib.hid hgl
      clear hnx hFe hx hring hgs hgl
      obtain ⟨Fk, hFk⟩ : ∃ Fk, Fk = (all.length + k - d) % S := ⟨_, rfl⟩
      rw [← hFk] at hce hFl hFS HNX ⊢
      clear hFk
      have hc1 := hat.blk.cell 1
      simp only [List.getElem?_toArray, List.getElem?_cons_zero, List.getElem?_cons_succ] at hc1
      have hck := own_cell HC.out.own hls k (by omega)
      have hfk := own_free HC.out.own hls k
      unfold bv at hce hck
      generalize (lst all d n k)[k] = y at hck
      have hst := HC.out.store hls k x
      have hgx : (lst all d n (k + 1))[k]? = some x := by rw [← hset, List.getElem?_set_self (by omega)]
      rw [hset] at hst
      unfold bv at hst
      have HST := Lib.hid hst
      clear hst hset hls hat hll
      go_upto_region 13 with (fail)
      generalize wr.setCell ⟨gb, k, none⟩ (.int .u8 (x.toNat : Int)) = w2 at *
      clear hck hfk hc1 hce
      have hck : w2.cell? ⟨gb, k, none⟩ = some (.int .u8 (x.toNat : Int)) := by
        have hls := lst_len all d n (k + 1) hlt
        have h := own_cell HST.out.own hls k (by omega)
        rw [List.getElem?_eq_getElem (by omega)] at hgx
        injection hgx with hgx
        rw [hgx] at h
        exact h
      clear hgx
      go_wp2_with fail
      refine (put_any x B g S r' (grow all d k) w2 HST.out.wn (by rw [HGL.out]; omega)).mono ?_
      rintro e w3 ⟨rfl, hp⟩
      rw [← HGS.out] at hp
      obtain ⟨r2, h3⟩ := HST.out.put hp
      have H3 := Lib.hid h3
      clear hp h3 hck HST
      obtain ⟨v3, l3, next3, hat3, -, -, -, -⟩ := H3.out.wn
      have HAT := Lib.hid hat3
      clear hat3
      go_wp2_with fail
      refine (after_any B g S Fk _ _ _ _ w3 HAT.out hS2 hFS).mono ?_
      rw [HNX.out]
      rintro e w' ⟨rfl, rfl⟩
      clear HAT
      go_wp2_with fail
      go_roundw
      case rel => exact ⟨k + 1, r2, by omega, by go_num, rfl, H3⟩
      case measure => simp [intOf]; omega
    · obtain rfl : k = n := by omega
      go_wp2_with fail
      go_ret2
      refine ⟨gb, rfl, ?_, r', HC.out.wn, ?_, ?_⟩
      · rw [HGB.out]
        have := HC.out.own
        unfold lst at this
        rw [Nat.sub_self, List.replicate_zero, List.append_nil] at this
        exact this
      · refine (Only.of_below (HGB.out.symm ▸ HB1.out) (Fp g r)).trans HC.out.only (fun i hi e => ?_)
        rcases e with e | e
        · exact e
        · have := HGB.out; omega
      · rcases HC.out.next with e | ⟨j, e, hj⟩
        · exact .inl e
        · exact .inr ⟨j, e, by have := HB1.out.size; omega⟩
end Go.Proofs.YtdbcendnibgcaaaGreatDoor.WinC
end

section
/-
  canon.Kind alone (for seats that call it and not Kraft).
-/
namespace Go.Proofs.YtdbcendnibgcaaaGreatDoor.CanC
open Go.RowKit Go.My BitMath CanMath

section
variable {a : Option Addr} {len cap : Nat} {zs : List Int} {w : World}
set_option maxRecDepth 100000 in
set_option maxHeartbeats 2000000 in
theorem kind_good (h : RowIn w a len cap (zs.map iv)) (hg : Good zs) :
    Calls Tryz.prog 95 #[.slice a len cap] w fun e w' => e = .returned (.int .i64 (kindN (nat zs))) ∧ Below w.heap.size w w' := by
  have HG := Lib.hid hg
  have HR := Lib.hid h
  clear hg h
  go_enter Tryz.func95, Tryz.ntmps95
  go_wp2_with fail
  refine (tally_any a len cap zs w HR.out).mono ?_
  rintro e w2 ⟨he, hb2⟩
  obtain ⟨C, hN, rfl⟩ := he.1 HG.out
  have HN := Lib.hid hN
  have HB := Lib.hid hb2
  have HS : Hid ((Tryz.prog.info? 147).map (·.size) = some C.size) := Lib.hid (by rw [hN.size]; exact info_cnt)
  have HS2 : Hid (z16.size = C.size) := Lib.hid (by rw [hN.size]; rfl)
  have HX : Hid (Blk (w2.alloc (.cells z16 147)) w2.heap.size 147 z16) := Lib.hid (Blk.new w2 _ _)
  clear he hN hb2
  go_wp2_with (first
    | (refine wpList_store_row rfl _ _ _ rfl w2.heap.size _ rfl rfl 147 z16 HX.out HS.out HS2.out HN.out.one ?_)
    | (refine wpList_load_row rfl 147 _ rfl w2.heap.size rfl 147 C (0, 0) _ (HX.out.row C) Tryz.underlying147 rfl HS.out ?_))
  have HB2 : Hid (Below w.heap.size w ((w2.alloc (.cells z16 147)).setRow w2.heap.size C)) := Lib.hid (below_row (HB.out.alloc HB.out.size _) HB.out.size C)
  refine (kind_any C _ _ HN.out HG.out.all (by rw [nat_len]; exact HG.out.1)).mono ?_
  rintro e w3 ⟨rfl, hb3⟩
  have HB3 := Lib.hid (HB2.out.trans (hb3.mono HB2.out.size))
  clear hb3
  go_wp2_with fail
  go_ret
  exact ⟨rfl, HB3.out⟩
set_option maxRecDepth 100000 in
set_option maxHeartbeats 2000000 in
theorem kind_bad (h : RowIn w a len cap (zs.map iv)) (hg : ¬ Good zs) :
    Calls Tryz.prog 95 #[.slice a len cap] w fun e w' => e = .returned (.int .i64 4) ∧ Below w.heap.size w w' := by
  have HG := Lib.hid hg
  have HR := Lib.hid h
  clear hg h
  go_enter Tryz.func95, Tryz.ntmps95
  go_wp2_with fail
  refine (tally_any a len cap zs w HR.out).mono ?_
  rintro e w2 ⟨he, hb2⟩
  obtain ⟨C, f, hN, rfl⟩ := he.2 HG.out
  have HN := Lib.hid hN
  have HB := Lib.hid hb2
  have HS : Hid ((Tryz.prog.info? 147).map (·.size) = some C.size) := Lib.hid (by rw [hN.size]; exact info_cnt)
  have HS2 : Hid (z16.size = C.size) := Lib.hid (by rw [hN.size]; rfl)
  have HX : Hid (Blk (w2.alloc (.cells z16 147)) w2.heap.size 147 z16) := Lib.hid (Blk.new w2 _ _)
  clear he hN hb2
  go_wp2_with (first
    | (refine wpList_store_row rfl _ _ _ rfl w2.heap.size _ rfl rfl 147 z16 HX.out HS.out HS2.out HN.out.one ?_))
  go_ret
  exact ⟨rfl, below_row (HB.out.alloc HB.out.size _) HB.out.size C⟩
end
end Go.Proofs.YtdbcendnibgcaaaGreatDoor.CanC
end
