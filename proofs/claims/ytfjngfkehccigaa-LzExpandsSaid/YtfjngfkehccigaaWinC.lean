/-
  Copy on a window.
-/
import Derived.Test.YtfjngfkehccigaaWinP
namespace Go.Proofs.Ytfjngfkehccigaa.WinC
open Go.RowKit Go.My WinMath

theorem copy_arg (d n : Int) (v : Value) (w : World) (h : n < 0 ∨ 65538 < n) : Calls Try.prog 22 #[v, .int .i64 d, .int .i64 n] w fun e w' => e = .returned (.tuple #[.slice none 0 0, .int .i64 1]) ∧ w = w' := by
  by_cases h1 : n < 0
  · go_enter Try.func22, Try.ntmps22
    go_wp2_with fail
    go_ret2
    exact ⟨rfl, rfl⟩
  · have h2 : 65538 < n := by omega
    go_enter Try.func22, Try.ntmps22
    go_wp2_with fail
    go_ret2
    exact ⟨rfl, rfl⟩

theorem copy_form (d n : Int) (B g S : Nat) (r : Option Nat) (all : List UInt8) (w : World) (hw : Wn B w g S r all) (h1 : 0 ≤ n) (h2 : n ≤ 65538) (h : d < 1 ∨ ((min all.length S : Nat) : Int) < d) :
    Calls Try.prog 22 #[.pointer (some ⟨g, 0, none⟩), .int .i64 d, .int .i64 n] w fun e w' => e = .returned (.tuple #[.slice none 0 0, .int .i64 2]) ∧ w = w' := by
  have H := Lib.hid hw
  clear hw
  have h3 : ¬ n < 0 := by omega
  have h4 : ¬ 65538 < n := by omega
  by_cases h5 : d < 1
  · go_enter Try.func22, Try.ntmps22
    go_wp2_with fail
    go_ret2
    exact ⟨rfl, rfl⟩
  · have h6 : ((min all.length S : Nat) : Int) < d := by omega
    generalize hM : min all.length S = M at *
    have HM := Lib.hid hM
    clear hM
    go_enter Try.func22, Try.ntmps22
    go_wp2_with fail
    refine (have_any B g S r all w H.out).mono ?_
    rw [HM.out]
    rintro e w' ⟨rfl, rfl⟩
    go_wp2_with fail
    go_ret2
    exact ⟨rfl, rfl⟩

/-- The row that Copy fills, behind k rounds. -/
def lst (all : List UInt8) (d n k : Nat) : List UInt8 := copy all d k ++ List.replicate (n - k) 0
theorem lst_len (all : List UInt8) (d n k : Nat) (h : k ≤ n) : (lst all d n k).length = n := by unfold lst; simp [copy_len]; omega
theorem lst_set (all : List UInt8) (d n k : Nat) (h : k < n) : (lst all d n k).set k ((grow all d k).getD ((grow all d k).length - d) 0) = lst all d n (k + 1) := by
  unfold lst
  rw [List.set_append_right _ _ (by rw [copy_len]; omega), copy_len, Nat.sub_self, show n - k = (n - (k + 1)) + 1 from by omega, List.replicate_succ, List.set_cons_zero, copy_succ, List.append_assoc]
  rfl

/-- What Copy's rounds keep: the window behind all', the row. -/
structure Cp (B g S : Nat) (r : Option Nat) (W : Nat) (w1 : World) (gb n : Nat) (all row : List UInt8) (wr : World) (r' : Option Nat) : Prop where
  wn : Wn B wr g S r' all
  only : Only (fun j => Fp g r j ∨ j = gb) w1 wr
  next : Nxt r w1.heap.size r'
  own : Own 5 W wr (.slice (some ⟨gb, 0, none⟩) n n) row
  gne : gb ≠ g
  rne : r ≠ some gb
  glt : gb < w1.heap.size

section
variable {B g S W gb n : Nat} {r r' : Option Nat} {w1 wr w' : World} {all all' row : List UInt8}
theorem Cp.rne' (h : Cp B g S r W w1 gb n all row wr r') : r' ≠ some gb := by
  rcases h.next with e | ⟨j, e, hj⟩
  · rw [e]; exact h.rne
  · intro e2
    rw [e] at e2
    injection e2 with e2
    have := h.glt
    omega
theorem Cp.store (h : Cp B g S r W w1 gb n all row wr r') (hn : row.length = n) (k : Nat) (x : UInt8) : Cp B g S r W w1 gb n all (row.set k x) (wr.setCell ⟨gb, k, none⟩ (bv x)) r' := by
  have hO : Only (fun j => gb = j) wr (wr.setCell ⟨gb, k, none⟩ (bv x)) := (Only.refl _ wr).setCell (p := ⟨gb, k, none⟩) (fun _ => rfl) _
  exact ⟨h.wn.only hO h.gne (fun j hj e => h.rne' (by rw [hj, ← e])), h.only.setCell (p := ⟨gb, k, none⟩) (fun _ => .inr rfl) _, h.next, own_store h.own hn k x, h.gne, h.rne, h.glt⟩
theorem Cp.put (h : Cp B g S r W w1 gb n all row wr r') (hp : Left B g S r' wr all' w') : ∃ r2, Cp B g S r W w1 gb n all' row w' r2 := by
  obtain ⟨r2, h1, h2, h3⟩ := hp
  refine ⟨r2, h1, h.only.trans h2 (fun i hi e => ?_), h.next.trans h3 h.only.size, ?_, h.gne, h.rne, h.glt⟩
  · rcases e with rfl | e
    · exact .inl (.inl rfl)
    · rcases h.next with e2 | ⟨j, e2, hj⟩
      · exact .inl (.inr (by rw [← e2]; exact e))
      · rw [e2] at e
        injection e with e
        omega
  · refine h2.own h.own (fun j hj e => ?_)
    injection hj with hj
    subst hj
    rcases e with e | e
    · exact h.gne e
    · exact h.rne' e
end

def Copied (B g S : Nat) (r : Option Nat) (all : List UInt8) (d n : Nat) (w : World) (e : Ending) (w' : World) : Prop :=
  ∃ b, e = .returned (.tuple #[.slice (some ⟨b, 0, none⟩) n n, .int .i64 0]) ∧ Own 5 w.heap.size w' (.slice (some ⟨b, 0, none⟩) n n) (copy all d n) ∧ Left B g S r w (grow all d n) w'

set_option maxRecDepth 100000 in
set_option maxHeartbeats 4000000 in
theorem copy_ok (d n B g S : Nat) (r : Option Nat) (all : List UInt8) (w : World) (hw : Wn B w g S r all) (hn : n ≤ 65538) (h1 : 1 ≤ d) (h2 : d ≤ min all.length S) (hl : all.length ≤ 10000000000) :
    Calls Try.prog 22 #[.pointer (some ⟨g, 0, none⟩), .int .i64 (d : Int), .int .i64 (n : Int)] w (Copied B g S r all d n w) := by
  have H := Lib.hid hw
  have HB := Lib.hid hw.base
  obtain ⟨v, l, next, hat, hr0, hring, hS, hS2⟩ := hw
  have hc0 := hat.blk.cell 0
  have hc2 := hat.blk.cell 2
  simp only [List.getElem?_toArray, List.getElem?_cons_zero, List.getElem?_cons_succ] at hc0 hc2
  have h3 : ¬ (n : Int) < 0 := by omega
  have h4 : ¬ 65538 < (n : Int) := by omega
  have h5 : ¬ (d : Int) < 1 := by omega
  have hfr := hring.from_ hS d h1 (by rw [hring.len]; omega)
  have hnx := hring.lt hS
  obtain ⟨F, hF⟩ : ∃ F, F = (all.length - d) % S := ⟨_, rfl⟩
  rw [← hF] at hfr
  have HF := Lib.hid hF
  clear hF
  have h6 : ¬ (min all.length S : Nat) < d := by omega
  obtain ⟨M, hM⟩ : ∃ M, M = min all.length S := ⟨_, rfl⟩
  rw [← hM] at h6 h2
  have HM := Lib.hid hM
  clear hM hat hring hr0
  go_enter Try.func22, Try.ntmps22
  go_wp2_with fail
  refine (have_any B g S r all w H.out).mono ?_
  rw [← HM.out]
  rintro e w' ⟨rfl, rfl⟩
  go_upto_if 32 with (fail)
  go_cut [8] (fun v wc => v = .int .i64 (F : Int) ∧ wc = w)
  case first =>
    by_cases hneg : (next : Int) - (d : Int) < 0
    · rw [if_pos hneg] at hfr
      go_wp2_with fail
      go_meet
      case rel => exact ⟨rfl, rfl⟩
    · rw [if_neg hneg] at hfr
      go_wp2_with fail
      go_meet
      case rel => exact ⟨rfl, rfl⟩
  obtain ⟨rfl, rfl⟩ := hcut
  clear hc0 hc2 hfr hnx next h6
  go_wp2_with (at_make; refine wpList_make_bytes _ rfl (.tmp 39) (.tmp 39) 29 rfl wc.heap.size 5 Try.underlying29 info5 .i64 .i64 n rfl rfl (by omega) (Nat.le_refl _) ?_)
  intro w1 hown hg
  have HB1 : Hid (Below wc.heap.size wc w1) := Lib.hid (grown_none_below (Below.refl wc.heap.size wc) hg (Nat.le_refl _))
  have hlt := (World.ownsRow.lt hown wc.heap.size rfl).2
  have HC : Hid (Cp B g S r wc.heap.size w1 wc.heap.size n (grow all d 0) (lst all d n 0) w1 r) := Lib.hid (by
    refine ⟨H.out.below HB1.out, Only.refl _ _, Nxt.refl _ _, ?_, ?_, ?_, hlt⟩
    · unfold lst; rw [copy_zero]; simpa using hown
    · have := H.out.lt; omega
    · intro e; have := (H.out.rlt _ e).2; omega)
  clear hown hg hlt
  go_wp2_with fail
  generalize hgb : wc.heap.size = gb at *
  have HGB := Lib.hid hgb
  clear hgb
  go_loopw [8, 42] (fun f i wr => ∃ (k : Nat) (r' : Option Nat), k ≤ n ∧ i = .int .i64 (k : Int) ∧ f = .int .i64 (((all.length + k - d) % S : Nat) : Int) ∧ Hid (Cp B g S r gb w1 gb n (grow all d k) (lst all d n k) wr r')) (fun _ i _ => n - (intOf i).toNat)
  case atStart => exact ⟨0, r, Nat.zero_le _, rfl, by rw [HF.out]; rfl, HC⟩
  case round =>
    clear HC
    obtain ⟨k, r', hk, rfl, rfl, HC⟩ := hrel
    by_cases hlt : k < n
    · obtain ⟨v, l, next, hat, -, hring, -, -⟩ := HC.out.wn
      have hgl := grow_len all d k
      obtain ⟨hFl, hFe⟩ := hring.get d h1 (by rw [hring.len, hgl]; have := HM.out; omega)
      have hll := hring.len
      obtain ⟨a, cc, rfl, -⟩ := hat.own.some_ (show 0 < l.length by omega)
      have hnx : after S ((all.length + k - d) % S) = (all.length + (k + 1) - d) % S := by
        rw [after_mod _ _ hS]; congr 1; have := HM.out; omega
      rw [hgl] at hFl hFe
      have hx : l[(all.length + k - d) % S] = (grow all d k).getD ((grow all d k).length - d) 0 := by
        rw [List.getD_eq_getElem?_getD, hgl, ← hFe, List.getElem?_eq_getElem hFl]; rfl
      have hce := own_cell hat.own rfl _ hFl
      rw [hx] at hce
      have hls := lst_len all d n k hk
      have hset := lst_set all d n k hlt
      have hgs := grow_succ all d k
      have hFS : (all.length + k - d) % S < S := Nat.mod_lt _ hS
      generalize (grow all d k).getD ((grow all d k).length - d) 0 = x at hce hset hgs
      have HNX := Lib.hid hnx
      have HGS := Lib.hid hgs
      have HGL := Lib.hid hgl
      clear hnx hFe hx hring hgs hgl
      obtain ⟨Fk, hFk⟩ : ∃ Fk, Fk = (all.length + k - d) % S := ⟨_, rfl⟩
      rw [← hFk] at hce hFl hFS HNX ⊢
      clear hFk
      have hc1 := hat.blk.cell 1
      simp only [List.getElem?_toArray, List.getElem?_cons_zero, List.getElem?_cons_succ] at hc1
      have hck := own_cell HC.out.own hls k (by omega)
      have hfk := own_free HC.out.own hls k
      unfold bv at hce hck
      generalize (lst all d n k)[k] = y at hck
      have hst := HC.out.store hls k x
      have hgx : (lst all d n (k + 1))[k]? = some x := by rw [← hset, List.getElem?_set_self (by omega)]
      rw [hset] at hst
      unfold bv at hst
      have HST := Lib.hid hst
      clear hst hset hls hat hll
      go_upto_region 13 with (fail)
      generalize wr.setCell ⟨gb, k, none⟩ (.int .u8 (x.toNat : Int)) = w2 at *
      clear hck hfk hc1 hce
      have hck : w2.cell? ⟨gb, k, none⟩ = some (.int .u8 (x.toNat : Int)) := by
        have hls := lst_len all d n (k + 1) hlt
        have h := own_cell HST.out.own hls k (by omega)
        rw [List.getElem?_eq_getElem (by omega)] at hgx
        injection hgx with hgx
        rw [hgx] at h
        exact h
      clear hgx
      go_wp2_with fail
      refine (put_any x B g S r' (grow all d k) w2 HST.out.wn (by rw [HGL.out]; omega)).mono ?_
      rintro e w3 ⟨rfl, hp⟩
      rw [← HGS.out] at hp
      obtain ⟨r2, h3⟩ := HST.out.put hp
      have H3 := Lib.hid h3
      clear hp h3 hck HST
      obtain ⟨v3, l3, next3, hat3, -, -, -, -⟩ := H3.out.wn
      have HAT := Lib.hid hat3
      clear hat3
      go_wp2_with fail
      refine (after_any B g S Fk _ _ _ _ w3 HAT.out hS2 hFS).mono ?_
      rw [HNX.out]
      rintro e w' ⟨rfl, rfl⟩
      clear HAT
      go_wp2_with fail
      go_roundw
      case rel => exact ⟨k + 1, r2, by omega, by go_num, rfl, H3⟩
      case measure => simp [intOf]; omega
    · obtain rfl : k = n := by omega
      go_wp2_with fail
      go_ret2
      refine ⟨gb, rfl, ?_, r', HC.out.wn, ?_, ?_⟩
      · rw [HGB.out]
        have := HC.out.own
        unfold lst at this
        rw [Nat.sub_self, List.replicate_zero, List.append_nil] at this
        exact this
      · refine (Only.of_below (HGB.out.symm ▸ HB1.out) (Fp g r)).trans HC.out.only (fun i hi e => ?_)
        rcases e with e | e
        · exact e
        · have := HGB.out; omega
      · rcases HC.out.next with e | ⟨j, e, hj⟩
        · exact .inl e
        · exact .inr ⟨j, e, by have := HB1.out.size; omega⟩
end Go.Proofs.Ytfjngfkehccigaa.WinC
