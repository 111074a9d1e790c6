/-
  literals; Tokens with Store.
-/
import Derived.Test.YtfdfggomgaegoaaMatH
import Derived.Test.YtfdfggomgaegoaaRow
namespace Go.Proofs.Ytfdfggomgaegoaa.MatC
open Go.RowKit Go.My MatMath LzC

def upd (f : Nat → LzMath.Tok) (i : Nat) (t : LzMath.Tok) : Nat → LzMath.Tok := fun j => if j = i then t else f j
theorem toks_set (f : Nat → LzMath.Tok) (i : Nat) (t : LzMath.Tok) (n : Nat) (hi : i < n) :
    (((toks f n).set (i * 3) (.int .i64 t.len)).set (i * 3 + 1) (.int .i64 t.dist)).set (i * 3 + 2) (.int .u8 (t.byte.toNat : Int)) = toks (upd f i t) n := by
  induction n with
  | zero => omega
  | succ n ih =>
    have hl := toks_len f n
    show (((toks f n ++ [Value.int .i64 (f n).len, Value.int .i64 (f n).dist, Value.int .u8 ((f n).byte.toNat : Int)]).set (i * 3) _).set (i * 3 + 1) _).set (i * 3 + 2) _ = toks (upd f i t) n ++ [Value.int .i64 (upd f i t n).len, Value.int .i64 (upd f i t n).dist, Value.int .u8 ((upd f i t n).byte.toNat : Int)]
    by_cases h : i < n
    · rw [List.set_append_left _ _ (by omega), List.set_append_left _ _ (by rw [List.length_set]; omega), List.set_append_left _ _ (by rw [List.length_set, List.length_set]; omega), ih h]
      have e : upd f i t n = f n := by unfold upd; rw [if_neg (by omega)]
      rw [e]
    · obtain rfl : i = n := by omega
      have e : upd f i t i = t := by unfold upd; rw [if_pos rfl]
      have e2 : toks (upd f i t) i = toks f i := toks_congr _ _ _ (fun j hj => by unfold upd; rw [if_neg (by omega)])
      rw [List.set_append_right _ _ (by omega), List.set_append_right _ _ (by omega), List.set_append_right _ _ (by omega), hl, e, e2, Nat.sub_self, show i * 3 + 1 - i * 3 = 1 by omega, show i * 3 + 2 - i * 3 = 2 by omega]
      rfl
theorem ownT_put {base g n c : Nat} {w : World} {f : Nat → LzMath.Tok} (h : OwnT base w (.slice (some ⟨g, 0, none⟩) n c) n f) (i : Nat) (t : LzMath.Tok) (hi : i < n) :
    OwnT base (((w.setCell ⟨g, i * 3, none⟩ (.int .i64 t.len)).setCell ⟨g, i * 3 + 1, none⟩ (.int .i64 t.dist)).setCell ⟨g, i * 3 + 2, none⟩ (.int .u8 (t.byte.toNat : Int))) (.slice (some ⟨g, 0, none⟩) n c) n (upd f i t) := by
  have h1 := (World.ownsRow.stored h (i * 3) (.int .i64 t.len)).1
  have h2 := (World.ownsRow.stored h1 (i * 3 + 1) (.int .i64 t.dist)).1
  have h3 := (World.ownsRow.stored h2 (i * 3 + 2) (.int .u8 (t.byte.toNat : Int))).1
  rw [toks_set f i t n hi] at h3
  exact h3
theorem ownT_at {base g n c : Nat} {w : World} {f : Nat → LzMath.Tok} (h : OwnT base w (.slice (some ⟨g, 0, none⟩) n c) n f) (i : Nat) (hi : i < n) :
    (w.cell? ⟨g, i * 3, none⟩ = some (.int .i64 (f i).len) ∧ w.cell? ⟨g, i * 3 + 1, none⟩ = some (.int .i64 (f i).dist) ∧ w.cell? ⟨g, i * 3 + 2, none⟩ = some (.int .u8 ((f i).byte.toNat : Int))) ∧ ∀ j, w.frozen? ⟨g, j, none⟩ = false := by
  obtain ⟨h1, h2, h3⟩ := toks_get f n i hi
  exact ⟨⟨by rw [World.ownsRow.cellAt h _ (by omega)]; exact h1, by rw [World.ownsRow.cellAt h _ (by omega)]; exact h2, by rw [World.ownsRow.cellAt h _ (by omega)]; exact h3⟩, fun j => World.ownsRow.frozenAt h j⟩
theorem made_toks (n : Nat) : (madeCells (Value.cells (.agg #[.int .i64 0, .int .i64 0, .int .u8 0])) (n * 3)).toList = toks (fun _ => ⟨0, 0, 0⟩) n := by
  apply List.ext_getElem?
  intro j
  by_cases hj : j < n * 3
  · obtain ⟨h1, h2, h3⟩ := toks_get (fun _ => (⟨0, 0, 0⟩ : LzMath.Tok)) n (j / 3) (by omega)
    have e : (madeCells (Value.cells (.agg #[.int .i64 0, .int .i64 0, .int .u8 0])) (n * 3)).toList[j]? = some ((#[.int .i64 0, .int .i64 0, .int .u8 0] : Array Value)[j % 3]!) := by
      simp [madeCells, Value.cells, hj]
    have hr : j % 3 = 0 ∨ j % 3 = 1 ∨ j % 3 = 2 := by omega
    rcases hr with hr | hr | hr
    · rw [e, hr]
      rw [show j = j / 3 * 3 by omega, h1]; rfl
    · rw [e, hr]
      rw [show j = j / 3 * 3 + 1 by omega, h2]; rfl
    · rw [e, hr]
      rw [show j = j / 3 * 3 + 2 by omega, h3]; rfl
  · rw [List.getElem?_eq_none (by rw [Array.length_toList, size_madeCells]; omega), List.getElem?_eq_none (by rw [toks_len]; omega)]
/-- The row behind k rounds. -/
def lts (s : List UInt8) (k : Nat) : Nat → LzMath.Tok := fun i => if i < k then ⟨0, 0, at_ s i⟩ else ⟨0, 0, 0⟩
theorem lts_next (s : List UInt8) (k : Nat) : upd (lts s k) k ⟨0, 0, at_ s k⟩ = lts s (k + 1) := by
  funext j
  unfold upd lts
  by_cases h1 : j = k
  · subst h1; rw [if_pos rfl, if_pos (by omega)]
  · rw [if_neg h1]
    by_cases h2 : j < k
    · rw [if_pos h2, if_pos (by omega)]
    · rw [if_neg h2, if_neg (by omega)]

set_option maxRecDepth 100000 in
set_option maxHeartbeats 4000000 in
theorem literals_any {a : Option Addr} {c : Nat} (s : List UInt8) (w : World) (hb : Bytes w a s.length c s) (hl : s.length ≤ 900000) :
    Calls Try.prog 21 #[.slice a s.length c] w fun e w' => ∃ g, e = .returned (.slice (some ⟨g, 0, none⟩) s.length s.length) ∧ OwnT w.heap.size w' (.slice (some ⟨g, 0, none⟩) s.length s.length) s.length (fun i => ⟨0, 0, at_ s i⟩) ∧ Below w.heap.size w w' := by
  have HB := Lib.hid hb
  clear hb
  obtain ⟨L, hL⟩ : ∃ L, L = s.length := ⟨_, rfl⟩
  rw [← hL] at HB hl ⊢
  have HL := Lib.hid hL
  clear hL
  obtain ⟨i0, hi, hz0, hz2, hz3⟩ := info_parts infoT
  have HI := Lib.hid (And.intro hi (And.intro hz0 (And.intro hz2 hz3)))
  clear hi hz0 hz2 hz3
  go_enter Try.func21, Try.ntmps21
  go_upto_region 1 with (fail)
  go_wp2_with (at_make; refine wpList_make_full _ rfl _ _ 36 rfl w.heap.size 45 i0 (.agg #[.int .i64 0, .int .i64 0, .int .u8 0]) 3 Try.underlying36 HI.out.1 HI.out.2.1 HI.out.2.2.1 .i64 .i64 _ _ L rfl rfl rfl rfl (by rw [HI.out.2.2.2]; omega) (by unfold maxLen; omega) (Nat.le_refl _) ?_)
  intro w1 hown hg
  replace hown : OwnT w.heap.size w1 (.slice (some ⟨w.heap.size, 0, none⟩) L L) L (fun _ => ⟨0, 0, 0⟩) := by unfold OwnT; rw [← made_toks]; exact hown
  obtain ⟨G, hG⟩ : ∃ G, G = w.heap.size := ⟨_, rfl⟩
  have hGw : w.heap.size ≤ G := by omega
  rw [← hG] at hown ⊢
  have HO : Hid (OwnT w.heap.size w1 (.slice (some ⟨G, 0, none⟩) L L) L (lts s 0)) := Lib.hid (by
    have e : lts s 0 = fun _ => (⟨0, 0, 0⟩ : LzMath.Tok) := by funext j; unfold lts; rw [if_neg (by omega)]
    rw [e, ← hG]; exact hown)
  have HBE : Hid (Below w.heap.size w w1) := Lib.hid ((Below.refl _ w).grown hg (Nat.le_refl _) (fun k hk => by cases hk))
  clear hown hg hG
  go_wp2_with fail
  go_loopw [11] (fun v wr => ∃ k : Nat, k ≤ L ∧ v = .int .i64 (k : Int) ∧ Hid (OwnT w.heap.size wr (.slice (some ⟨G, 0, none⟩) L L) L (lts s k)) ∧ Hid (Below w.heap.size w wr)) (fun v _ => L - (intOf v).toNat)
  case atStart => exact ⟨0, Nat.zero_le _, rfl, HO, HBE⟩
  case round =>
    clear HO HBE
    obtain ⟨k, hk, rfl, HO, HBE⟩ := hrel
    by_cases hlt : k < L
    · have hBw := HB.out.below (Nat.le_refl _) HBE.out
      obtain ⟨b, off, rfl⟩ := hBw.some_ (by omega)
      rw [HL.out] at hBw
      have x0 := at_cell hBw k (by rw [← HL.out]; exact hlt)
      clear hBw
      have HC := Lib.hid (literal_any (at_ s k))
      have HLN := Lib.hid (lts_next s k)
      generalize at_ s k = ch at *
      go_wp2_with fail
      refine (HC.out _).mono ?_
      rintro e w3 ⟨rfl, hb3⟩
      have ho3 := ownT_below HO.out (Nat.le_refl _) hb3
      have HB3 := Lib.hid (HBE.out.trans (hb3.mono HBE.out.size))
      obtain ⟨⟨c0, c1, c2⟩, hfr⟩ := ownT_at ho3 k hlt
      have f0 := hfr (k * 3)
      have f1 := hfr (k * 3 + 1)
      have f2 := hfr (k * 3 + 2)
      have HN : Hid (OwnT w.heap.size (((w3.setCell ⟨G, k * 3, none⟩ (.int .i64 0)).setCell ⟨G, k * 3 + 1, none⟩ (.int .i64 0)).setCell ⟨G, k * 3 + 2, none⟩ (.int .u8 (ch.toNat : Int))) (.slice (some ⟨G, 0, none⟩) L L) L (lts s (k + 1))) := Lib.hid (by
        have := ownT_put ho3 k ⟨0, 0, ch⟩ hlt
        rw [HLN.out] at this
        exact this)
      have HB4 : Hid (Below w.heap.size w (((w3.setCell ⟨G, k * 3, none⟩ (.int .i64 0)).setCell ⟨G, k * 3 + 1, none⟩ (.int .i64 0)).setCell ⟨G, k * 3 + 2, none⟩ (.int .u8 (ch.toNat : Int)))) := Lib.hid (((HB3.out.setCell hGw _).setCell hGw _).setCell hGw _)
      clear hfr ho3 hb3 HO HBE x0
      go_wp2_with fail
      go_roundw
      case rel => exact ⟨k + 1, by omega, by go_num, HN, HB4⟩
      case measure => simp [intOf]; omega
    · obtain rfl : k = L := by omega
      go_wp2_with fail
      go_ret
      refine ⟨G, rfl, OwnT_congr HO.out (fun i hi => ?_), HBE.out⟩
      unfold lts
      rw [if_pos hi]

set_option maxRecDepth 100000 in
set_option maxHeartbeats 4000000 in
theorem tokens_store {a : Option Addr} {c : Nat} (p : Pl) (s : List UInt8) (w : World) (hb : Bytes w a s.length c s) (hl : s.length ≤ 900000) (hst : p.store = true) :
    Calls Try.prog 14 #[.slice a s.length c, pv p.store p.chain p.lazy p.good, .bool p.wide] w (TokRet p s w) := by
  obtain ⟨W, hW⟩ : ∃ W, W = w.alloc (.cells #[.bool true, .int .i64 p.chain, .bool p.lazy, .int .i64 p.good] 24) := ⟨_, rfl⟩
  have hbl : Below w.heap.size w W := by rw [hW]; exact (Below.refl _ w).alloc (Nat.le_refl _) _
  have HBL := Lib.hid hbl
  have HLI := Lib.hid (literals_any s W (hb.below (Nat.le_refl _) hbl) hl)
  have HW := Lib.hid hW
  clear hb hW hbl
  unfold pv
  rw [hst]
  have HST := Lib.hid hst
  clear hst
  go_enter Try.func14, Try.ntmps14
  go_wp2_with fail
  rw [← HW.out]
  refine HLI.out.mono ?_
  rintro e w3 ⟨g, rfl, ho, hb3⟩
  have HO := Lib.hid ho
  have HB := Lib.hid (HBL.out.trans (hb3.mono HBL.out.size))
  have hle := HBL.out.size
  clear ho hb3 HLI HW HBL
  go_wp2_with fail
  go_ret
  refine ⟨_, s.length, rfl, ownT_mono (OwnT_congr HO.out (fun i _ => ?_)) hle, many_store HST.out, HB.out⟩
  unfold tk tkAt
  rw [pos_store HST.out, lit_store HST.out]
  rfl
theorem tokens_any {a : Option Addr} {c : Nat} (p : Pl) (s : List UInt8) (w : World) (hb : Bytes w a s.length c s) (hl : s.length ≤ 900000) (hch : (Lit.int .i64 p.chain).wf = true) :
    Calls Try.prog 14 #[.slice a s.length c, pv p.store p.chain p.lazy p.good, .bool p.wide] w (TokRet p s w) := by
  by_cases h : p.store = true
  · exact tokens_store p s w hb hl h
  · exact tokens_pack p s w hb hl hch (by simpa using h)
end Go.Proofs.Ytfdfggomgaegoaa.MatC
