import Derived.Test.YtdbcendnibgcaaaGreatDoorMgAp
import Derived.Test.YtdbcendnibgcaaaGreatDoorRows
import Derived.Test.YtdbcendnibgcaaaGreatDoorMgAn
import Derived.Laws.Pointers
import Derived.Deep.QuietTactic
import Derived.BigQuiet
import Derived.Deep.DeepCutAuto
import Derived.Deep.CutBlock

section
/-
  A symbol is placed: spread, place.
-/
namespace Go.Proofs.YtdbcendnibgcaaaGreatDoor.TabC
open Go.RowKit Go.My BitMath CanMath TabMath

/-- The elements behind a spread of e from place B on, L long, as far as i. -/
def spr (T : Nat → El) (B L p W i : Nat) (e : El) (j : Nat) : El := if B ≤ j ∧ j < B + L ∧ j < B + i ∧ (j - B) % p = W then e else T j
theorem spr_start (T : Nat → El) (B L p W : Nat) (hW : W < p) (e : El) : spr T B L p W W e = T := by
  funext j
  unfold spr
  rw [if_neg]
  rintro ⟨h1, _, h3, h4⟩
  rw [Nat.mod_eq_of_lt (by omega)] at h4
  omega
theorem spr_end (T : Nat → El) (B L p W i : Nat) (hi : L ≤ i) (e : El) : spr T B L p W i e = fun j => if B ≤ j ∧ j < B + L ∧ (j - B) % p = W then e else T j := by
  funext j
  unfold spr
  by_cases h : B ≤ j ∧ j < B + L ∧ (j - B) % p = W
  · rw [if_pos ⟨h.1, h.2.1, by omega, h.2.2⟩, if_pos h]
  · rw [if_neg (fun h' => h ⟨h'.1, h'.2.1, h'.2.2.2⟩), if_neg h]
theorem mod_gap (x i p : Nat) (h1 : i ≤ x) (h2 : x < i + p) (h : x % p = i % p) : x = i := by
  have e : (x - i) % p = 0 := by
    have h3 : (i + (x - i)) % p = i % p := by rw [show i + (x - i) = x from by omega]; exact h
    have h4 := Nat.mod_add_div i p
    have h5 := Nat.mod_add_div (i + (x - i)) p
    have h6 : x - i < p := by omega
    by_cases h7 : x - i = 0
    · rw [h7]; simp
    · exfalso
      have hp : 0 < p := by omega
      have h8 := Nat.mod_lt i hp
      rw [h3] at h5
      have h9 : p * (i / p) < p * ((i + (x - i)) / p) := by omega
      have h10 : i / p < (i + (x - i)) / p := Nat.lt_of_mul_lt_mul_left h9
      have h11 : p * (i / p + 1) ≤ p * ((i + (x - i)) / p) := Nat.mul_le_mul_left p h10
      rw [Nat.mul_add] at h11
      omega
  rw [Nat.mod_eq_of_lt (by omega)] at e
  omega
theorem spr_step (T : Nat → El) (B L p W i : Nat) (hp : 0 < p) (hi : i < L) (hm : i % p = W) (e : El) (j : Nat) : spr T B L p W (i + p) e j = if j = B + i then e else spr T B L p W i e j := by
  unfold spr
  by_cases hj : j = B + i
  · subst hj
    rw [if_pos rfl, if_pos ⟨by omega, by omega, by omega, by rw [Nat.add_sub_cancel_left]; exact hm⟩]
  · rw [if_neg hj]
    by_cases h : B ≤ j ∧ j < B + L ∧ j < B + i ∧ (j - B) % p = W
    · rw [if_pos ⟨h.1, h.2.1, by omega, h.2.2.2⟩, if_pos h]
    · rw [if_neg h, if_neg]
      rintro ⟨h1, h2, h3, h4⟩
      by_cases hlt : j < B + i
      · exact h ⟨h1, h2, hlt, h4⟩
      · have := mod_gap (j - B) i p (by omega) (by omega) (by rw [h4, hm])
        omega

theorem Els.set {C : Array Value} {n : Nat} {T T' : Nat → El} (h : Els C n T) (j : Nat) (e : El) (hj : j < n) (hT : ∀ i, i < n → T' i = if i = j then e else T i) :
    Els (((C.setIfInBounds (j * 3) (.int .u16 ((e.v : Nat) : Int))).setIfInBounds (j * 3 + 1) (.int .u8 ((e.l : Nat) : Int))).setIfInBounds (j * 3 + 2) (.int .u8 ((e.m : Nat) : Int))) n T' := by
  have hs := h.size
  refine ⟨by simp [hs], fun i hi => ?_, fun i hi => ?_, fun i hi => ?_⟩
  · rw [Array.getElem?_setIfInBounds, if_neg (by omega), Array.getElem?_setIfInBounds, if_neg (by omega), Array.getElem?_setIfInBounds, hT i hi]
    by_cases he : i = j
    · subst he; rw [if_pos rfl, if_pos (by rw [hs]; omega), if_pos rfl]
    · rw [if_neg (by omega), if_neg he, h.at0 i hi]
  · rw [Array.getElem?_setIfInBounds, if_neg (by omega), Array.getElem?_setIfInBounds, hT i hi]
    by_cases he : i = j
    · subst he; rw [if_pos rfl, if_pos (by simp [hs]; omega), if_pos rfl]
    · rw [if_neg (by omega), if_neg he, Array.getElem?_setIfInBounds, if_neg (by omega), h.at1 i hi]
  · rw [Array.getElem?_setIfInBounds, hT i hi]
    by_cases he : i = j
    · subst he; rw [if_pos rfl, if_pos (by simp [hs]; omega), if_pos rfl]
    · rw [if_neg (by omega), if_neg he, Array.getElem?_setIfInBounds, if_neg (by omega), Array.getElem?_setIfInBounds, if_neg (by omega), h.at2 i hi]
/-- Elements in a block. -/
def Row (w : World) (ge n : Nat) (T : Nat → El) : Prop := ∃ C, Blk w ge 168 C ∧ Els C n T
theorem Row.el {w : World} {ge n : Nat} {T : Nat → El} (h : Row w ge n T) (j : Nat) (hj : j < n) :
    (w.cell? ⟨ge, j * 3, none⟩ = some (.int .u16 (((T j).v : Nat) : Int)) ∧ w.cell? ⟨ge, j * 3 + 1, none⟩ = some (.int .u8 (((T j).l : Nat) : Int)) ∧ w.cell? ⟨ge, j * 3 + 2, none⟩ = some (.int .u8 (((T j).m : Nat) : Int))) ∧ ∀ k, w.frozen? ⟨ge, k, none⟩ = false := by
  obtain ⟨C, h4, h5⟩ := h
  exact ⟨⟨by rw [h4.cell]; exact h5.at0 j hj, by rw [h4.cell]; exact h5.at1 j hj, by rw [h4.cell]; exact h5.at2 j hj⟩, fun k => h4.frozen k⟩
theorem Row.set {w : World} {ge n : Nat} {T T' : Nat → El} (h : Row w ge n T) (j : Nat) (e : El) (hj : j < n) (hT : ∀ i, i < n → T' i = if i = j then e else T i) :
    Row (((w.setCell ⟨ge, j * 3, none⟩ (.int .u16 ((e.v : Nat) : Int))).setCell ⟨ge, j * 3 + 1, none⟩ (.int .u8 ((e.l : Nat) : Int))).setCell ⟨ge, j * 3 + 2, none⟩ (.int .u8 ((e.m : Nat) : Int))) ge n T' := by
  obtain ⟨C, h4, h5⟩ := h
  exact ⟨_, ((h4.set_ _ _).set_ _ _).set_ _ _, h5.set j e hj hT⟩
theorem Row.same {w w' : World} {ge n : Nat} {T : Nat → El} (h : Row w ge n T) (h2 : w'.heap[ge]? = w.heap[ge]?) : Row w' ge n T := by
  obtain ⟨C, h4, h5⟩ := h
  exact ⟨C, h4.same h2, h5⟩
theorem Row.lt {w : World} {ge n : Nat} {T : Nat → El} (h : Row w ge n T) : ge < w.heap.size := by
  obtain ⟨C, h4, h5⟩ := h
  exact h4.lt

theorem spread_any (ge N B O L cap n W : Nat) (T : Nat → El) (e : El) (w : World) (h : Row w ge N T) (hn : n ≤ 15) (hW : W < 2 ^ n) (hB : B + L ≤ N) (hN : N ≤ 65536) (hO : O = B * 3) :
    Calls Tryz.prog 135 #[.slice (some ⟨ge, O, none⟩) L cap, .int .u32 (W : Int), .int .i64 (n : Int), .agg (ec e)] w fun r w' =>
      r = .returned (.tuple #[]) ∧ Row w' ge N (fun j => if B ≤ j ∧ j < B + L ∧ (j - B) % 2 ^ n = W then e else T j) ∧ Only (fun k => k = ge) w w' := by
  have HR := Lib.hid h
  have HO := Lib.hid hO
  clear hO
  have hp := pow_le15 hn
  have h0 := Nat.two_pow_pos n
  have hs2 : min n 64 = n := by omega
  have hp2 : (2 : Int) ^ n = ((2 ^ n : Nat) : Int) := by push_cast; rfl
  generalize 2 ^ n = p at *
  have hs3 : IntKind.i64.wrap (2 ^ n) = (p : Int) := by rw [hp2, IntWalk.i64_in _ (by omega)]
  have hs4 : (1 : Int) * 2 ^ n = (p : Int) := by rw [hp2]; omega
  clear h
  obtain ⟨ev, el, em⟩ := e
  dsimp only [ec]
  go_enter Tryz.func135, Tryz.ntmps135
  go_wp2_with fail
  obtain ⟨w1, hw1⟩ : ∃ w1, w1 = w.alloc (.cells #[.int .u16 (ev : Int), .int .u8 (el : Int), .int .u8 (em : Int)] 168) := ⟨_, rfl⟩
  have HB : Hid (Only (fun k => k = ge) w w1) := Lib.hid (by rw [hw1]; exact (Only.refl _ w).alloc _)
  have HR1 : Hid (Row w1 ge N T) := Lib.hid (by rw [hw1]; exact HR.out.same (Below.heap_alloc _ _ _ HR.out.lt))
  have HX : Hid (Blk w1 w.heap.size 168 (ec ⟨ev, el, em⟩)) := Lib.hid (by rw [hw1]; exact Blk.new w _ _)
  have HNE : Hid (ge < w.heap.size) := Lib.hid HR.out.lt
  rw [← hw1]
  clear hw1 HR
  go_loopw [8] (fun x wr => ∃ i : Nat, x = .int .i64 (i : Int) ∧ i < L + p ∧ Hid (i % p = W) ∧ Hid (Row wr ge N (spr T B L p W i ⟨ev, el, em⟩)) ∧ Hid (Blk wr w.heap.size 168 (ec ⟨ev, el, em⟩)) ∧ Hid (Only (fun k => k = ge) w wr)) (fun x _ => L + p - (intOf x).toNat)
  case atStart => exact ⟨W, rfl, by omega, Lib.hid (Nat.mod_eq_of_lt hW), Lib.hid (by rw [spr_start _ _ _ _ _ hW]; exact HR1.out), HX, HB⟩
  case round =>
    clear HR1 HX HB
    obtain ⟨i, rfl, hi, HM, HR, HX, HB⟩ := hrel
    by_cases hlt : i < L
    · obtain ⟨⟨c0, c1, c2⟩, hfz⟩ := HR.out.el (B + i) (by omega)
      have HA : Hid ((B + i) * 3 = O + i * 3) := Lib.hid (by rw [HO.out, Nat.add_mul])
      rw [HA.out] at c0 c1 c2
      have f0 := hfz (O + i * 3)
      have f1 := hfz (O + i * 3 + 1)
      have f2 := hfz (O + i * 3 + 2)
      have x0 : wr.cell? ⟨w.heap.size, 0, none⟩ = some (.int .u16 (ev : Int)) := by rw [HX.out.cell]; rfl
      have x1 : wr.cell? ⟨w.heap.size, 1, none⟩ = some (.int .u8 (el : Int)) := by rw [HX.out.cell]; rfl
      have x2 : wr.cell? ⟨w.heap.size, 2, none⟩ = some (.int .u8 (em : Int)) := by rw [HX.out.cell]; rfl
      clear hfz
      have HS : Hid (∀ j, spr T B L p W (i + p) ⟨ev, el, em⟩ j = if j = B + i then ⟨ev, el, em⟩ else spr T B L p W i ⟨ev, el, em⟩ j) := Lib.hid (spr_step T B L p W i h0 hlt HM.out _)
      have HR2 := Lib.hid (HR.out.set (T' := spr T B L p W (i + p) ⟨ev, el, em⟩) (B + i) ⟨ev, el, em⟩ (by omega) (fun j _ => HS.out j))
      rw [HA.out] at HR2
      have HBX : Hid (Only (fun k => k = ge) w (((wr.setCell ⟨ge, O + i * 3, none⟩ (.int .u16 (ev : Int))).setCell ⟨ge, O + i * 3 + 1, none⟩ (.int .u8 (el : Int))).setCell ⟨ge, O + i * 3 + 2, none⟩ (.int .u8 (em : Int)))) := Lib.hid (((HB.out.setCell (p := ⟨ge, O + i * 3, none⟩) (fun _ => rfl) _).setCell (p := ⟨ge, O + i * 3 + 1, none⟩) (fun _ => rfl) _).setCell (p := ⟨ge, O + i * 3 + 2, none⟩) (fun _ => rfl) _)
      have HXX : Hid (Blk (((wr.setCell ⟨ge, O + i * 3, none⟩ (.int .u16 (ev : Int))).setCell ⟨ge, O + i * 3 + 1, none⟩ (.int .u8 (el : Int))).setCell ⟨ge, O + i * 3 + 2, none⟩ (.int .u8 (em : Int))) w.heap.size 168 (ec ⟨ev, el, em⟩)) := Lib.hid (by
        have hne : w.heap.size ≠ ge := by have := HNE.out; omega
        exact ((HX.out.same (Below.heap_setCell _ _ _ _ hne)).same (Below.heap_setCell _ _ _ _ hne)).same (Below.heap_setCell _ _ _ _ hne))
      have HM2 : Hid ((i + p) % p = W) := Lib.hid (by rw [Nat.add_mod_right]; exact HM.out)
      clear HS HR HX HB HM
      go_wp2_with fail
      go_roundw
      case rel => exact ⟨i + p, by go_num, by omega, HM2, HR2, HXX, HBX⟩
      case measure => simp [intOf]; omega
    · rw [spr_end _ _ _ _ _ _ (by omega)] at HR
      go_wp2_with fail
      go_end0
      exact ⟨rfl, HR.out, HB.out⟩
end Go.Proofs.YtdbcendnibgcaaaGreatDoor.TabC
end

section
/-
  A symbol is placed in a table.
-/
namespace Go.Proofs.YtdbcendnibgcaaaGreatDoor.TabC
open Go.RowKit Go.My BitMath CanMath TabMath

theorem TabAt.mk' {w : World} {g ge f n : Nat} {T : Nat → El} (h : Blk w g 164 #[.int .u64 (f : Int), .slice (some ⟨ge, 0, none⟩) n n]) (h2 : Row w ge n T) : TabAt w g ge f n T := ⟨h, h2⟩
theorem TabAt.row' {w : World} {g ge f n : Nat} {T : Nat → El} (h : TabAt w g ge f n T) : Row w ge n T := h.row
theorem TabAt.ne {w : World} {g ge f n : Nat} {T : Nat → El} (h : TabAt w g ge f n T) : g ≠ ge := by
  obtain ⟨h3, C, h4, h5⟩ := h
  intro e
  subst e
  unfold Blk at h3 h4
  rw [h3] at h4
  injection h4 with h4
  injection h4 with _ h4
  revert h4; decide

set_option maxRecDepth 100000 in
set_option maxHeartbeats 4000000 in
theorem place_short (g ge f N i n W : Nat) (T : Nat → El) (w : World) (h : TabAt w g ge f N T) (hf : f ≤ 15) (hN : N ≤ 65536) (hi : i < 65536) (hn : n ≤ f) (hW : W < 2 ^ n) (hfN : 2 ^ f ≤ N) :
    Calls Tryz.prog 128 #[.pointer (some ⟨g, 0, none⟩), .int .i64 (i : Int), .int .u32 (W : Int), .int .i64 (n : Int)] w fun r w' =>
      r = .returned (.tuple #[]) ∧ TabAt w' g ge f N (fun j => if j < 2 ^ f ∧ j % 2 ^ n = W then ⟨i, n, 0⟩ else T j) ∧ Only (fun k => k = ge) w w' := by
  have HT := Lib.hid h
  have hp := pow_le15 hf
  have h0 := Nat.two_pow_pos f
  have hp2 : (2 : Int) ^ f = ((2 ^ f : Nat) : Int) := by push_cast; rfl
  have HW := Lib.hid hW
  have hc1 : IntKind.u16.wrap (i : Int) = (i : Int) := by rw [IntKind.wrap_u16]; omega
  have hc2 : IntKind.u8.wrap (n : Int) = (n : Int) := by rw [IntKind.wrap_u8]; omega
  clear h hW
  go_enter Tryz.func128, Tryz.ntmps128
  go_upto_region 1 with (fail)
  obtain ⟨w1, hw1⟩ : ∃ w1, w1 = w.alloc (.cells #[.int .u16 (i : Int), .int .u8 (n : Int), .int .u8 0] 168) := ⟨_, rfl⟩
  have HB1 : Hid (Only (fun k => k = ge) w w1) := Lib.hid (by rw [hw1]; exact (Only.refl _ w).alloc _)
  have HT1 : Hid (TabAt w1 g ge f N T) := Lib.hid (by rw [hw1]; exact HT.out.alloc _)
  have HX : Hid (Blk w1 w.heap.size 168 (ec ⟨i, n, 0⟩)) := Lib.hid (by rw [hw1]; exact Blk.new w _ _)
  rw [← hw1]
  clear hw1 HT
  have ht1 : w1.cell? ⟨g, 1, none⟩ = some (.slice (some ⟨ge, 0, none⟩) N N) := by rw [HT1.out.tab.cell]; rfl
  have ht0 : w1.cell? ⟨g, 0, none⟩ = some (.int .u64 (f : Int)) := by rw [HT1.out.tab.cell]; rfl
  have x0 : w1.cell? ⟨w.heap.size, 0, none⟩ = some (.int .u16 (i : Int)) := by rw [HX.out.cell]; rfl
  have x1 : w1.cell? ⟨w.heap.size, 1, none⟩ = some (.int .u8 (n : Int)) := by rw [HX.out.cell]; rfl
  have x2 : w1.cell? ⟨w.heap.size, 2, none⟩ = some (.int .u8 0) := by rw [HX.out.cell]; rfl
  have hc3 : IntKind.i64.wrap (f : Int) = (f : Int) := by rw [IntWalk.i64_in _ (by omega)]
  have hd : decide ((n : Int) ≤ (f : Int)) = true := by simp; omega
  obtain ⟨p, hpe⟩ : ∃ p, p = 2 ^ f := ⟨_, rfl⟩
  rw [← hpe] at hfN hp h0 hp2
  have HP := Lib.hid hpe
  clear hpe
  have hs3 : IntKind.i64.wrap (p : Int) = (p : Int) := by rw [IntWalk.i64_in _ (by omega)]
  have hpn : (p : Int) ≤ (N : Int) := by omega
  go_upto_region 2 with (fail)
  go_still_tail 13, (by kernel_rfl)
  change wpList _ _ _ _ _ w1.drew
  have HT2 : Hid (TabAt w1.drew g ge f N T) := Lib.hid HT1.out.drew
  have HB2 : Hid (Only (fun k => k = ge) w w1.drew) := Lib.hid HB1.out.drew
  clear HT1 HB1 HX ht1 ht0 x0 x1 x2
  generalize w1.drew = w2 at *
  go_wp2_with fail
  refine (spread_any ge N 0 0 p N n W T ⟨i, n, 0⟩ w2 HT2.out.row' (by omega) HW.out (by omega) hN rfl).mono ?_
  rintro r w3 ⟨rfl, hr, hb⟩
  have HR3 : Hid (Row w3 ge N (fun j => if j < p ∧ j % 2 ^ n = W then ⟨i, n, 0⟩ else T j)) := Lib.hid (by
    have e : (fun j => if 0 ≤ j ∧ j < 0 + p ∧ (j - 0) % 2 ^ n = W then (⟨i, n, 0⟩ : El) else T j) = (fun j => if j < p ∧ j % 2 ^ n = W then ⟨i, n, 0⟩ else T j) := by
      funext j; simp
    rw [← e]; exact hr)
  have HT3 : Hid (TabAt w3 g ge f N (fun j => if j < p ∧ j % 2 ^ n = W then ⟨i, n, 0⟩ else T j)) := Lib.hid ⟨hb.blk HT2.out.tab HT2.out.ne, HR3.out⟩
  have HB3 := Lib.hid (HB2.out.trans hb (fun _ _ h => h))
  clear hr hb HR3 HT2 HB2
  go_wp2_with fail
  refine bodyPost_ret (results_none rfl _ _ _) rfl ?_
  exact ⟨rfl, by rw [← HP.out]; exact HT3.out, HB3.out⟩

set_option maxRecDepth 100000 in
set_option maxHeartbeats 4000000 in
theorem place_long (g ge f N i n W : Nat) (T : Nat → El) (w : World) (h : TabAt w g ge f N T) (hf : 1 ≤ f) (hN : N ≤ 65536) (hi : i < 65536) (hn : f < n) (hn15 : n ≤ 15) (hW : W < 2 ^ n) (hp : W % 2 ^ f < N) (hm : (T (W % 2 ^ f)).m ≤ 14) (hto : (T (W % 2 ^ f)).v + 2 ^ (T (W % 2 ^ f)).m ≤ N) :
    Calls Tryz.prog 128 #[.pointer (some ⟨g, 0, none⟩), .int .i64 (i : Int), .int .u32 (W : Int), .int .i64 (n : Int)] w fun r w' =>
      r = .returned (.tuple #[]) ∧ TabAt w' g ge f N (fun j => if (T (W % 2 ^ f)).v ≤ j ∧ j < (T (W % 2 ^ f)).v + 2 ^ (T (W % 2 ^ f)).m ∧ (j - (T (W % 2 ^ f)).v) % 2 ^ (n - f) = W / 2 ^ f then ⟨i, n, 0⟩ else T j) ∧ Only (fun k => k = ge) w w' := by
  have HT := Lib.hid h
  have hWs : W < 32768 := by have := pow_le15 hn15; omega
  have HD : Hid (W / 2 ^ f < 2 ^ (n - f)) := Lib.hid (by
    rw [Nat.div_lt_iff_lt_mul (Nat.two_pow_pos _), ← Nat.pow_add, show n - f + f = n from by omega]; exact hW)
  have hc1 : IntKind.u16.wrap (i : Int) = (i : Int) := by rw [IntKind.wrap_u16]; omega
  have hc2 : IntKind.u8.wrap (n : Int) = (n : Int) := by rw [IntKind.wrap_u8]; omega
  have hc3 : IntKind.i64.wrap (f : Int) = (f : Int) := by rw [IntWalk.i64_in _ (by omega)]
  have hd : decide ((n : Int) ≤ (f : Int)) = false := by simp; omega
  clear h hW
  go_enter Tryz.func128, Tryz.ntmps128
  go_upto_region 1 with (fail)
  obtain ⟨w1, hw1⟩ : ∃ w1, w1 = w.alloc (.cells #[.int .u16 (i : Int), .int .u8 (n : Int), .int .u8 0] 168) := ⟨_, rfl⟩
  have HB1 : Hid (Only (fun k => k = ge) w w1) := Lib.hid (by rw [hw1]; exact (Only.refl _ w).alloc _)
  have HT1 : Hid (TabAt w1 g ge f N T) := Lib.hid (by rw [hw1]; exact HT.out.alloc _)
  have HX : Hid (Blk w1 w.heap.size 168 (ec ⟨i, n, 0⟩)) := Lib.hid (by rw [hw1]; exact Blk.new w _ _)
  rw [← hw1]
  clear hw1 HT
  have ht0 : w1.cell? ⟨g, 0, none⟩ = some (.int .u64 (f : Int)) := by rw [HT1.out.tab.cell]; rfl
  go_upto_region 3 with (fail)
  clear ht0
  obtain ⟨p, hpe⟩ : ∃ p, p = W % 2 ^ f := ⟨_, rfl⟩
  have HS : Hid (p = W % 2 ^ f ∧ f ≤ 15 ∧ W < 4294967296) := Lib.hid ⟨hpe, by omega, by omega⟩
  rw [← hpe] at hp hm hto
  have HP := Lib.hid hpe
  clear hpe
  obtain ⟨e, he⟩ : ∃ e, e = T p := ⟨_, rfl⟩
  rw [← he] at hm hto
  have hkeep : ∀ w', Below w1.heap.size w1 w' → Hid (Blk w' g 164 #[.int .u64 (f : Int), .slice (some ⟨ge, 0, none⟩) N N]) ∧ w'.cell? ⟨g, 1, none⟩ = some (.slice (some ⟨ge, 0, none⟩) N N) ∧ w'.cell? ⟨ge, p * 3, none⟩ = some (.int .u16 ((e.v : Nat) : Int)) ∧ w'.cell? ⟨ge, p * 3 + 1, none⟩ = some (.int .u8 ((e.l : Nat) : Int)) ∧ w'.cell? ⟨ge, p * 3 + 2, none⟩ = some (.int .u8 ((e.m : Nat) : Int)) := by
    intro w' hb
    have h1 := HT1.out.below hb
    obtain ⟨c1, c2, c3⟩ := h1.el _ hp
    rw [← he] at c1 c2 c3
    exact ⟨Lib.hid h1.tab, by rw [h1.tab.cell]; rfl, c1, c2, c3⟩
  have HK := Lib.hid hkeep
  have HE := Lib.hid he
  clear hkeep he
  have hpi : ((p : Nat) : Int) < (N : Int) := by omega
  go_cut [9] (fun u wc => u = .pointer (some ⟨w1.heap.size, 0, none⟩) ∧ Hid (TabAt wc g ge f N T) ∧ Hid (Blk wc w1.heap.size 168 (ec e)) ∧ Hid (Blk wc w.heap.size 168 (ec ⟨i, n, 0⟩)) ∧ Hid (Only (fun k => k = ge) w wc))
  case first =>
    obtain ⟨k1, k2, k3, k4, k5⟩ := HK.out w1.drew (Below.refl _ _).drew
    go_region_held3 (fun w' => Hid (Blk w' g 164 #[.int .u64 (f : Int), .slice (some ⟨ge, 0, none⟩) N N]) ∧ w'.cell? ⟨g, 1, none⟩ = some (.slice (some ⟨ge, 0, none⟩) N N) ∧ w'.cell? ⟨ge, p * 3, none⟩ = some (.int .u16 ((e.v : Nat) : Int)) ∧ w'.cell? ⟨ge, p * 3 + 1, none⟩ = some (.int .u8 ((e.l : Nat) : Int)) ∧ w'.cell? ⟨ge, p * 3 + 2, none⟩ = some (.int .u8 ((e.m : Nat) : Int))) (first | exact ⟨by assumption, by assumption, by assumption, by assumption, by assumption⟩ | exact HK.out _ (Below.refl _ _).drew | exact HK.out _ ((Below.refl _ _).drew.alloc (Nat.le_refl _) _)) (first | (go_at_call 134; refine (start_at (u := .slice (some ⟨ge, 0, none⟩) N N) HS.out _ (HK.out _ (by first | exact (Below.refl _ _).drew | exact ((Below.refl _ _).alloc (Nat.le_refl _) _).drew)).1).mono ?_; rintro e2 w2 ⟨rfl, rfl⟩))
    all_goals
      go_wp2_with fail
      go_meet
      case rel => exact ⟨rfl, Lib.hid (HT1.out.below ((Below.refl _ _).alloc (Nat.le_refl _) _).drew), Lib.hid (Blk.new w1 _ _).drew, Lib.hid ((HX.out.alloc _).drew), Lib.hid ((HB1.out.alloc _).drew)⟩
  obtain ⟨rfl, HT2, HY2, HX2, HB2⟩ := hcut
  clear HT1 HB1 HX HK HS
  generalize wc = w2 at *
  generalize w1.heap.size = g5 at *
  obtain ⟨ev, el, em⟩ := e
  have ht1 : w2.cell? ⟨g, 1, none⟩ = some (.slice (some ⟨ge, 0, none⟩) N N) := by rw [HT2.out.tab.cell]; rfl
  have ht0 : w2.cell? ⟨g, 0, none⟩ = some (.int .u64 (f : Int)) := by rw [HT2.out.tab.cell]; rfl
  have x0 : w2.cell? ⟨w.heap.size, 0, none⟩ = some (.int .u16 (i : Int)) := by rw [HX2.out.cell]; rfl
  have x1 : w2.cell? ⟨w.heap.size, 1, none⟩ = some (.int .u8 (n : Int)) := by rw [HX2.out.cell]; rfl
  have x2 : w2.cell? ⟨w.heap.size, 2, none⟩ = some (.int .u8 0) := by rw [HX2.out.cell]; rfl
  have y0 : w2.cell? ⟨g5, 0, none⟩ = some (.int .u16 (ev : Int)) := by rw [HY2.out.cell]; rfl
  have y2 : w2.cell? ⟨g5, 2, none⟩ = some (.int .u8 (em : Int)) := by rw [HY2.out.cell]; rfl
  have hto : ev + 2 ^ em ≤ N := hto
  have hm : em ≤ 14 := hm
  have h0 := Nat.two_pow_pos em
  have hp2 : (2 : Int) ^ em = ((2 ^ em : Nat) : Int) := by push_cast; rfl
  obtain ⟨L, hLe⟩ : ∃ L, L = 2 ^ em := ⟨_, rfl⟩
  rw [← hLe] at hto h0 hp2
  have HL := Lib.hid hLe
  clear hLe
  have hs3 : IntKind.i64.wrap (L : Int) = (L : Int) := by rw [IntWalk.i64_in _ (by omega)]
  have hs4 : IntKind.i64.wrap ((n : Int) - (f : Int)) = ((n - f : Nat) : Int) := by rw [IntWalk.i64_in _ (by omega)]; omega
  have hvN : (ev : Int) ≤ (N : Int) := by omega
  have hLN : (L : Int) ≤ ((N - ev : Nat) : Int) := by omega
  go_upto_region 4 with (fail)
  go_still_tail 25, (by kernel_rfl)
  change wpList _ _ _ _ _ w2.drew
  have HT3 : Hid (TabAt w2.drew g ge f N T) := Lib.hid HT2.out.drew
  have HB3 : Hid (Only (fun k => k = ge) w w2.drew) := Lib.hid HB2.out.drew
  clear HT2 HB2 HX2 HY2 ht1 ht0 x0 x1 x2 y0 y2
  generalize w2.drew = w3 at *
  go_wp2_with fail
  have hdv : (W : Int) / 2 ^ f = ((W / 2 ^ f : Nat) : Int) := by push_cast; rfl
  rw [hdv]
  clear hdv
  refine (spread_any ge N ev (ev * 3) L (N - ev) (n - f) (W / 2 ^ f) T ⟨i, n, 0⟩ w3 HT3.out.row' (by omega) HD.out (by omega) hN rfl).mono ?_
  rintro r w4 ⟨rfl, hr, hb⟩
  have HT4 : Hid (TabAt w4 g ge f N (fun j => if ev ≤ j ∧ j < ev + L ∧ (j - ev) % 2 ^ (n - f) = W / 2 ^ f then ⟨i, n, 0⟩ else T j)) := Lib.hid ⟨hb.blk HT3.out.tab HT3.out.ne, hr⟩
  have HB4 := Lib.hid (HB3.out.trans hb (fun _ _ h => h))
  clear hr hb HT3 HB3
  go_wp2_with fail
  go_end0
  refine ⟨rfl, ?_, HB4.out⟩
  have h1 := HT4.out
  rw [HL.out] at h1
  rw [← HP.out, ← HE.out]
  exact h1
end Go.Proofs.YtdbcendnibgcaaaGreatDoor.TabC
end

section
/-
  canon.tally: lengths are counted; which may be.
-/
namespace Go.Proofs.YtdbcendnibgcaaaGreatDoor.CanC
open Go.RowKit Go.My BitMath CanMath

def iv (z : Int) : Value := .int .i64 z
/-- Lengths that may be. -/
def Good (zs : List Int) : Prop := zs.length ≤ 65536 ∧ ∀ z ∈ zs, 0 ≤ z ∧ z ≤ 15
/-- The lengths as numbers. -/
def nat (zs : List Int) : List Nat := zs.map Int.toNat
theorem nat_len (zs : List Int) : (nat zs).length = zs.length := by simp [nat]
theorem nat_get (zs : List Int) (i : Nat) (h : i < zs.length) : (nat zs)[i]'(by rw [nat_len]; exact h) = zs[i].toNat := by simp [nat]
theorem nat_take (zs : List Int) (k : Nat) : nat (zs.take k) = (nat zs).take k := by simp [nat, List.map_take]
theorem Good.all {zs : List Int} (h : Good zs) : ∀ x ∈ nat zs, x ≤ 15 := by
  intro x hx
  obtain ⟨z, hz, rfl⟩ := List.mem_map.1 hx
  have := h.2 z hz
  omega
/-- A row of 16 numbers. -/
structure Cnts (C : Array Value) (f : Nat → Nat) : Prop where
  size : C.size = 16
  at_ : ∀ i, i < 16 → C[i]? = some (.int .i64 ((f i : Nat) : Int))
theorem Cnts.one {C : Array Value} {f : Nat → Nat} (h : Cnts C f) : C.all (·.oneCell') = true := by
  rw [Array.all_eq_true]
  intro i hi
  have := h.at_ i (by rw [← h.size]; exact hi)
  rw [Array.getElem?_eq_getElem hi] at this
  injection this with this
  rw [this]
  rfl
theorem Cnts.set {C : Array Value} {f g : Nat → Nat} (h : Cnts C f) (n : Nat) (x : Int) (hx : x = (g n : Int)) (hg : ∀ i, i ≠ n → g i = f i) : Cnts (C.setIfInBounds n (.int .i64 x)) g := by
  refine ⟨by rw [Array.size_setIfInBounds]; exact h.size, fun i hi => ?_⟩
  rw [Array.getElem?_setIfInBounds]
  by_cases he : n = i
  · subst he
    rw [if_pos rfl, if_pos (by rw [h.size]; exact hi), hx]
  · rw [if_neg he, h.at_ i hi, hg i (fun e => he e.symm)]
/-- How many there are of each length but 0. -/
def cf (ls : List Nat) (n : Nat) : Nat := if n = 0 then 0 else ls.count n
theorem cf_le (ls : List Nat) (n : Nat) : cf ls n ≤ ls.length := by
  unfold cf; split
  · omega
  · exact List.count_le_length

theorem cf_none (ls : List Nat) : cf (ls.take 0) = fun _ => 0 := by
  funext i; unfold cf; simp

/-- What tally hands back. -/
def TallyPost (zs : List Int) (e : Ending) : Prop :=
  (Good zs → ∃ C, Cnts C (cf (nat zs)) ∧ e = .returned (.tuple #[.agg C, .bool true])) ∧ (¬ Good zs → ∃ C f, Cnts C f ∧ e = .returned (.tuple #[.agg C, .bool false]))

abbrev z16 : Array Value := #[.int .i64 0, .int .i64 0, .int .i64 0, .int .i64 0, .int .i64 0, .int .i64 0, .int .i64 0, .int .i64 0, .int .i64 0, .int .i64 0, .int .i64 0, .int .i64 0, .int .i64 0, .int .i64 0, .int .i64 0, .int .i64 0]
theorem z16_cnts : Cnts z16 (fun _ => 0) := ⟨rfl, by
  intro i hi
  have e : z16 = Array.replicate 16 (Value.int .i64 0) := rfl
  rw [e, Array.getElem?_replicate, if_pos hi]
  rfl⟩
theorem info_cnt : (Tryz.prog.info? 147).map (·.size) = some 16 := by kernel_rfl

theorem tally_ret {a : Act} {w : World} {g : Nat} {C : Array Value} {b : Bool} {R : Ending → World → Prop} (hd : a.defers = []) (hp : a.tmps.getD 2 undef = .pointer (some ⟨g, 0, none⟩)) (hb : a.tmps.getD 3 undef = .bool b)
    (hg : Blk w g 147 C) (hs : C.size = 16) (h : R (.returned (.tuple #[.agg C, .bool b])) w) :
    bodyPost Tryz.prog Tryz.f113 R .ret a w := by
  refine bodyPost_ret (v := .tuple #[.agg C, .bool b]) ?_ hd h
  have hp' : a.tmps[2]?.getD undef = .pointer (some ⟨g, 0, none⟩) := by simpa using hp
  have hb' : a.tmps[3]?.getD undef = .bool b := by simpa using hb
  simp [results, hp', hb', asAddr, run_loadVar_row (P := Tryz.prog) w g 147 147 C (0, 0) _ hg Tryz.underlying147 rfl (by rw [hs]; exact info_cnt)]

theorem nat_snoc (zs : List Int) (k : Nat) (h : k < zs.length) (n : Nat) (hn : zs[k] = (n : Int)) : (nat zs).take (k + 1) = (nat zs).take k ++ [n] := by
  rw [List.take_succ_eq_append_getElem (by rw [nat_len]; exact h), nat_get zs k h, hn]
  simp
theorem cf_snoc (ls : List Nat) (n i : Nat) : cf (ls ++ [n]) i = cf ls i + (if i = n ∧ 0 < n then 1 else 0) := by
  unfold cf
  by_cases hi : i = 0
  · subst hi
    rw [if_pos rfl, if_pos rfl, if_neg (by omega)]
  · rw [if_neg hi, if_neg hi, List.count_append, List.count_singleton]
    by_cases he : i = n
    · subst he; simp; omega
    · rw [if_neg (by simpa using fun e => he e.symm), if_neg (by omega)]

set_option maxRecDepth 100000 in
set_option maxHeartbeats 4000000 in
theorem tally_any (a : Option Addr) (len cap : Nat) (zs : List Int) (w : World) (h : RowIn w a len cap (zs.map iv)) :
    Calls Tryz.prog 113 #[.slice a len cap] w fun e w' => TallyPost zs e ∧ Below w.heap.size w w' := by
  have hzl : zs.length = len := by have := h.len_eq; simpa using this
  have hlc := h.le_cap
  have hcl := h.cap_le
  have HR := Lib.hid h
  have HZ := Lib.hid hzl
  clear h hzl
  go_enter Tryz.func113, Tryz.ntmps113
  go_upto_region 2 with (fail)
  generalize hW : (w.alloc (.cells z16 147)).alloc (.cells z16 147) = w1
  have HB : Hid (Below w.heap.size w w1) := Lib.hid (by rw [← hW]; exact ((Below.refl _ w).alloc (Nat.le_refl _) _).alloc (by simp) _)
  have HX : Hid (Blk w1 w.heap.size 147 z16) := Lib.hid (by rw [← hW]; exact (Blk.new w _ _).alloc _)
  have HC : Hid (Blk w1 (w.heap.size + 1) 147 z16) := Lib.hid (by rw [← hW]; have := Blk.new (w.alloc (.cells z16 147)) 147 z16; simpa using this)
  clear hW
  by_cases hbig : 65536 < len
  · go_wp2_with (first
      | (refine wpList_load_row rfl 147 _ rfl (w.heap.size + 1) rfl 147 z16 (0, 0) _ HC.out Tryz.underlying147 rfl (by kernel_rfl) ?_)
      | (refine wpList_store_row rfl _ _ _ rfl w.heap.size _ rfl rfl 147 z16 HX.out (by kernel_rfl) rfl (by kernel_rfl) ?_))
    exact tally_ret rfl rfl rfl (HX.out.row z16) rfl ⟨⟨fun hg => by have := hg.1; have := HZ.out; omega, fun _ => ⟨z16, _, z16_cnts, rfl⟩⟩, below_row HB.out (Nat.le_refl _) _⟩
  · go_wp2_with fail
    go_loopw [6, 13] (fun _ i wr => ∃ (k : Nat) (C : Array Value), k ≤ len ∧ i = .int .i64 (k : Int) ∧ Hid (∀ j (h : j < zs.length), j < k → 0 ≤ zs[j] ∧ zs[j] ≤ 15) ∧ Hid (Cnts C (cf ((nat zs).take k))) ∧ Hid (Blk wr (w.heap.size + 1) 147 C) ∧ Hid (Blk wr w.heap.size 147 z16) ∧ Hid (Below w.heap.size w wr)) (fun _ i _ => len - (intOf i).toNat)
    case atStart => exact ⟨0, z16, Nat.zero_le _, rfl, Lib.hid (fun j _ h => by omega), Lib.hid (by rw [cf_none]; exact z16_cnts), HC, HX, HB⟩
    case round =>
      clear HB HX HC
      obtain ⟨k, C, hk, rfl, HG, HN, HC, HX, HB⟩ := hrel
      have HS : Hid ((Tryz.prog.info? 147).map (·.size) = some C.size) := Lib.hid (by rw [HN.out.size]; exact info_cnt)
      have HS2 : Hid (z16.size = C.size) := Lib.hid (by rw [HN.out.size]; rfl)
      by_cases hlt : k < len
      · obtain ⟨b, off, rfl⟩ := HR.out.some_ (by omega)
        have hkz : k < zs.length := by rw [HZ.out]; exact hlt
        have hcz : wr.cell? ⟨b, off + k, none⟩ = some (.int .i64 zs[k]) := by
          rw [HB.out.cell (p := ⟨b, off + k, none⟩) (HR.out.lt (by omega)), HR.out.get k (by simpa using hkz)]
          simp [iv]
        obtain ⟨z, hz⟩ : ∃ z, z = zs[k] := ⟨_, rfl⟩
        rw [← hz] at hcz
        have HZK := Lib.hid hz
        clear hz
        by_cases hneg : z < 0
        · go_wp2_with (first
            | (refine wpList_load_row rfl 147 _ rfl (w.heap.size + 1) rfl 147 C (0, 0) _ HC.out Tryz.underlying147 rfl HS.out ?_)
            | (refine wpList_store_row rfl _ _ _ rfl w.heap.size _ rfl rfl 147 z16 HX.out HS.out HS2.out HN.out.one ?_))
          exact tally_ret rfl rfl rfl (HX.out.row C) HN.out.size ⟨⟨fun hg => by have := hg.2 z (by rw [HZK.out]; exact List.getElem_mem hkz); omega, fun _ => ⟨C, _, HN.out, rfl⟩⟩, below_row HB.out (Nat.le_refl _) _⟩
        · by_cases hgt : 15 < z
          · go_wp2_with (first
              | (refine wpList_load_row rfl 147 _ rfl (w.heap.size + 1) rfl 147 C (0, 0) _ HC.out Tryz.underlying147 rfl HS.out ?_)
              | (refine wpList_store_row rfl _ _ _ rfl w.heap.size _ rfl rfl 147 z16 HX.out HS.out HS2.out HN.out.one ?_))
            exact tally_ret rfl rfl rfl (HX.out.row C) HN.out.size ⟨⟨fun hg => by have := hg.2 z (by rw [HZK.out]; exact List.getElem_mem hkz); omega, fun _ => ⟨C, _, HN.out, rfl⟩⟩, below_row HB.out (Nat.le_refl _) _⟩
          · obtain ⟨n, rfl⟩ : ∃ n : Nat, z = (n : Int) := ⟨z.toNat, by omega⟩
            have HG1 : Hid (∀ j (h : j < zs.length), j < k + 1 → 0 ≤ zs[j] ∧ zs[j] ≤ 15) := Lib.hid (by
              intro j h hj
              by_cases he : j = k
              · subst he
                rw [← HZK.out]; omega
              · exact HG.out j h (by omega))
            have HTK : Hid ((nat zs).take (k + 1) = (nat zs).take k ++ [n]) := Lib.hid (nat_snoc zs k hkz n HZK.out.symm)
            by_cases h0 : 0 < n
            · have hn15 : n < 16 := by omega
              have hcell : wr.cell? ⟨w.heap.size + 1, n, none⟩ = some (.int .i64 ((cf ((nat zs).take k) n : Nat) : Int)) := by
                rw [HC.out.cell n]; exact HN.out.at_ n hn15
              have hfree : wr.frozen? ⟨w.heap.size + 1, n, none⟩ = false := HC.out.frozen n
              have hcl2 : cf ((nat zs).take k) n ≤ 65536 := Nat.le_trans (cf_le _ _) (by simp; omega)
              have HN1 : Hid (Cnts (C.setIfInBounds n (.int .i64 (((cf ((nat zs).take k) n : Nat) : Int) + 1))) (cf ((nat zs).take (k + 1)))) := Lib.hid (by
                rw [HTK.out]
                refine HN.out.set n _ (by rw [cf_snoc, if_pos ⟨rfl, h0⟩]; omega) (fun i hi => by rw [cf_snoc, if_neg (by omega)]; rfl))
              generalize cf ((nat zs).take k) n = y at *
              go_wp2_with fail
              go_roundw
              case rel => exact ⟨k + 1, _, by omega, by go_num, HG1, HN1, Lib.hid (HC.out.set_ n _), Lib.hid (HX.out.same (Below.heap_setCell _ _ _ _ (by simp))), Lib.hid (HB.out.setCell (p := ⟨w.heap.size + 1, n, none⟩) (by simp) _)⟩
              case measure => simp [intOf]; omega
            · obtain rfl : n = 0 := by omega
              have HN1 : Hid (Cnts C (cf ((nat zs).take (k + 1)))) := Lib.hid (by
                rw [HTK.out]
                exact ⟨HN.out.size, fun i hi => by rw [cf_snoc, if_neg (by omega)]; exact HN.out.at_ i hi⟩)
              go_wp2_with fail
              go_roundw
              case rel => exact ⟨k + 1, _, by omega, by go_num, HG1, HN1, HC, HX, HB⟩
              case measure => simp [intOf]; omega
      · obtain rfl : k = len := by omega
        have HT : Hid ((nat zs).take k = nat zs) := Lib.hid (List.take_of_length_le (by rw [nat_len, HZ.out]; omega))
        go_wp2_with (first
          | (refine wpList_load_row rfl 147 _ rfl (w.heap.size + 1) rfl 147 C (0, 0) _ HC.out Tryz.underlying147 rfl HS.out ?_)
          | (refine wpList_store_row rfl _ _ _ rfl w.heap.size _ rfl rfl 147 z16 HX.out HS.out HS2.out HN.out.one ?_))
        exact tally_ret rfl rfl rfl (HX.out.row C) HN.out.size ⟨⟨fun _ => ⟨C, by have := HN.out; rwa [HT.out] at this, rfl⟩, fun hn => absurd ⟨by rw [HZ.out]; omega, fun z hz => by
          obtain ⟨j, hj, rfl⟩ := List.getElem_of_mem hz
          exact HG.out j hj (by rw [← HZ.out]; exact hj)⟩ hn⟩, below_row HB.out (Nat.le_refl _) _⟩
end Go.Proofs.YtdbcendnibgcaaaGreatDoor.CanC
end
