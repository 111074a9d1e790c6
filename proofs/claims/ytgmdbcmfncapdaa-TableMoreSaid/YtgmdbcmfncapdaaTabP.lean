/-
  A symbol is placed: spread, place.
-/
import Derived.Test.YtgmdbcmfncapdaaTabF
namespace Go.Proofs.Ytgmdbcmfncapdaa.TabC
open Go.RowKit Go.My BitMath CanMath TabMath

/-- The elements behind a spread of e from place B on, L long, as far as i. -/
def spr (T : Nat → El) (B L p W i : Nat) (e : El) (j : Nat) : El := if B ≤ j ∧ j < B + L ∧ j < B + i ∧ (j - B) % p = W then e else T j
theorem spr_start (T : Nat → El) (B L p W : Nat) (hW : W < p) (e : El) : spr T B L p W W e = T := by
  funext j
  unfold spr
  rw [if_neg]
  rintro ⟨h1, _, h3, h4⟩
  rw [Nat.mod_eq_of_lt (by omega)] at h4
  omega
theorem spr_end (T : Nat → El) (B L p W i : Nat) (hi : L ≤ i) (e : El) : spr T B L p W i e = fun j => if B ≤ j ∧ j < B + L ∧ (j - B) % p = W then e else T j := by
  funext j
  unfold spr
  by_cases h : B ≤ j ∧ j < B + L ∧ (j - B) % p = W
  · rw [if_pos ⟨h.1, h.2.1, by omega, h.2.2⟩, if_pos h]
  · rw [if_neg (fun h' => h ⟨h'.1, h'.2.1, h'.2.2.2⟩), if_neg h]
theorem mod_gap (x i p : Nat) (h1 : i ≤ x) (h2 : x < i + p) (h : x % p = i % p) : x = i := by
  have e : (x - i) % p = 0 := by
    have h3 : (i + (x - i)) % p = i % p := by rw [show i + (x - i) = x from by omega]; exact h
    have h4 := Nat.mod_add_div i p
    have h5 := Nat.mod_add_div (i + (x - i)) p
    have h6 : x - i < p := by omega
    by_cases h7 : x - i = 0
    · rw [h7]; simp
    · exfalso
      have hp : 0 < p := by omega
      have h8 := Nat.mod_lt i hp
      rw [h3] at h5
      have h9 : p * (i / p) < p * ((i + (x - i)) / p) := by omega
      have h10 : i / p < (i + (x - i)) / p := Nat.lt_of_mul_lt_mul_left h9
      have h11 : p * (i / p + 1) ≤ p * ((i + (x - i)) / p) := Nat.mul_le_mul_left p h10
      rw [Nat.mul_add] at h11
      omega
  rw [Nat.mod_eq_of_lt (by omega)] at e
  omega
theorem spr_step (T : Nat → El) (B L p W i : Nat) (hp : 0 < p) (hi : i < L) (hm : i % p = W) (e : El) (j : Nat) : spr T B L p W (i + p) e j = if j = B + i then e else spr T B L p W i e j := by
  unfold spr
  by_cases hj : j = B + i
  · subst hj
    rw [if_pos rfl, if_pos ⟨by omega, by omega, by omega, by rw [Nat.add_sub_cancel_left]; exact hm⟩]
  · rw [if_neg hj]
    by_cases h : B ≤ j ∧ j < B + L ∧ j < B + i ∧ (j - B) % p = W
    · rw [if_pos ⟨h.1, h.2.1, by omega, h.2.2.2⟩, if_pos h]
    · rw [if_neg h, if_neg]
      rintro ⟨h1, h2, h3, h4⟩
      by_cases hlt : j < B + i
      · exact h ⟨h1, h2, hlt, h4⟩
      · have := mod_gap (j - B) i p (by omega) (by omega) (by rw [h4, hm])
        omega

theorem Els.set {C : Array Value} {n : Nat} {T T' : Nat → El} (h : Els C n T) (j : Nat) (e : El) (hj : j < n) (hT : ∀ i, i < n → T' i = if i = j then e else T i) :
    Els (((C.setIfInBounds (j * 3) (.int .u16 ((e.v : Nat) : Int))).setIfInBounds (j * 3 + 1) (.int .u8 ((e.l : Nat) : Int))).setIfInBounds (j * 3 + 2) (.int .u8 ((e.m : Nat) : Int))) n T' := by
  have hs := h.size
  refine ⟨by simp [hs], fun i hi => ?_, fun i hi => ?_, fun i hi => ?_⟩
  · rw [Array.getElem?_setIfInBounds, if_neg (by omega), Array.getElem?_setIfInBounds, if_neg (by omega), Array.getElem?_setIfInBounds, hT i hi]
    by_cases he : i = j
    · subst he; rw [if_pos rfl, if_pos (by rw [hs]; omega), if_pos rfl]
    · rw [if_neg (by omega), if_neg he, h.at0 i hi]
  · rw [Array.getElem?_setIfInBounds, if_neg (by omega), Array.getElem?_setIfInBounds, hT i hi]
    by_cases he : i = j
    · subst he; rw [if_pos rfl, if_pos (by simp [hs]; omega), if_pos rfl]
    · rw [if_neg (by omega), if_neg he, Array.getElem?_setIfInBounds, if_neg (by omega), h.at1 i hi]
  · rw [Array.getElem?_setIfInBounds, hT i hi]
    by_cases he : i = j
    · subst he; rw [if_pos rfl, if_pos (by simp [hs]; omega), if_pos rfl]
    · rw [if_neg (by omega), if_neg he, Array.getElem?_setIfInBounds, if_neg (by omega), Array.getElem?_setIfInBounds, if_neg (by omega), h.at2 i hi]
/-- Elements in a block. -/
def Row (w : World) (ge n : Nat) (T : Nat → El) : Prop := ∃ C, Blk w ge 54 C ∧ Els C n T
theorem Row.el {w : World} {ge n : Nat} {T : Nat → El} (h : Row w ge n T) (j : Nat) (hj : j < n) :
    (w.cell? ⟨ge, j * 3, none⟩ = some (.int .u16 (((T j).v : Nat) : Int)) ∧ w.cell? ⟨ge, j * 3 + 1, none⟩ = some (.int .u8 (((T j).l : Nat) : Int)) ∧ w.cell? ⟨ge, j * 3 + 2, none⟩ = some (.int .u8 (((T j).m : Nat) : Int))) ∧ ∀ k, w.frozen? ⟨ge, k, none⟩ = false := by
  obtain ⟨C, h4, h5⟩ := h
  exact ⟨⟨by rw [h4.cell]; exact h5.at0 j hj, by rw [h4.cell]; exact h5.at1 j hj, by rw [h4.cell]; exact h5.at2 j hj⟩, fun k => h4.frozen k⟩
theorem Row.set {w : World} {ge n : Nat} {T T' : Nat → El} (h : Row w ge n T) (j : Nat) (e : El) (hj : j < n) (hT : ∀ i, i < n → T' i = if i = j then e else T i) :
    Row (((w.setCell ⟨ge, j * 3, none⟩ (.int .u16 ((e.v : Nat) : Int))).setCell ⟨ge, j * 3 + 1, none⟩ (.int .u8 ((e.l : Nat) : Int))).setCell ⟨ge, j * 3 + 2, none⟩ (.int .u8 ((e.m : Nat) : Int))) ge n T' := by
  obtain ⟨C, h4, h5⟩ := h
  exact ⟨_, ((h4.set_ _ _).set_ _ _).set_ _ _, h5.set j e hj hT⟩
theorem Row.same {w w' : World} {ge n : Nat} {T : Nat → El} (h : Row w ge n T) (h2 : w'.heap[ge]? = w.heap[ge]?) : Row w' ge n T := by
  obtain ⟨C, h4, h5⟩ := h
  exact ⟨C, h4.same h2, h5⟩
theorem Row.lt {w : World} {ge n : Nat} {T : Nat → El} (h : Row w ge n T) : ge < w.heap.size := by
  obtain ⟨C, h4, h5⟩ := h
  exact h4.lt

theorem spread_any (ge N B O L cap n W : Nat) (T : Nat → El) (e : El) (w : World) (h : Row w ge N T) (hn : n ≤ 15) (hW : W < 2 ^ n) (hB : B + L ≤ N) (hN : N ≤ 65536) (hO : O = B * 3) :
    Calls Try.prog 27 #[.slice (some ⟨ge, O, none⟩) L cap, .int .u32 (W : Int), .int .i64 (n : Int), .agg (ec e)] w fun r w' =>
      r = .returned (.tuple #[]) ∧ Row w' ge N (fun j => if B ≤ j ∧ j < B + L ∧ (j - B) % 2 ^ n = W then e else T j) ∧ Only (fun k => k = ge) w w' := by
  have HR := Lib.hid h
  have HO := Lib.hid hO
  clear hO
  have hp := pow_le15 hn
  have h0 := Nat.two_pow_pos n
  have hs2 : min n 64 = n := by omega
  have hp2 : (2 : Int) ^ n = ((2 ^ n : Nat) : Int) := by push_cast; rfl
  generalize 2 ^ n = p at *
  have hs3 : IntKind.i64.wrap (2 ^ n) = (p : Int) := by rw [hp2, IntWalk.i64_in _ (by omega)]
  have hs4 : (1 : Int) * 2 ^ n = (p : Int) := by rw [hp2]; omega
  clear h
  obtain ⟨ev, el, em⟩ := e
  dsimp only [ec]
  go_enter Try.func27, Try.ntmps27
  go_wp2_with fail
  obtain ⟨w1, hw1⟩ : ∃ w1, w1 = w.alloc (.cells #[.int .u16 (ev : Int), .int .u8 (el : Int), .int .u8 (em : Int)] 54) := ⟨_, rfl⟩
  have HB : Hid (Only (fun k => k = ge) w w1) := Lib.hid (by rw [hw1]; exact (Only.refl _ w).alloc _)
  have HR1 : Hid (Row w1 ge N T) := Lib.hid (by rw [hw1]; exact HR.out.same (Below.heap_alloc _ _ _ HR.out.lt))
  have HX : Hid (Blk w1 w.heap.size 54 (ec ⟨ev, el, em⟩)) := Lib.hid (by rw [hw1]; exact Blk.new w _ _)
  have HNE : Hid (ge < w.heap.size) := Lib.hid HR.out.lt
  rw [← hw1]
  clear hw1 HR
  go_loopw [8] (fun x wr => ∃ i : Nat, x = .int .i64 (i : Int) ∧ i < L + p ∧ Hid (i % p = W) ∧ Hid (Row wr ge N (spr T B L p W i ⟨ev, el, em⟩)) ∧ Hid (Blk wr w.heap.size 54 (ec ⟨ev, el, em⟩)) ∧ Hid (Only (fun k => k = ge) w wr)) (fun x _ => L + p - (intOf x).toNat)
  case atStart => exact ⟨W, rfl, by omega, Lib.hid (Nat.mod_eq_of_lt hW), Lib.hid (by rw [spr_start _ _ _ _ _ hW]; exact HR1.out), HX, HB⟩
  case round =>
    clear HR1 HX HB
    obtain ⟨i, rfl, hi, HM, HR, HX, HB⟩ := hrel
    by_cases hlt : i < L
    · obtain ⟨⟨c0, c1, c2⟩, hfz⟩ := HR.out.el (B + i) (by omega)
      have HA : Hid ((B + i) * 3 = O + i * 3) := Lib.hid (by rw [HO.out, Nat.add_mul])
      rw [HA.out] at c0 c1 c2
      have f0 := hfz (O + i * 3)
      have f1 := hfz (O + i * 3 + 1)
      have f2 := hfz (O + i * 3 + 2)
      have x0 : wr.cell? ⟨w.heap.size, 0, none⟩ = some (.int .u16 (ev : Int)) := by rw [HX.out.cell]; rfl
      have x1 : wr.cell? ⟨w.heap.size, 1, none⟩ = some (.int .u8 (el : Int)) := by rw [HX.out.cell]; rfl
      have x2 : wr.cell? ⟨w.heap.size, 2, none⟩ = some (.int .u8 (em : Int)) := by rw [HX.out.cell]; rfl
      clear hfz
      have HS : Hid (∀ j, spr T B L p W (i + p) ⟨ev, el, em⟩ j = if j = B + i then ⟨ev, el, em⟩ else spr T B L p W i ⟨ev, el, em⟩ j) := Lib.hid (spr_step T B L p W i h0 hlt HM.out _)
      have HR2 := Lib.hid (HR.out.set (T' := spr T B L p W (i + p) ⟨ev, el, em⟩) (B + i) ⟨ev, el, em⟩ (by omega) (fun j _ => HS.out j))
      rw [HA.out] at HR2
      have HBX : Hid (Only (fun k => k = ge) w (((wr.setCell ⟨ge, O + i * 3, none⟩ (.int .u16 (ev : Int))).setCell ⟨ge, O + i * 3 + 1, none⟩ (.int .u8 (el : Int))).setCell ⟨ge, O + i * 3 + 2, none⟩ (.int .u8 (em : Int)))) := Lib.hid (((HB.out.setCell (p := ⟨ge, O + i * 3, none⟩) (fun _ => rfl) _).setCell (p := ⟨ge, O + i * 3 + 1, none⟩) (fun _ => rfl) _).setCell (p := ⟨ge, O + i * 3 + 2, none⟩) (fun _ => rfl) _)
      have HXX : Hid (Blk (((wr.setCell ⟨ge, O + i * 3, none⟩ (.int .u16 (ev : Int))).setCell ⟨ge, O + i * 3 + 1, none⟩ (.int .u8 (el : Int))).setCell ⟨ge, O + i * 3 + 2, none⟩ (.int .u8 (em : Int))) w.heap.size 54 (ec ⟨ev, el, em⟩)) := Lib.hid (by
        have hne : w.heap.size ≠ ge := by have := HNE.out; omega
        exact ((HX.out.same (Below.heap_setCell _ _ _ _ hne)).same (Below.heap_setCell _ _ _ _ hne)).same (Below.heap_setCell _ _ _ _ hne))
      have HM2 : Hid ((i + p) % p = W) := Lib.hid (by rw [Nat.add_mod_right]; exact HM.out)
      clear HS HR HX HB HM
      go_wp2_with fail
      go_roundw
      case rel => exact ⟨i + p, by go_num, by omega, HM2, HR2, HXX, HBX⟩
      case measure => simp [intOf]; omega
    · rw [spr_end _ _ _ _ _ _ (by omega)] at HR
      go_wp2_with fail
      go_end0
      exact ⟨rfl, HR.out, HB.out⟩
end Go.Proofs.Ytgmdbcmfncapdaa.TabC
