import Derived.Test.YtfnjokoeaboliaaBitA
import Derived.Test.YtfnjokoeaboliaaMem
import Derived.Lib.BufferMore
namespace Go.Proofs.Ytfnjokoeaboliaa.BitC
open Go.RowKit Go.My BitMath

/-- A Reader of these bytes, at this bit. -/
structure Rd (B : Nat) (w : World) (g : Nat) (l : List UInt8) (at_ : Nat) : Prop where
  ex : ∃ a c, Blk w g 56 #[.slice a l.length c, .int .i64 (at_ : Int)] ∧ Own 5 B w (.slice a l.length c) l
  base : B ≤ g
  le : at_ ≤ 8 * l.length

section
variable {B g at_ : Nat} {w w' : World} {l : List UInt8} {S : Nat → Prop}
theorem Rd.lt (h : Rd B w g l at_) : g < w.heap.size := by
  obtain ⟨⟨a, c, hb, _⟩, _⟩ := h
  exact hb.lt
theorem Rd.below (h : Rd B w g l at_) (hk : Below w.heap.size w w') : Rd B w' g l at_ := by
  obtain ⟨⟨a, c, hb, ho⟩, h2, h3⟩ := h
  have hO := Only.of_below hk (fun _ => False)
  exact ⟨⟨a, c, hO.blk hb (fun h => h), hO.own ho (fun _ _ h => h)⟩, h2, h3⟩
theorem Rd.drewN (h : Rd B w g l at_) (n : Nat) : Rd B (w.drewN n) g l at_ := h.below ⟨rfl, rfl, rfl, Nat.le_refl _, fun _ _ => rfl⟩
/-- The position is set. -/
theorem Rd.set_ (h : Rd B w g l at_) (k : Nat) (hk : k ≤ 8 * l.length) : Rd B (w.setCell ⟨g, 1, none⟩ (.int .i64 (k : Int))) g l k ∧ Only (fun k => g = k) w (w.setCell ⟨g, 1, none⟩ (.int .i64 (k : Int))) := by
  obtain ⟨⟨a, c, hb, ho⟩, h2, _⟩ := h
  have hfar := own_len_ne ho hb (by decide)
  have hO : Only (fun k => g = k) w (w.setCell ⟨g, 1, none⟩ (.int .i64 (k : Int))) := (Only.refl _ w).setCell (p := ⟨g, 1, none⟩) (fun _ => rfl) _
  exact ⟨⟨⟨a, c, hb.set_ 1 _, hO.own ho (fun k hk e => hfar (by rw [hk, ← e]))⟩, h2, hk⟩, hO⟩
end

/-- What a call on a Reader that moves on leaves. -/
def ReadTo (B g : Nat) (w : World) (l : List UInt8) (at_ : Nat) (v : Value) (e : Ending) (w' : World) : Prop := e = .returned v ∧ Rd B w' g l at_ ∧ Only (fun k => g = k) w w'

set_option maxHeartbeats 1000000 in
theorem clone_any (a : Option Addr) (len cap : Nat) (l : List UInt8) (w : World) (hb : Bytes w a len cap l) (hl : len ≤ 100000000000) :
    Calls Try.prog 27 #[.slice a len cap] w (OwnRet 5 w l) := by
  have hle := hb.len_eq
  have HBY := Lib.hid hb
  cases a with
  | none =>
    obtain ⟨rfl, rfl⟩ := hb.nil rfl
    obtain rfl : l = [] := List.length_eq_zero_iff.1 hle
    clear hb hle
    have hq := fun W => Lib.run_eql_slice_nil_nil (P := Try.prog) W 0 0 Try.underlying26
    go_enter Try.func27, Try.ntmps27
    go_wp2_with fail
    go_ret
    exact ⟨.slice none 0 0, rfl, Own.nil _ _ _, Below.refl _ _⟩
  | some ad =>
    have HL := Lib.hid hle
    clear hb hle
    have hq := fun W => Lib.run_eql_slice_some_nil (P := Try.prog) W ad len cap Try.underlying26
    go_enter Try.func27, Try.ntmps27
    go_wp2_with (at_builtin; refine wpList_append_lie (by rfl) (.tmp 5) (.tmp 6) 26 rfl w.heap.size 5 Try.underlying26 info5 (.slice (some ⟨w.heap.size, 0, none⟩) 0 0) [] rfl (Own.empty 5 w (Nat.le_refl _)) (some ad) len cap l rfl (HBY.out.below (Nat.le_refl _) ((Below.refl _ w).alloc (Nat.le_refl _) _)) (by simp; omega) (by simp) ?_)
    intro a1 c1 w1 hown hgrow hnext
    have HO := Lib.hid hown
    have HB : Hid (Below w.heap.size w w1) := Lib.hid (grown_below (Own.empty 5 w (Nat.le_refl _)) ((Below.refl _ _).alloc (Nat.le_refl _) _) hgrow (by simp))
    clear hown hgrow hnext
    go_wp2_with fail
    go_ret
    exact ⟨.slice a1 len c1, rfl, by simpa using HO.out, HB.out⟩

theorem new_reader (a : Option Addr) (len cap : Nat) (l : List UInt8) (w : World) (hb : Bytes w a len cap l) (hl : len ≤ 100000000000) :
    Calls Try.prog 20 #[.slice a len cap] w fun e w' => ∃ g, e = .returned (.pointer (some ⟨g, 0, none⟩)) ∧ Rd w.heap.size w' g l 0 ∧ Below w.heap.size w w' := by
  have HBY := Lib.hid hb
  clear hb
  go_enter Try.func20, Try.ntmps20
  go_wp2_with fail
  refine (clone_any a len cap l w HBY.out hl).mono ?_
  rintro e w1 ⟨v, rfl, ho, hbel⟩
  obtain ⟨a1, c1, rfl, _⟩ := ho.bytes
  have HO := Lib.hid ho
  have HB := Lib.hid hbel
  have hs := hbel.size
  clear ho hbel
  go_wp2_with fail
  go_ret
  exact ⟨w1.heap.size, rfl, ⟨⟨a1, c1, Blk.new w1 _ _, HO.out.below (Nat.le_refl _) ((Below.refl _ _).alloc (Nat.le_refl _) _)⟩, hs, Nat.zero_le _⟩, HB.out.alloc hs _⟩

theorem at_any (B g at_ : Nat) (l : List UInt8) (w : World) (h : Rd B w g l at_) :
    Calls Try.prog 24 #[.pointer (some ⟨g, 0, none⟩)] w fun e w' => e = .returned (.int .i64 (at_ : Int)) ∧ w = w' := by
  obtain ⟨⟨a, c, hb, _⟩, _⟩ := h
  have h1 : w.cell? ⟨g, 1, none⟩ = some (.int .i64 (at_ : Int)) := hb.cell 1
  clear hb
  go_enter Try.func24, Try.ntmps24
  go_wp2_with fail
  go_ret
  exact ⟨rfl, rfl⟩

theorem ralign_any (B g at_ : Nat) (l : List UInt8) (w : World) (h : Rd B w g l at_) (hl : l.length ≤ 100000000000) :
    Calls Try.prog 21 #[.pointer (some ⟨g, 0, none⟩)] w (ReadTo B g w l ((at_ + 7) / 8 * 8) (.tuple #[])) := by
  have hle := h.le
  have HR := Lib.hid (h.set_ ((at_ + 7) / 8 * 8) (by omega))
  obtain ⟨⟨a, c, hb, _⟩, _⟩ := h
  have h1 : w.cell? ⟨g, 1, none⟩ = some (.int .i64 (at_ : Int)) := hb.cell 1
  have hf := hb.frozen 1
  have e : ((at_ : Int) + 7) / 8 * 8 = (((at_ + 7) / 8 * 8 : Nat) : Int) := by omega
  have HE := Lib.hid e
  clear hb e
  go_enter Try.func21, Try.ntmps21
  go_wp2_with fail
  go_end0
  rw [HE.out]
  exact ⟨rfl, HR.out⟩

theorem left_any (B g at_ : Nat) (l : List UInt8) (w : World) (h : Rd B w g l at_) (hl : l.length ≤ 100000000000) :
    Calls Try.prog 28 #[.pointer (some ⟨g, 0, none⟩)] w fun e w' => e = .returned (.int .i64 ((8 * l.length - at_ : Nat) : Int)) ∧ ∃ n, w' = w.drewN n := by
  have hle := h.le
  obtain ⟨⟨a, c, hb, _⟩, _⟩ := h
  have h0 : w.cell? ⟨g, 0, none⟩ = some (.slice a l.length c) := hb.cell 0
  have h1 : w.cell? ⟨g, 1, none⟩ = some (.int .i64 (at_ : Int)) := hb.cell 1
  have e1 : IntKind.i64.wrap (8 * (l.length : Int)) = 8 * (l.length : Int) := IntWalk.i64_in _ (by omega)
  have e2 : IntKind.i64.wrap (8 * (l.length : Int) - (at_ : Int)) = 8 * (l.length : Int) - (at_ : Int) := IntWalk.i64_in _ (by omega)
  clear hb
  go_enter Try.func28, Try.ntmps28
  go_wp2_with fail
  go_quiet (fail)
  go_wp2_with fail
  go_ret
  exact ⟨ret_int (by omega), _, rfl⟩

theorem u32_low (x : Nat) (hx : x < 256) : bits .and .u32 (x : Int) 1 = ((x % 2 : Nat) : Int) := by
  rw [show (1 : Int) = ((1 : Nat) : Int) from rfl, u32_and_nat _ _ (by omega) (by omega), Nat.and_one_is_mod]

set_option maxRecDepth 100000 in
set_option maxHeartbeats 2000000 in
theorem next_any (B g at_ : Nat) (l : List UInt8) (w : World) (h : Rd B w g l at_) (hl : l.length ≤ 100000000000) (hlt : at_ < 8 * l.length) :
    Calls Try.prog 29 #[.pointer (some ⟨g, 0, none⟩)] w (ReadTo B g w l (at_ + 1) (.int .u32 (((bitsOf l)[at_]'(by rw [bitsOf_len]; exact hlt)).toNat : Int))) := by
  have hg := bitsOf_get l at_ hlt
  rw [List.getElem?_eq_getElem (by rw [bitsOf_len]; exact hlt)] at hg
  injection hg with hg
  rw [hg, bit_nat]
  have h8 : at_ / 8 < l.length := by omega
  have HR := fun n => (h.drewN n).set_ (at_ + 1) (by omega)
  obtain ⟨⟨a, c, hb, ho⟩, _⟩ := h
  have h0 : w.cell? ⟨g, 0, none⟩ = some (.slice a l.length c) := hb.cell 0
  have h1 : w.cell? ⟨g, 1, none⟩ = some (.int .i64 (at_ : Int)) := hb.cell 1
  have hf := hb.frozen 1
  obtain ⟨g', cap', hv, _⟩ := ho.some_ (by omega)
  simp only [Value.slice.injEq, true_and] at hv
  obtain ⟨rfl, rfl⟩ := hv
  have hcell := own_cell ho rfl (at_ / 8) h8
  unfold bv at hcell
  have HR' := Lib.hid HR
  generalize hx : l[at_ / 8].toNat = x at *
  have hx2 : x < 256 := by rw [← hx]; exact l[at_ / 8].toNat_lt
  have hd := Nat.div_le_self x (2 ^ (at_ % 8))
  have hq1 : (0 : Int) ≤ (at_ : Int) / 8 := by omega
  have hq2 : (at_ : Int) / 8 < (l.length : Int) := by omega
  have hmod : (at_ : Int).tmod 8 = (at_ : Int) % 8 := Int.tmod_eq_emod_of_nonneg (by omega)
  have hdiv : (at_ : Int).tdiv 8 = (at_ : Int) / 8 := Int.tdiv_eq_ediv_of_nonneg (by omega)
  have hm1 : (0 : Int) ≤ (at_ : Int) % 8 := by omega
  have ht1 : ((at_ : Int) / 8).toNat = at_ / 8 := by omega
  have ht2 : ((at_ : Int) % 8).toNat = at_ % 8 := by omega
  have hsh : (x : Int) / 2 ^ (at_ % 8) = ((x / 2 ^ (at_ % 8) : Nat) : Int) := by push_cast; rfl
  generalize x / 2 ^ (at_ % 8) = y at *
  have hu8 : IntKind.u8.wrap (y : Int) = (y : Int) := IntWalk.u8_in _ (by omega)
  have hu32 : IntKind.u32.wrap (y : Int) = (y : Int) := IntWalk.u32_in _ (by omega)
  have hand := u32_low y (by omega)
  have hw1 : IntKind.i64.wrap ((at_ : Int) / 8) = (at_ : Int) / 8 := IntWalk.i64_in _ (by omega)
  have hw2 : IntKind.i64.wrap ((at_ : Int) % 8) = (at_ : Int) % 8 := IntWalk.i64_in _ (by omega)
  clear HR hb ho hx hg
  go_enter Try.func29, Try.ntmps29
  go_wp2_with fail
  go_quiet (fail)
  clear hw1 hw2 hand hu32 hu8 hsh ht1 ht2 hm1 hmod hdiv
  have h1' : (w.drewN nq).cell? ⟨g, 1, none⟩ = some (.int .i64 (at_ : Int)) := h1
  have hf' : (w.drewN nq).frozen? ⟨g, 1, none⟩ = false := hf
  go_wp2_with fail
  go_ret
  obtain ⟨h2, h3⟩ := HR'.out nq
  exact ⟨by simp, h2, h3.of_drewN⟩

/-! ### Get -/
theorem get_arg (g : Nat) (n : Int) (w : World) (h : n < 0 ∨ 32 < n) :
    Calls Try.prog 22 #[.pointer (some ⟨g, 0, none⟩), .int .i64 n] w fun e w' => e = .returned (.tuple #[.int .u32 0, .int .i64 1]) ∧ w = w' := by
  by_cases h0 : n < 0
  · go_enter Try.func22, Try.ntmps22
    go_wp2_with fail
    go_ret2
    exact ⟨rfl, rfl⟩
  · have h8 : decide (n > 32) = true := by simp; omega
    go_enter Try.func22, Try.ntmps22
    go_wp2_with fail
    go_ret2
    exact ⟨rfl, rfl⟩

theorem get_short (B g at_ : Nat) (l : List UInt8) (w : World) (h : Rd B w g l at_) (hl : l.length ≤ 100000000000) (n : Nat) (hn : n ≤ 32) (hs : 8 * l.length - at_ < n) :
    Calls Try.prog 22 #[.pointer (some ⟨g, 0, none⟩), .int .i64 (n : Int)] w (ReadTo B g w l at_ (.tuple #[.int .u32 0, .int .i64 5])) := by
  have d0 : decide ((n : Int) < 0) = false := by simp
  have d8 : decide ((n : Int) > 32) = false := by simp; omega
  have HR := Lib.hid h
  clear h
  generalize hm : 8 * l.length - at_ = m at hs
  have hd : decide ((n : Int) > (m : Int)) = true := by simp; omega
  have HM := Lib.hid hm
  clear hm
  go_enter Try.func22, Try.ntmps22
  go_wp2_with fail
  refine (left_any B g at_ l w HR.out hl).mono ?_
  rw [HM.out]
  rintro e w' ⟨rfl, k, rfl⟩
  go_wp2_with fail
  go_ret2
  exact ⟨rfl, HR.out.drewN _, (Only.refl _ w).drewN _⟩

theorem u32_or_bit (k x b : Nat) (hk : k < 32) (hx : x < 2 ^ k) (hb : b ≤ 1) : bits .or .u32 (x : Int) ((b : Int) * 2 ^ k % 4294967296) = ((x + 2 ^ k * b : Nat) : Int) := by
  have h7 : 2 ^ k ≤ 2 ^ 31 := Nat.pow_le_pow_right (by omega) (by omega)
  have hbm : b * 2 ^ k ≤ 1 * 2 ^ k := Nat.mul_le_mul_right _ hb
  have e : (b : Int) * 2 ^ k = ((b * 2 ^ k : Nat) : Int) := by push_cast; rfl
  rw [e, show ((b * 2 ^ k : Nat) : Int) % 4294967296 = ((b * 2 ^ k : Nat) : Int) from by omega, u32_or_nat _ _ (by omega) (by omega), or_join k x b hx]

/-- What Get has read behind k rounds. -/
def got (l : List UInt8) (at_ k : Nat) : List Bool := ((bitsOf l).drop at_).take k
theorem got_len (l : List UInt8) (at_ k : Nat) (h : at_ + k ≤ 8 * l.length) : (got l at_ k).length = k := by
  unfold got; simp [bitsOf_len]; omega
theorem got_succ (l : List UInt8) (at_ k : Nat) (h : at_ + k < 8 * l.length) : num (got l at_ (k + 1)) = num (got l at_ k) + 2 ^ k * ((bitsOf l)[at_ + k]'(by rw [bitsOf_len]; exact h)).toNat := by
  unfold got
  rw [List.take_succ_eq_append_getElem (by simp [bitsOf_len]; omega), num_snoc, List.getElem_drop]
  have := got_len l at_ k (by omega)
  unfold got at this
  rw [this]

set_option maxRecDepth 100000 in
set_option maxHeartbeats 2000000 in
theorem get_any (B g at_ : Nat) (l : List UInt8) (w : World) (h : Rd B w g l at_) (hl : l.length ≤ 100000000000) (n : Nat) (hn : n ≤ 32) (hs : at_ + n ≤ 8 * l.length) :
    Calls Try.prog 22 #[.pointer (some ⟨g, 0, none⟩), .int .i64 (n : Int)] w (ReadTo B g w l (at_ + n) (.tuple #[.int .u32 ((num (got l at_ n) : Nat) : Int), .int .i64 0])) := by
  have d0 : decide ((n : Int) < 0) = false := by simp
  have d8 : decide ((n : Int) > 32) = false := by simp; omega
  have HR := Lib.hid h
  clear h
  generalize hm : 8 * l.length - at_ = m
  have hd : decide (m < n) = false := by simp; omega
  have HM := Lib.hid hm
  clear hm
  go_enter Try.func22, Try.ntmps22
  go_wp2_with fail
  refine (left_any B g at_ l w HR.out hl).mono ?_
  rw [HM.out]
  rintro e w' ⟨rfl, k0, rfl⟩
  go_wp2_with fail
  have HR0 : Hid (Rd B (w.drewN k0) g l (at_ + 0)) := Lib.hid (HR.out.drewN k0)
  have HO0 : Hid (Only (fun k => g = k) w (w.drewN k0)) := Lib.hid ((Only.refl _ w).drewN k0)
  clear HR d0 d8 hd
  go_loopw [6, 19] (fun v i wr => ∃ k : Nat, k ≤ n ∧ i = .int .i64 (k : Int) ∧ v = .int .u32 ((num (got l at_ k) : Nat) : Int) ∧ Hid (Rd B wr g l (at_ + k)) ∧ Hid (Only (fun k => g = k) w wr)) (fun _ i _ => n - (intOf i).toNat)
  case atStart => exact ⟨0, Nat.zero_le _, rfl, by simp [got, num], HR0, HO0⟩
  case round =>
    clear HR0 HO0
    obtain ⟨k, hk, rfl, rfl, HR, HO⟩ := hrel
    by_cases hlt : k < n
    · have hat : at_ + k < 8 * l.length := by omega
      have hb : ((bitsOf l)[at_ + k]'(by rw [bitsOf_len]; exact hat)).toNat ≤ 1 := Bool.toNat_le _
      have hx : num (got l at_ k) < 2 ^ k := by have := num_lt (got l at_ k); rwa [got_len l at_ k (by omega)] at this
      have HS := Lib.hid (got_succ l at_ k hat)
      have HOR := Lib.hid (u32_or_bit k _ _ (by omega) hx hb)
      have HN := Lib.hid (next_any B g (at_ + k) l wr HR.out hl hat)
      generalize ((bitsOf l)[at_ + k]'(by rw [bitsOf_len]; exact hat)).toNat = b at *
      generalize num (got l at_ k) = x at *
      clear hx
      go_wp2_with fail
      refine HN.out.mono ?_
      rintro e w2 ⟨rfl, hr2, ho2⟩
      have HR2 := Lib.hid hr2
      have HO2 := Lib.hid (HO.out.trans ho2 (fun _ _ h => h))
      clear hr2 ho2
      go_wp2_with fail
      go_roundw
      case rel => exact ⟨k + 1, by omega, by go_num, by rw [HOR.out, HS.out], HR2, HO2⟩
      case measure => simp [intOf]; omega
    · obtain rfl : k = n := by omega
      go_wp2_with fail
      go_ret2
      exact ⟨rfl, HR.out, HO.out⟩
end Go.Proofs.Ytfnjokoeaboliaa.BitC
