import Derived.Test.YtilfmmjjiiabgaaGreatDoorMgAa
import Derived.Lib.SlTrimSet
import Derived.Shelf.Lay
import Derived.Shelf.LaySoft
import Derived.Shelf.Strings.SlTrimAscii
import Derived.Shelf.Strings.Repeat
import Derived.Shelf.Strings.Trim
import Derived.Shelf.Strings.Search2
import Derived.Shelf.Strings.Prefix
import Derived.Shelf.Strconv.Itoa3
import Derived.Test.YtilfmmjjiiabgaaGreatDoorProg
import Derived.Test.YtilfmmjjiiabgaaGreatDoorRows
import Derived.WalkSpells
import Derived.Lib.IndexBytes
import Derived.Lib.ItoaNum
import Derived.Lib.TrimByte
import Derived.Lib.Repeat
import Derived.Test.YtilfmmjjiiabgaaGreatDoorMgCk
import Derived.Lib.AppendIntMem
import Derived.Lib.Bytealg
import Derived.Test.YtilfmmjjiiabgaaGreatDoorMgAm

section
/-
  Texts of digits: no program, no dump.
-/
namespace Go.My.NumMath

def ends : List UInt8 := [32, 0]
/-! ### a text read from the left -/
end Go.My.NumMath
end

section
namespace Go.Proofs
open Go.Shelf
shelf_try shelf_lay Lays.n160 Nm 160 at Tryz as Tryz.lays160
shelf_try shelf_lay Lays.n162 Nm 162 at Tryz as Tryz.lays162
shelf_try shelf_lay Lays.n219 Nm 219 at Tryz as Tryz.lays219
shelf_try shelf_lay Lays.n206 Nm 206 at Tryz as Tryz.lays206
shelf_try shelf_lay LaysM.n171 Nm 171 at Tryz as Tryz.laysM171
shelf_try shelf_lay Lays.n105 Nm 105 at Tryz as Tryz.lays105
shelf_try theorem Tryz.Builder_Extra_105 : Builder.Extra Tryz.prog Tryz.lays105_ren where
  sizeBuilder := by kernel_rfl
  liesBuilder := by kernel_rfl
  t5 := Tryz.underlying5
  a5 := Tryz.isAgg5
  z5 := Tryz.sizeOf5
  v5 := Tryz.zeroValue5
  infoByte := by kernel_rfl
  cellsByte := by kernel_rfl
  sizeByte := by kernel_rfl
  neB5 := by decide
shelf_tried
end Go.Proofs
end

section
namespace Go.Proofs.YtilfmmjjiiabgaaGreatDoor.NumC
open Go.RowKit Go.My NumMath Go.Shelf

theorem ret_pair {a b c d : Int} (h1 : a = c) (h2 : b = d) : Ending.returned (.tuple #[.int .i64 a, .int .i64 b]) = .returned (.tuple #[.int .i64 c, .int .i64 d]) := by rw [h1, h2]

end Go.Proofs.YtilfmmjjiiabgaaGreatDoor.NumC
end

section
/-
  Numbers of parts of 512 as decimal texts, and back: no program, no dump.
-/
namespace Go.My.Txt
open NumMath

/-! ### reading -/
def neg (l : List UInt8) : Bool := l.head? == some 45
def num (l : List UInt8) : List UInt8 := if neg l then l.tail else l
def rest (l : List UInt8) : List UInt8 := (num l).dropWhile (· != 46)
end Go.My.Txt
end

section
namespace Go.Proofs.YtilfmmjjiiabgaaGreatDoor.ClkC
open Go.RowKit Go.My Flt NumMath Txt Go.Shelf NumC

/-- The table of powers of ten lies as the program's text lays it. -/
def Pow (w : World) : Prop := Lib.TabIs Tryz.prog w "internal/strconv.uint64pow10" .u64 Lib.pow10Tab
theorem Pow.below {w w' : World} (h : Pow w) (hb : Below w.heap.size w w') : Pow w' := by
  unfold Pow Lib.TabIs World.var? at *
  cases hg : Tryz.prog.globalNamed "internal/strconv.uint64pow10" with
  | none => rw [hg] at h; cases h
  | some g =>
    rw [hg] at h
    simp only [Option.bind_some] at h ⊢
    by_cases hlt : g < w.heap.size
    · rw [hb.block g hlt]; exact h
    · rw [Array.getElem?_eq_none (by omega)] at h; cases h
theorem ret_str {a b : ByteArray} (h : a = b) : Ending.returned (.string a) = .returned (.string b) := by rw [h]
end Go.Proofs.YtilfmmjjiiabgaaGreatDoor.ClkC
end

section
namespace Go.Proofs.YtilfmmjjiiabgaaGreatDoor.ClkC
open Go.RowKit Go.My Flt NumMath Txt Go.Shelf NumC

end Go.Proofs.YtilfmmjjiiabgaaGreatDoor.ClkC
end

section
namespace Go.Proofs.YtilfmmjjiiabgaaGreatDoor.ClkC
open Go.RowKit Go.My Flt NumMath Txt Go.Shelf NumC

end Go.Proofs.YtilfmmjjiiabgaaGreatDoor.ClkC
end

section
namespace Go.Proofs.YtilfmmjjiiabgaaGreatDoor.ClkC
open Go.RowKit Go.My Flt NumMath Txt Clk

end Go.Proofs.YtilfmmjjiiabgaaGreatDoor.ClkC
end

section
namespace Go.Proofs.YtilfmmjjiiabgaaGreatDoor.ClkC
open Go.RowKit Go.My Flt NumMath Txt Clk

theorem whole_any (x : Nat) (w : World) (hf : fin x) (hb1 : -4398046511105 ≤ K x / (U : Int)) (hb2 : K x / (U : Int) ≤ 4398046511105) :
    Calls Tryz.prog 21 #[.float .f64 x] w fun e w' => e = .returned (.int .i64 (K x / (U : Int))) ∧ w = w' := by
  have hU := U_pos
  have hw := whole_eq (K x)
  have hn : -4398046511106 ≤ Int.tdiv (K x) (U : Int) ∧ Int.tdiv (K x) (U : Int) ≤ 4398046511106 := by
    split at hw <;> omega
  obtain ⟨n, hnn⟩ : ∃ n, n = Int.tdiv (K x) (U : Int) := ⟨_, rfl⟩
  rw [← hnn] at hn hw
  obtain ⟨hn1, hn2⟩ := hn
  have hc := r_int hf hnn.symm (by omega) (by omega)
  have hfo : floatOfInt .f64 n = fl (512 * n) := floatOfInt_fl n (by omega)
  have hgt : (FloatKind.f64.format.order (floatOfInt .f64 n) x == some .gt) = decide (K x < n * (U : Int)) := by
    rw [hfo, f_gt, isNaN_fl _ (by omega), hf.notNaN, K_fl _ (by omega)]
    have : 512 * n * (Q : Int) = n * (U : Int) := by unfold U; rw [Int.natCast_mul, Int.mul_comm 512 n, Int.mul_assoc]; rfl
    rw [this]; rfl
  rw [← hw]
  clear hw hnn hb1 hb2 hf hfo
  by_cases hlt : K x < n * (U : Int)
  · rw [decide_eq_true hlt] at hgt
    rw [if_pos hlt]
    clear hlt hU
    go_enter Tryz.func21, Tryz.ntmps21
    go_wp2_with fail
    go_ret
    exact ⟨rfl, rfl⟩
  · rw [decide_eq_false hlt] at hgt
    rw [if_neg hlt]
    clear hlt hU
    go_enter Tryz.func21, Tryz.ntmps21
    go_wp2_with fail
    go_ret
    exact ⟨rfl, rfl⟩

end Go.Proofs.YtilfmmjjiiabgaaGreatDoor.ClkC
end

section
namespace Go.Proofs.YtilfmmjjiiabgaaGreatDoor.ClkC
open Go.RowKit Go.My Flt Clk

def fd (v : Int) : Int := v / 65536 % 32
/-! ### there and back -/
end Go.Proofs.YtilfmmjjiiabgaaGreatDoor.ClkC
end

section
namespace Go.Proofs.YtilfmmjjiiabgaaGreatDoor.ClkC
open Go.RowKit Go.My Flt NumMath Txt Clk

noncomputable def sameF (a b : Nat) : Bool := (!isNaN a && !isNaN b && decide (K a = K b)) || (isNaN a && isNaN b)
theorem same_cases (a b : Nat) : ((FloatKind.f64.format.order a b == some .eq) = true ∧ sameF a b = true) ∨
    ((FloatKind.f64.format.order a b == some .eq) = false ∧ (FloatKind.f64.format.order a a != some .eq) = false ∧ sameF a b = false) ∨
    ((FloatKind.f64.format.order a b == some .eq) = false ∧ (FloatKind.f64.format.order a a != some .eq) = true ∧ (FloatKind.f64.format.order b b != some .eq) = false ∧ sameF a b = false) ∨
    ((FloatKind.f64.format.order a b == some .eq) = false ∧ (FloatKind.f64.format.order a a != some .eq) = true ∧ (FloatKind.f64.format.order b b != some .eq) = true ∧ sameF a b = true) := by
  rw [f_eq, f_ne, f_ne]
  unfold sameF
  cases isNaN a <;> cases isNaN b <;> simp
  by_cases h : K a = K b <;> simp [h]
theorem refsame_any (a b : Nat) (w : World) :
    Calls Tryz.prog 12 #[.float .f64 a, .float .f64 b] w fun e w' => e = .returned (.bool (sameF a b)) ∧ w = w' := by
  rcases same_cases a b with ⟨h1, h⟩ | ⟨h1, h2, h⟩ | ⟨h1, h2, h3, h⟩ | ⟨h1, h2, h3, h⟩
  all_goals
    rw [h]
    clear h
    go_enter Tryz.func12, Tryz.ntmps12
    go_wp2_with fail
    go_ret
    exact ⟨rfl, rfl⟩
theorem refunix_any (t : Nat) (w : World) :
    Calls Tryz.prog 14 #[.float .f64 t] w fun e w' => e = .returned (.int .i64 (unixT t)) ∧ w = w' := by
  by_cases h0 : isNaN t = false ∧ 0 ≤ K t
  case neg =>
    have e1 : (FloatKind.f64.format.order t 0 == some .gt || FloatKind.f64.format.order t 0 == some .eq) = false := by
      rw [f_ge, n_0, K_0]
      cases hn : isNaN t
      · simp; by_cases hk : 0 ≤ K t
        · exact absurd ⟨hn, hk⟩ h0
        · omega
      · rfl
    have HP : Hid (unixT t = 0) := Lib.hid (by
      unfold unixT
      cases hn : isNaN t
      · have hk : K t < 0 * (Q : Int) := by
          by_cases hk : 0 ≤ K t
          · exact absurd ⟨hn, hk⟩ h0
          · omega
        have := (lt_iff t 0).1 hk
        simp only [Bool.false_eq_true, if_false]
        omega
      · rfl)
    rw [HP.out]
    clear h0 HP
    go_enter Tryz.func14, Tryz.ntmps14
    go_wp2_with fail
    go_ret
    exact ⟨rfl, rfl⟩
  obtain ⟨hn, hk⟩ := h0
  have e1 : (FloatKind.f64.format.order t 0 == some .gt || FloatKind.f64.format.order t 0 == some .eq) = true := by rw [f_ge, hn, n_0, K_0, decide_eq_true hk]; rfl
  have hP : unixT t = max 0 (min 4294967295 (par t / 512)) := by unfold unixT; rw [hn]; rfl
  by_cases hhi : 2199023255040 * (Q : Int) ≤ K t
  · have e3 : (FloatKind.f64.format.order t 4751297606873776128 == some .gt || FloatKind.f64.format.order t 4751297606873776128 == some .eq) = true := by rw [f_ge, hn, n_u, K_u, decide_eq_true hhi]; rfl
    have HP : Hid (unixT t = 4294967295) := Lib.hid (by
      have := (ge_iff t _).1 hhi
      rw [hP]; omega)
    rw [HP.out]
    clear hn HP hP hk hhi
    go_enter Tryz.func14, Tryz.ntmps14
    go_wp2_with fail
    go_ret
    exact ⟨rfl, rfl⟩
  have e3 : (FloatKind.f64.format.order t 4751297606873776128 == some .gt || FloatKind.f64.format.order t 4751297606873776128 == some .eq) = false := by rw [f_ge, hn, n_u, K_u, decide_eq_false hhi]; rfl
  have hQ := Q_pos
  obtain ⟨hfin, _, hp1, hp2⟩ := in_range hn (by omega) (by omega)
  have hq1 := (ge_iff t 0).1 (by omega)
  have hq2 := (lt_iff t 2199023255040).1 (by omega)
  have HW := Lib.hid (fun w => whole_any t w hfin (by rw [sec_eq]; omega) (by rw [sec_eq]; omega))
  rw [sec_eq] at HW
  have HP : Hid (unixT t = par t / 512) := Lib.hid (by rw [hP]; omega)
  rw [HP.out]
  clear hn HP hP hk hhi hfin hp1 hp2 hq1 hq2
  generalize par t / 512 = n at *
  go_enter Tryz.func14, Tryz.ntmps14
  go_wp2_with fail
  refine (HW.out w).mono ?_
  rintro e w' ⟨rfl, rfl⟩
  go_wp2_with fail
  go_ret
  exact ⟨rfl, rfl⟩

/-- A float that is the same as fromU's, or another NaN where that is one. -/
def Like (x r : Nat) : Prop := r = x ∨ (isNaN x = true ∧ isNaN r = true)
theorem reffromunix_any (v : Int) (w : World) :
    Calls Tryz.prog 13 #[.int .i64 v] w fun e w' => (∃ r, e = .returned (.float .f64 r) ∧ Like (fromU v) r) ∧ Below w.heap.size w w' := by
  unfold fromU
  by_cases h1 : v < 1
  · rw [if_pos (.inl h1)]
    go_enter Tryz.func13, Tryz.ntmps13
    go_wp2_with fail
    refine (none_any w).mono ?_
    rintro e w' ⟨⟨r, rfl, hr⟩, hb⟩
    have HR := Lib.hid hr
    clear hr
    go_wp2_with fail
    go_ret
    exact ⟨⟨r, rfl, .inr ⟨isNaN_nanW, HR.out⟩⟩, hb⟩
  by_cases h2 : 4294967295 < v
  · rw [if_pos (.inr h2)]
    go_enter Tryz.func13, Tryz.ntmps13
    go_wp2_with fail
    refine (none_any w).mono ?_
    rintro e w' ⟨⟨r, rfl, hr⟩, hb⟩
    have HR := Lib.hid hr
    clear hr
    go_wp2_with fail
    go_ret
    exact ⟨⟨r, rfl, .inr ⟨isNaN_nanW, HR.out⟩⟩, hb⟩
  rw [if_neg (by omega)]
  have HF : Hid (floatOfInt .f64 v = fl (512 * v)) := Lib.hid (floatOfInt_fl v (by omega))
  go_enter Tryz.func13, Tryz.ntmps13
  go_wp2_with fail
  go_ret
  exact ⟨⟨_, rfl, .inl HF.out⟩, Below.refl _ _⟩

end Go.Proofs.YtilfmmjjiiabgaaGreatDoor.ClkC
end

section
/-
  The document's Put and Wrap.
-/
namespace Go.Proofs.YtilfmmjjiiabgaaGreatDoor.GzC
open Go.RowKit Go.My GzMath
open Go.My.NumMath (bytesOf)

end Go.Proofs.YtilfmmjjiiabgaaGreatDoor.GzC
end
