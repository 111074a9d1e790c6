import Derived.Test.YtehlgnjbmdaakaaDoorClkF
import Derived.Test.YtehlgnjbmdaakaaDoorClkD
import Derived.Test.YtehlgnjbmdaakaaDoorClkN
import Derived.Test.YtehlgnjbmdaakaaDoorClkTxt
import Derived.Lib.AppendIntMem
namespace Go.Proofs.YtehlgnjbmdaakaaDoor.ClkC
open Go.RowKit Go.My Flt NumMath Txt Go.Shelf NumC

/-- The table of powers of ten lies as the program's text lays it. -/
def Pow (w : World) : Prop := Lib.TabIs Tryd.prog w "internal/strconv.uint64pow10" .u64 Lib.pow10Tab
theorem Pow.below {w w' : World} (h : Pow w) (hb : Below w.heap.size w w') : Pow w' := by
  unfold Pow Lib.TabIs World.var? at *
  cases hg : Tryd.prog.globalNamed "internal/strconv.uint64pow10" with
  | none => rw [hg] at h; cases h
  | some g =>
    rw [hg] at h
    simp only [Option.bind_some] at h ⊢
    by_cases hlt : g < w.heap.size
    · rw [hb.block g hlt]; exact h
    · rw [Array.getElem?_eq_none (by omega)] at h; cases h
theorem pow_of_laid {d1 d2 : DataW Unit} {x1 x2 : String} {rest : List (String × DataW Unit)} {W : World} (h : laidMet Tryd.prog ((x1, d1) :: (x2, d2) :: ("internal/strconv.uint64pow10", Lib.tabData .u64 Lib.pow10Tab) :: rest) W) : Pow W := by
  obtain ⟨ps, ⟨g0, t0, cs0, f0, p0, q0, hg0, ht0, hv0, hd0, ⟨g1, t1, cs1, f1, p1, q1, hg1, ht1, hv1, hd1, ⟨g2, t2, cs2, f2, p2, q2, hg2, ht2, hv2, hd2, _, _⟩, _⟩, _⟩, _, _⟩ := h
  obtain rfl := Option.some.inj ((show Tryd.prog.globalNamed "internal/strconv.uint64pow10" = some 2 by kernel_rfl).symm.trans hg2)
  obtain rfl := Option.some.inj ((show (Tryd.prog.globals[2]?).map (·.type) = some 116 by kernel_rfl).symm.trans ht2)
  unfold Pow Lib.TabIs
  rw [hv2, ← Lib.cells_of_tab Tryd.underlying116 Tryd.underlying86 (by kernel_rfl) (by kernel_rfl) hd2]

theorem itoa_any (n : Nat) (w : World) (h : n < 9223372036854775808) (hP : Pow w) :
    Calls Tryd.prog 43 #[.int .i64 (n : Int)] w fun e w' => e = .returned (.string ⟨(Lib.decDigits n).toArray⟩) ∧ Below w.heap.size w w' := by
  refine (Any.strconv_Itoa Tryd.laysM171 (n : Int) (by omega) (by omega) w hP).mono ?_
  rintro e w' ⟨rfl, k, os, rfl⟩
  refine ⟨?_, Lib.below_grow _ _ (Nat.le_refl _) _ _⟩
  unfold Lib.itoa
  rw [if_neg (by omega)]
  rfl
theorem noughts (c : Nat) : Lib.repeatL [48] c = List.replicate c (48 : UInt8) := by
  induction c with
  | zero => rfl
  | succ c ih => rw [List.replicate_succ, ← ih]; rfl
theorem repeat0 (x : Int) (c : Nat) (w : World) (hx : x = (c : Int)) (hc : c ≤ 1000) :
    Calls Tryd.prog 44 #[.string ⟨#[48]⟩, .int .i64 x] w fun e w' => e = .returned (.string ⟨(List.replicate c (48 : UInt8)).toArray⟩) ∧ Below w.heap.size w w' := by
  subst hx
  rw [← noughts]
  exact Any.strings_Repeat Tryd.lays105 Tryd.Builder_Extra_105 ⟨#[48]⟩ c w (by omega) (by rw [show (⟨#[48]⟩ : ByteArray).size = 1 from rfl]; omega)
theorem trim0 (s : ByteArray) (w : World) (hs : s.size ≤ 9223372036854775807) :
    Calls Tryd.prog 45 #[.string s, .string ⟨#[48]⟩] w fun e w' => e = .returned (.string ⟨(Lib.trimRightB s.data.toList 48).toArray⟩) ∧ w = w' :=
  (Any.strings_TrimRight_one Tryd.lays162 s 48 (by decide) w hs).mono fun _ _ ⟨h1, h2⟩ => ⟨h1, h2.symm⟩
theorem ret_str {a b : ByteArray} (h : a = b) : Ending.returned (.string a) = .returned (.string b) := by rw [h]
theorem ba_append (a b : List UInt8) : (⟨a.toArray⟩ : ByteArray) ++ ⟨b.toArray⟩ = ⟨(a ++ b).toArray⟩ := by
  apply ByteArray.ext
  rw [ByteArray.data_append]
  simp
theorem itoa_at (x : Int) (n : Nat) (w : World) (hx : x = (n : Int)) (h : n < 9223372036854775808) (hP : Pow w) :
    Calls Tryd.prog 43 #[.int .i64 x] w fun e w' => e = .returned (.string ⟨(Lib.decDigits n).toArray⟩) ∧ Below w.heap.size w w' := by
  subst hx; exact itoa_any n w h hP
theorem dg_len (n : Nat) : ∀ u, (dg n u).length ≤ n := by
  induction n with
  | zero => intro u; simp [dg]
  | succ n ih =>
    intro u
    unfold dg
    split
    · simp
    · simp [ih]
theorem dec_size (u : Nat) (h : u < 100000000000000000000) : (⟨(Lib.decDigits u).toArray⟩ : ByteArray).size ≤ 20 := by
  rw [Lib.size_eq, dec_dg 20 u h (by omega)]
  exact dg_len 20 u
theorem ba_size (a b : ByteArray) : (a ++ b).size = a.size + b.size := ByteArray.size_append

set_option maxRecDepth 100000 in
set_option maxHeartbeats 1000000 in
theorem text_neg (t a : Nat) (w : World) (hP : Pow w) (h1 : 0 < a) (h2 : a ≤ 4398046511104) (hp : fineP t = -(a : Int)) :
    Calls Tryd.prog 23 #[.float .f64 t] w fun e w' => e = .returned (.string ⟨([45] ++ (Lib.decDigits (a / 512) ++ fracT (a % 512))).toArray⟩) ∧ Below w.heap.size w w' := by
  have hF := fine_any t w
  rw [hp] at hF
  have hm := r_mul (fl_mul (-(a : Int)) (by omega))
  have hc := r_int_fl (-(a : Int)) (by omega)
  have HPW := Lib.hid hP
  have HF := Lib.hid hF
  clear hP hF hp
  generalize fl (-(a : Int)) = f at *
  generalize fl (512 * -(a : Int)) = g at *
  obtain ⟨T, hT⟩ : ∃ r : ByteArray, r = ⟨([45] ++ (Lib.decDigits (a / 512) ++ fracT (a % 512))).toArray⟩ := ⟨_, rfl⟩
  rw [← hT]
  have HT := Lib.hid hT
  clear hT
  go_enter Tryd.func23, Tryd.ntmps23
  go_wp2_with fail
  refine HF.out.mono ?_
  rintro e w' ⟨rfl, rfl⟩
  have hlt : -(a : Int) < 0 := by omega
  go_wp2_with fail
  refine (itoa_at _ (a / 512) w (by omega) (by omega) HPW.out).mono ?_
  rintro e w1 ⟨rfl, b1⟩
  have HP1 := Lib.hid (HPW.out.below b1)
  have hsz1 := dec_size (a / 512) (by omega)
  obtain ⟨r1, hr1⟩ : ∃ r : ByteArray, r = ⟨(Lib.decDigits (a / 512)).toArray⟩ := ⟨_, rfl⟩
  rw [← hr1] at hsz1 ⊢
  have HR1 := Lib.hid hr1
  clear hr1
  by_cases h0 : a % 512 = 0
  · have h0' : (a : Int) % 512 = 0 := by omega
    go_wp2_with fail
    go_ret
    exact ⟨ret_str (by rw [HR1.out, HT.out]; unfold fracT; rw [if_pos h0]; first | exact (ba_append [45] _).trans (by simp) | (rw [List.append_nil]; rfl)), b1⟩
  · have h0' : ¬ (a : Int) % 512 = 0 := by omega
    have hlt : a % 512 < 512 := Nat.mod_lt _ (by omega)
    have hfl := frac_len ⟨a % 512, hlt⟩ h0
    have hft := frac_text ⟨a % 512, hlt⟩ h0
    simp only at hfl hft
    rw [← dec_dg 10 _ (by omega) (by omega)] at hfl hft
    have HFL := Lib.hid hfl
    have HFT := Lib.hid hft
    clear hfl hft
    go_wp2_with fail
    refine (itoa_at _ (a % 512 * 1953125) w1 (by omega) (by omega) HP1.out).mono ?_
    rintro e w2 ⟨rfl, b2⟩
    have hsz2 : (⟨(Lib.decDigits (a % 512 * 1953125)).toArray⟩ : ByteArray).size ≤ 9 := by rw [Lib.size_eq]; exact HFL.out
    obtain ⟨r2, hr2⟩ : ∃ r : ByteArray, r = ⟨(Lib.decDigits (a % 512 * 1953125)).toArray⟩ := ⟨_, rfl⟩
    have hl2 : (Lib.decDigits (a % 512 * 1953125)).length = r2.size := by rw [hr2, Lib.size_eq]
    rw [← hr2] at hsz2 ⊢
    rw [hl2] at HFT
    have HR2 := Lib.hid hr2
    clear hr2 hl2 HFL
    go_wp2_with fail
    refine (repeat0 _ (9 - r2.size) w2 (by omega) (by omega)).mono ?_
    rintro e w3 ⟨rfl, b3⟩
    have hsz3 : (⟨(List.replicate (9 - r2.size) (48 : UInt8)).toArray⟩ : ByteArray).size ≤ 9 := by rw [Lib.size_eq]; simp
    obtain ⟨r3, hr3⟩ : ∃ r : ByteArray, r = ⟨(List.replicate (9 - r2.size) (48 : UInt8)).toArray⟩ := ⟨_, rfl⟩
    rw [← hr3] at hsz3 ⊢
    have HR3 := Lib.hid hr3
    clear hr3
    go_wp2_with fail
    refine (trim0 _ w3 (by rw [ba_size]; omega)).mono ?_
    rintro e w4 ⟨rfl, rfl⟩
    have HR4 : Hid (Lib.trimRightB (r3 ++ r2).data.toList 48 = gen 9 (a % 512)) := Lib.hid (by rw [HR3.out, HR2.out, ba_append, ← HR2.out]; exact HFT.out)
    rw [HR4.out]
    have hsz4 : (⟨(gen 9 (a % 512)).toArray⟩ : ByteArray).size ≤ 9 := by rw [Lib.size_eq]; exact gen_len _ _
    obtain ⟨r4, hr4⟩ : ∃ r : ByteArray, r = ⟨(gen 9 (a % 512)).toArray⟩ := ⟨_, rfl⟩
    rw [← hr4] at hsz4 ⊢
    have HR5 := Lib.hid hr4
    clear hr4
    go_wp2_with fail
    go_ret
    exact ⟨ret_str (by rw [HR1.out, HR5.out, HT.out]; unfold fracT; rw [if_neg h0]; first | (rw [show (⟨#[45]⟩ : ByteArray) = ⟨[45].toArray⟩ from rfl, show (⟨#[46]⟩ : ByteArray) = ⟨[46].toArray⟩ from rfl, ba_append, ba_append, ba_append]; simp) | (rw [show (⟨#[46]⟩ : ByteArray) = ⟨[46].toArray⟩ from rfl, ba_append, ba_append]; simp)), (b1.trans (b2.mono b1.size)).trans (b3.mono (Nat.le_trans b1.size b2.size))⟩

set_option maxRecDepth 100000 in
set_option maxHeartbeats 1000000 in
theorem text_pos (t a : Nat) (w : World) (hP : Pow w) (h2 : a ≤ 4398046511104) (hp : fineP t = (a : Int)) :
    Calls Tryd.prog 23 #[.float .f64 t] w fun e w' => e = .returned (.string ⟨(Lib.decDigits (a / 512) ++ fracT (a % 512)).toArray⟩) ∧ Below w.heap.size w w' := by
  have hF := fine_any t w
  rw [hp] at hF
  have hm := r_mul (fl_mul (a : Int) (by omega))
  have hc := r_int_fl (a : Int) (by omega)
  have HPW := Lib.hid hP
  have HF := Lib.hid hF
  clear hP hF hp
  generalize fl (a : Int) = f at *
  generalize fl (512 * (a : Int)) = g at *
  obtain ⟨T, hT⟩ : ∃ r : ByteArray, r = ⟨(Lib.decDigits (a / 512) ++ fracT (a % 512)).toArray⟩ := ⟨_, rfl⟩
  rw [← hT]
  have HT := Lib.hid hT
  clear hT
  go_enter Tryd.func23, Tryd.ntmps23
  go_wp2_with fail
  refine HF.out.mono ?_
  rintro e w' ⟨rfl, rfl⟩
  go_wp2_with fail
  refine (itoa_at _ (a / 512) w (by omega) (by omega) HPW.out).mono ?_
  rintro e w1 ⟨rfl, b1⟩
  have HP1 := Lib.hid (HPW.out.below b1)
  have hsz1 := dec_size (a / 512) (by omega)
  obtain ⟨r1, hr1⟩ : ∃ r : ByteArray, r = ⟨(Lib.decDigits (a / 512)).toArray⟩ := ⟨_, rfl⟩
  rw [← hr1] at hsz1 ⊢
  have HR1 := Lib.hid hr1
  clear hr1
  by_cases h0 : a % 512 = 0
  · have h0' : (a : Int) % 512 = 0 := by omega
    go_wp2_with fail
    go_ret
    exact ⟨ret_str (by rw [HR1.out, HT.out]; unfold fracT; rw [if_pos h0]; first | exact (ba_append [] _).trans (by simp) | (rw [List.append_nil]; rfl)), b1⟩
  · have h0' : ¬ (a : Int) % 512 = 0 := by omega
    have hlt : a % 512 < 512 := Nat.mod_lt _ (by omega)
    have hfl := frac_len ⟨a % 512, hlt⟩ h0
    have hft := frac_text ⟨a % 512, hlt⟩ h0
    simp only at hfl hft
    rw [← dec_dg 10 _ (by omega) (by omega)] at hfl hft
    have HFL := Lib.hid hfl
    have HFT := Lib.hid hft
    clear hfl hft
    go_wp2_with fail
    refine (itoa_at _ (a % 512 * 1953125) w1 (by omega) (by omega) HP1.out).mono ?_
    rintro e w2 ⟨rfl, b2⟩
    have hsz2 : (⟨(Lib.decDigits (a % 512 * 1953125)).toArray⟩ : ByteArray).size ≤ 9 := by rw [Lib.size_eq]; exact HFL.out
    obtain ⟨r2, hr2⟩ : ∃ r : ByteArray, r = ⟨(Lib.decDigits (a % 512 * 1953125)).toArray⟩ := ⟨_, rfl⟩
    have hl2 : (Lib.decDigits (a % 512 * 1953125)).length = r2.size := by rw [hr2, Lib.size_eq]
    rw [← hr2] at hsz2 ⊢
    rw [hl2] at HFT
    have HR2 := Lib.hid hr2
    clear hr2 hl2 HFL
    go_wp2_with fail
    refine (repeat0 _ (9 - r2.size) w2 (by omega) (by omega)).mono ?_
    rintro e w3 ⟨rfl, b3⟩
    have hsz3 : (⟨(List.replicate (9 - r2.size) (48 : UInt8)).toArray⟩ : ByteArray).size ≤ 9 := by rw [Lib.size_eq]; simp
    obtain ⟨r3, hr3⟩ : ∃ r : ByteArray, r = ⟨(List.replicate (9 - r2.size) (48 : UInt8)).toArray⟩ := ⟨_, rfl⟩
    rw [← hr3] at hsz3 ⊢
    have HR3 := Lib.hid hr3
    clear hr3
    go_wp2_with fail
    refine (trim0 _ w3 (by rw [ba_size]; omega)).mono ?_
    rintro e w4 ⟨rfl, rfl⟩
    have HR4 : Hid (Lib.trimRightB (r3 ++ r2).data.toList 48 = gen 9 (a % 512)) := Lib.hid (by rw [HR3.out, HR2.out, ba_append, ← HR2.out]; exact HFT.out)
    rw [HR4.out]
    have hsz4 : (⟨(gen 9 (a % 512)).toArray⟩ : ByteArray).size ≤ 9 := by rw [Lib.size_eq]; exact gen_len _ _
    obtain ⟨r4, hr4⟩ : ∃ r : ByteArray, r = ⟨(gen 9 (a % 512)).toArray⟩ := ⟨_, rfl⟩
    rw [← hr4] at hsz4 ⊢
    have HR5 := Lib.hid hr4
    clear hr4
    go_wp2_with fail
    go_ret
    exact ⟨ret_str (by rw [HR1.out, HR5.out, HT.out]; unfold fracT; rw [if_neg h0]; first | (rw [show (⟨#[45]⟩ : ByteArray) = ⟨[45].toArray⟩ from rfl, show (⟨#[46]⟩ : ByteArray) = ⟨[46].toArray⟩ from rfl, ba_append, ba_append, ba_append]; simp) | (rw [show (⟨#[46]⟩ : ByteArray) = ⟨[46].toArray⟩ from rfl, ba_append, ba_append]; simp)), (b1.trans (b2.mono b1.size)).trans (b3.mono (Nat.le_trans b1.size b2.size))⟩

theorem text_any (t : Nat) (w : World) (hP : Pow w) :
    Calls Tryd.prog 23 #[.float .f64 t] w fun e w' => e = .returned (.string ⟨(textF (fineP t)).toArray⟩) ∧ Below w.heap.size w w' := by
  have hb := fineP_le t
  unfold textF
  by_cases hneg : fineP t < 0
  · rw [if_pos hneg]
    exact text_neg t (fineP t).natAbs w hP (by omega) (by omega) (by omega)
  · rw [if_neg hneg, List.nil_append]
    exact text_pos t (fineP t).natAbs w hP (by omega) (by omega)
end Go.Proofs.YtehlgnjbmdaakaaDoor.ClkC
