import Derived.Test.YtehlgnjbmdaakaaDoorClkZ
import Derived.Test.YtehlgnjbmdaakaaDoorClkTx4
import Derived.Test.YtehlgnjbmdaakaaDoorClkQ
import Derived.Test.YtehlgnjbmdaakaaDoorClkH
namespace Go.Proofs.YtehlgnjbmdaakaaDoor.ClkC
open Go.RowKit Go.My Flt NumMath Txt

/-! ### the facts -/
/-- What came in as a row of ints, place by place. -/
theorem row_ints {w : World} {a : Option Addr} {len cap : Nat} {zs : List Int}
    (h : (a = none ∧ len = 0 ∧ cap = 0 ∧ zs = []) ∨
      ∃ x, a = some x ∧ len ≤ cap ∧ cap ≤ maxLen ∧ zs.length = cap ∧ (∀ i, i < zs.length → w.cell? (x.add i) = some (.int .i64 (zs.getD i 0))) ∧ ∀ n ∈ zs, (Lit.int .i64 n).wf = true) :
    len ≤ cap ∧ cap ≤ 9223372036854775807 ∧ (len = 0 ∨ ∃ b off, a = some ⟨b, off, none⟩ ∧ b < w.heap.size ∧ ∀ i, i < len → ∃ z : Int, -9223372036854775808 ≤ z ∧ z ≤ 9223372036854775807 ∧ w.cell? ⟨b, off + i, none⟩ = some (.int .i64 z)) := by
  rcases h with ⟨rfl, rfl, rfl, rfl⟩ | ⟨x, rfl, h1, h2, h3, h4, h5⟩
  · exact ⟨Nat.le_refl _, by omega, .inl rfl⟩
  · unfold maxLen at h2
    refine ⟨h1, h2, ?_⟩
    by_cases h0 : len = 0
    · exact .inl h0
    · right
      obtain ⟨b, off, spot⟩ := x
      have hc := h4 0 (by omega)
      have hspot : spot = Option.none := by simpa [Addr.add] using World.cell?_spot hc
      subst hspot
      refine ⟨b, off, rfl, block_lt_of_cell hc, fun i hi => ?_⟩
      have hi' : i < zs.length := by omega
      have := h4 i hi'
      rw [addr_add] at this
      have hw := wf_int (h5 zs[i] (List.getElem_mem hi'))
      refine ⟨zs[i], hw.1, hw.2, ?_⟩
      rw [this, List.getD_eq_getElem?_getD, List.getElem?_eq_getElem hi']
      rfl
theorem dec_facts (k : Nat) (h : k < 10 ^ 18) : allIn decs (Lib.decDigits k) = true ∧ Lib.decDigits k ≠ [] ∧ V (dig 10) 10 (Lib.decDigits k) = k ∧ (Lib.decDigits k).length ≤ 20 := by
  rw [dec_dg 20 k (by omega) (by omega)]
  refine ⟨List.all_eq_true.2 fun c hc => ?_, dg_ne 20 k (by omega), dg_val 20 k (by omega) (by omega), dg_len 20 k⟩
  obtain ⟨d, hd, rfl⟩ := dg_all 20 k c hc
  exact (chr_digit d hd).1
theorem parse_whole (k : Nat) (h : k ≤ 1000000000) (w : World) :
    Calls Tryd.prog 18 #[.string ⟨(Lib.decDigits k).toArray⟩] w fun e w' => e = .returned (.tuple #[.float .f64 (fl (512 * (k : Int))), .int .i64 0]) ∧ Below w.heap.size w w' := by
  have ht : textF (512 * (k : Int)) = Lib.decDigits k := by
    unfold textF
    rw [if_neg (by omega), show (512 * (k : Int)).natAbs / 512 = k by omega, show (512 * (k : Int)).natAbs % 512 = 0 by omega]
    simp [fracT]
  obtain ⟨pe, pp⟩ := parse_text (512 * (k : Int)) (by omega) (by omega)
  rw [ht] at pe pp
  have hs : (⟨(Lib.decDigits k).toArray⟩ : ByteArray).size ≤ 1000000 := by
    rw [Lib.size_eq]
    have := (dec_facts k (by omega)).2.2.2
    show (Lib.decDigits k).length ≤ _
    omega
  have := parse_any ⟨(Lib.decDigits k).toArray⟩ w hs
  rw [show (⟨(Lib.decDigits k).toArray⟩ : ByteArray).data.toList = Lib.decDigits k from rfl, pe, pp] at this
  exact this
/-- What Parse tells of a text whose bytes are known. -/
theorem parse_as (s : ByteArray) (l : List UInt8) (p : Int) (w : World) (hs : s.size ≤ 1000000) (hl : s.data.toList = l) (hE : parseE l = 0) (hP : parseP l = p) :
    Calls Tryd.prog 18 #[.string s] w fun e w' => e = .returned (.tuple #[.float .f64 (fl p), .int .i64 0]) ∧ Below w.heap.size w w' := by
  have := parse_any s w hs
  rw [hl, hE, hP] at this
  exact this
/-- What the three Parses of a round tell, and how their answers lie. -/
theorem round_facts (k : Nat) (hk : k ≤ 1000000000) (F : List UInt8) (c : UInt8) (s : ByteArray) (hF : allIn decs F = true) (hc : decs.contains c = true) (hs : s.size ≤ 1000)
    (hl : s.data.toList = Lib.decDigits k ++ 46 :: (F ++ [c])) :
    ∃ (g : Nat) (q : Int), g = frac9 (F ++ [c]) / 1953125 ∧ frac9 F / 1953125 ≤ g ∧ g < 512 ∧ (q = -(512 * (k : Int) + (g : Int)) ∨ q = -(512 * (k : Int) + (g : Int)) - 1) ∧
      (∀ w, Calls Tryd.prog 18 #[.string s] w fun e w' => e = .returned (.tuple #[.float .f64 (fl (512 * (k : Int) + (g : Int))), .int .i64 0]) ∧ Below w.heap.size w w') ∧
      (∀ w, Calls Tryd.prog 18 #[.string (s ++ ⟨#[48, 48, 48]⟩)] w fun e w' => e = .returned (.tuple #[.float .f64 (fl (512 * (k : Int) + (g : Int))), .int .i64 0]) ∧ Below w.heap.size w w') ∧
      (∀ w, Calls Tryd.prog 18 #[.string (⟨#[45]⟩ ++ s)] w fun e w' => e = .returned (.tuple #[.float .f64 (fl q), .int .i64 0]) ∧ Below w.heap.size w w') := by
  obtain ⟨d1, d2, d3, d4⟩ := dec_facts k (by omega)
  have hF2 : allIn decs (F ++ [c]) = true := allIn_snoc _ _ _ hF hc
  have hne : F ++ [c] ≠ [] := by simp
  have hF3 : allIn decs (F ++ [c] ++ [48, 48, 48]) = true := allIn_append hF2 (by decide)
  have hne3 : F ++ [c] ++ [48, 48, 48] ≠ [] := by simp
  obtain ⟨p1, p2⟩ := parse_plain d1 d2 hF2 hne (by rw [d3]; exact hk)
  obtain ⟨z1, z2⟩ := parse_plain d1 d2 hF3 hne3 (by rw [d3]; exact hk)
  obtain ⟨m1, m2⟩ := parse_minus d1 d2 hF2 hne (by rw [d3]; exact hk)
  rw [frac9_noughts] at z2
  rw [d3] at p2 z2 m2
  have hlt := frac9_lt _ hF2
  have hmono := frac9_snoc F c
  refine ⟨frac9 (F ++ [c]) / 1953125, _, rfl, by omega, by omega, ?_, fun w => parse_as s _ _ w (by omega) hl p1 (by rw [p2]; omega), fun w => parse_as _ _ _ w ?_ ?_ z1 (by rw [z2]; omega), fun w => parse_as _ _ _ w ?_ ?_ m1 rfl⟩
  · rcases m2 with m2 | m2 <;> rw [m2] <;> omega
  · rw [ByteArray.size_append]
    have : (⟨#[48, 48, 48]⟩ : ByteArray).size = 3 := rfl
    omega
  · rw [ByteArray.data_append, Array.toList_append, hl]; simp
  · rw [ByteArray.size_append]
    have : (⟨#[45]⟩ : ByteArray).size = 1 := rfl
    omega
  · rw [ByteArray.data_append, Array.toList_append, hl]; rfl
theorem l_half : fl 1 = 4566650022153682944 := by decide +kernel
theorem l_one' : fl 512 = 4607182418800017408 := by decide +kernel
/-- How the floats of a round lie. -/
theorem round_floats (x g b : Int) (q : Int) (h0 : 0 ≤ x) (hx : x ≤ 600000000000) (hg : 0 ≤ g) (hgl : g < 512) (hb : 0 ≤ b) (hbg : b ≤ g) (hq : q = -(x + g) ∨ q = -(x + g) - 1) :
    ((FloatKind.f64.format.order (fl (x + g)) (fl (x + b)) == some .lt) = false) ∧
    (∀ w, (binOp .add 32 (.float .f64 (fl x)) (.float .f64 4607182418800017408)).run Tryd.prog w = .ok (.float .f64 (fl (x + 512))) w) ∧
    ((FloatKind.f64.format.order (fl (x + g)) (fl (x + 512)) == some .gt || FloatKind.f64.format.order (fl (x + g)) (fl (x + 512)) == some .eq) = false) ∧
    ((FloatKind.f64.format.order (fl (x + g)) (fl (x + g)) != some .eq) = false) ∧
    ((FloatKind.f64.format.order (fl q) (Op.negFloat .f64 (fl (x + g))) == some .gt) = false) ∧
    (∀ w, (binOp .sub 32 (.float .f64 (Op.negFloat .f64 (fl (x + g)))) (.float .f64 4566650022153682944)).run Tryd.prog w = .ok (.float .f64 (fl (-(x + g) - 1))) w) ∧
    ((FloatKind.f64.format.order (fl q) (fl (-(x + g) - 1)) == some .lt) = false) := by
  have hQ := Q_pos
  obtain ⟨n1, n2⟩ := neg_fl (x + g) (by omega)
  have hmul : ∀ {a b : Int}, a ≤ b → a * (Q : Int) ≤ b * (Q : Int) := fun h => Int.mul_le_mul_of_nonneg_right h (Int.le_of_lt hQ)
  refine ⟨?_, ?_, ?_, self_num (isNaN_fl _ (by omega)), ?_, ?_, ?_⟩
  · rw [f_lt, K_fl _ (by omega), K_fl _ (by omega), decide_eq_false (by have := hmul (show x + b ≤ x + g by omega); omega)]; simp
  · have ha := add_fl (fl x) (fl 512) x 512 (fin_fl _ (by omega)) (fin_fl _ (by omega)) (K_fl _ (by omega)) (K_fl _ (by omega)) (by omega) (by omega)
    rw [l_one'] at ha
    exact r_add ha
  · rw [f_ge, K_fl _ (by omega), K_fl _ (by omega), decide_eq_false (by have := Int.mul_lt_mul_of_pos_right (show x + g < x + 512 by omega) hQ; omega)]; simp
  · rw [f_gt, n2, K_fl _ (by omega), decide_eq_false (by have := hmul (show q ≤ -(x + g) by omega); omega)]; simp
  · have ha := sub_fl (Op.negFloat .f64 (fl (x + g))) (fl 1) (-(x + g)) 1 n1 (fin_fl _ (by omega)) n2 (K_fl _ (by omega)) (by omega) (by omega)
    rw [l_half] at ha
    exact r_sub ha
  · rw [f_lt, K_fl _ (by omega), K_fl _ (by omega), decide_eq_false (by have := hmul (show -(x + g) - 1 ≤ q by omega); omega)]; simp
end Go.Proofs.YtehlgnjbmdaakaaDoor.ClkC
