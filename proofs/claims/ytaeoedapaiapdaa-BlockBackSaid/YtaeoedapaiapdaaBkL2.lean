/-
  BlockBack's law.
-/
import Derived.Test.YtaeoedapaiapdaaBkT
import Derived.Test.YtaeoedapaiapdaaInfRf
namespace Go.Proofs.Ytaeoedapaiapdaa.BlkC
open Go.RowKit Go.My BitMath
open LzMath (Tok ml md)
open InfMath (Pc lp dp)

theorem un_rem (z : Int) (m : Nat) (h : 0 < m) (h2 : m ≤ 1000000) : ∃ q : Nat, q < m ∧ (IntKind.u64.wrap z).tmod (m : Int) = (q : Int) := by
  have h0 : 0 ≤ IntKind.u64.wrap z := by rw [IntKind.wrap_u64]; omega
  rw [Int.tmod_eq_emod_of_nonneg h0]
  have h1 := Int.emod_nonneg (IntKind.u64.wrap z) (show (m : Int) ≠ 0 by omega)
  have h3 := Int.emod_lt_of_pos (IntKind.u64.wrap z) (show (0 : Int) < m by omega)
  generalize IntKind.u64.wrap z % (m : Int) = r at *
  exact ⟨r.toNat, by omega, by omega⟩
theorem lay_num (z : Int) (m k : Nat) (h : 0 < m) (h2 : m ≤ 65536) (hk : k ≤ 3) : ∃ L : Nat, k ≤ L ∧ L < k + m ∧ ∃ q : Nat, (IntKind.u64.wrap z).tmod (m : Int) = (q : Int) ∧ wrap64 (q : Int) = (q : Int) ∧ wrap64 ((k : Int) + (q : Int)) = (L : Int) ∧ (k : Int) + (q : Int) = (L : Int) := by
  obtain ⟨q, h1, h3⟩ := un_rem z m h (by omega)
  exact ⟨k + q, by omega, by omega, q, h3, IntWalk.wrap64_in _ (by omega), by rw [IntWalk.wrap64_in _ (by omega)]; omega, by omega⟩
theorem pow_wrap (x : Nat) (h : x ≤ 16) : wrap64 ((2 : Int) ^ x) = (2 : Int) ^ x ∧ IntKind.u64.wrap (x : Int) = (x : Int) := by
  have hp : 2 ^ x ≤ 65536 := Nat.le_trans (Nat.pow_le_pow_right (n := 2) (by omega) h) (by decide)
  refine ⟨?_, IntWalk.u64_in _ (by omega)⟩
  rw [pow_cast]
  generalize 2 ^ x = p at *
  exact IntWalk.wrap64_in _ (by omega)
/-- What the law compares, for a length. -/
theorem back_len (L : Nat) (wide : Bool) (h1 : 3 ≤ L) (h2 : L ≤ if wide then 65538 else 258) : ∃ s x v l : Nat, symV (L : Int) wide = .tuple #[.int .i64 (s : Int), .int .i64 (x : Int), .int .i64 (v : Int)] ∧ InfC.ansB (InfC.baseZ (s : Int) wide) = .tuple #[.int .i64 (l : Int), .int .i64 (x : Int), .bool true] ∧ l + v = L ∧ v < 2 ^ x ∧ x ≤ 16 := by
  obtain ⟨l, a1, a2, a3, a4, a5, a6⟩ := InfMath.lp_base L wide h1 h2
  refine ⟨(lp L wide).s, (lp L wide).x, (lp L wide).v, l, ?_, ?_, a2, a3, a6⟩
  · unfold symV
    rw [if_pos ⟨by omega, by unfold ml; cases wide <;> simp at * <;> omega⟩, Int.toNat_natCast]; rfl
  · rw [InfC.baseZ_nat, a1]; rfl
theorem back_dist (D : Nat) (wide : Bool) (h1 : 1 ≤ D) (h2 : D ≤ if wide then 65536 else 32768) : ∃ s x v l : Nat, reachV (D : Int) wide = .tuple #[.int .i64 (s : Int), .int .i64 (x : Int), .int .i64 (v : Int)] ∧ InfC.ansB (InfC.farZ (s : Int) wide) = .tuple #[.int .i64 (l : Int), .int .i64 (x : Int), .bool true] ∧ l + v = D ∧ v < 2 ^ x ∧ x ≤ 16 := by
  obtain ⟨l, a1, a2, a3, a4, a6⟩ := InfMath.dp_far D wide h1 h2
  refine ⟨(dp D).s, (dp D).x, (dp D).v, l, ?_, ?_, a2, a3, by omega⟩
  · unfold reachV
    rw [if_pos ⟨by omega, by unfold md; cases wide <;> simp at * <;> omega⟩, Int.toNat_natCast]; rfl
  · rw [InfC.farZ_nat, a1]; rfl
set_option maxRecDepth 100000 in
set_option maxHeartbeats 8000000 in
theorem back_law (n d : Int) (wide : Bool) (w : World) :
    Calls Try.prog 4 #[.int .i64 n, .int .i64 d, .bool wide] w fun e w' => e = .returned (.bool true) ∧ Below w.heap.size w w' := by
  obtain ⟨L0, l1, l2, p0, l3, l4, l5, l6⟩ := lay_num n 256 3 (by omega) (by omega) (by omega)
  obtain ⟨D0, d1, d2, q0, d3, d4, d5, d6⟩ := lay_num d 32768 1 (by omega) (by omega) (by omega)
  obtain ⟨L9, l1', l2', p9, l3', l4', l5', l6'⟩ := lay_num n 65536 3 (by omega) (by omega) (by omega)
  obtain ⟨D9, d1', d2', q9, d3', d4', d5', d6'⟩ := lay_num d 65536 1 (by omega) (by omega) (by omega)
  have HN := Lib.hid (And.intro l1 (And.intro l2 (And.intro d1 d2)))
  have HN9 := Lib.hid (And.intro l1' (And.intro l2' (And.intro d1' d2')))
  clear l1 l2 d1 d2 l1' l2' d1' d2'
  have l3 : (IntKind.u64.wrap n).tmod 256 = (p0 : Int) := l3
  have d3 : (IntKind.u64.wrap d).tmod 32768 = (q0 : Int) := d3
  have l3' : (IntKind.u64.wrap n).tmod 65536 = (p9 : Int) := l3'
  have d3' : (IntKind.u64.wrap d).tmod 65536 = (q9 : Int) := d3'
  have l5 : wrap64 (3 + (p0 : Int)) = (L0 : Int) := l5
  have d5 : wrap64 (1 + (q0 : Int)) = (D0 : Int) := d5
  have l5' : wrap64 (3 + (p9 : Int)) = (L9 : Int) := l5'
  have d5' : wrap64 (1 + (q9 : Int)) = (D9 : Int) := d5'
  go_enter Try.func4, Try.ntmps4
  go_upto_region 1 with (fail)
  go_upto_region 2 with (fail)
  simp only [l5, d5]
  clear l3 l4 l5 l6 d3 d4 d5 d6
  cases wide
  · obtain ⟨L, rfl⟩ : ∃ L, L = L0 := ⟨_, rfl⟩
    obtain ⟨D, rfl⟩ : ∃ D, D = D0 := ⟨_, rfl⟩
    clear l3' l4' l5' l6' d3' d4' d5' d6' HN9
    have HT := Lib.hid (told_any w)
    obtain ⟨s, x, v, l, b1, b2, b3, b4, b5⟩ := back_len L false (by have := HN.out; omega) (by have := HN.out; simp; omega)
    obtain ⟨t, y, u, m, e1, e2, e3, e4, e5⟩ := back_dist D false (by have := HN.out; omega) (by have := HN.out; simp; omega)
    have HSY := Lib.hid (symbol_any (L : Int) false w)
    rw [b1] at HSY
    have HRE := fun w' => Lib.hid (reach_any (D : Int) false w')
    simp only [e1] at HRE
    have HBA := fun w' => Lib.hid (InfC.rbase_any (s : Int) false w')
    simp only [b2] at HBA
    have HFA := fun w' => Lib.hid (InfC.rfar_any (t : Int) false w')
    simp only [e2] at HFA
    have HNU := Lib.hid (And.intro b3 (And.intro b4 (And.intro b5 (And.intro e3 (And.intro e4 e5)))))
    clear b1 b2 b3 b4 b5 e1 e2 e3 e4 e5
    go_wp2_with fail
    refine HSY.out.mono ?_
    rintro e w1 ⟨rfl, hb1⟩
    have HB1 := Lib.hid hb1
    clear hb1
    go_wp2_with fail
    refine (HRE w1).out.mono ?_
    rintro e w2 ⟨rfl, hb2⟩
    have HB2 := Lib.hid (HB1.out.trans (hb2.mono HB1.out.size))
    clear hb2
    go_wp2_with fail
    refine (HBA w2).out.mono ?_
    rintro e w3 ⟨rfl, rfl⟩
    go_wp2_with fail
    refine (HFA w2).out.mono ?_
    rintro e w3 ⟨rfl, rfl⟩
    have HT2 := Lib.hid (told_any w2)
    obtain ⟨g1, g2, g3, g4, g5, g6⟩ := HNU.out
    have q1 : wrap64 ((l : Int) + (v : Int)) = (L : Int) := by rw [IntWalk.wrap64_in _ (by have := HN.out; omega)]; omega
    have q2 : wrap64 ((m : Int) + (u : Int)) = (D : Int) := by rw [IntWalk.wrap64_in _ (by have := HN.out; omega)]; omega
    obtain ⟨p1, p2⟩ := pow_wrap x g3
    obtain ⟨p3, p4⟩ := pow_wrap y g6
    have m1 : min x 64 = x := by omega
    have m2 : min y 64 = y := by omega
    have z1 : (v : Int) < (2 : Int) ^ x := by rw [pow_cast]; omega
    have z2 : (u : Int) < (2 : Int) ^ y := by rw [pow_cast]; omega
    clear g1 g2 g3 g4 g5 g6 HRE HBA HFA HSY HT
    go_wp2_with fail
    refine HT2.out.mono ?_
    rintro e w3 ⟨rfl, hb3⟩
    have HB3 := Lib.hid (HB2.out.trans (hb3.mono HB2.out.size))
    clear hb3
    go_wp2_with fail
    go_ret
    exact ⟨rfl, HB3.out⟩
  · go_upto_region 4 with (fail)
    simp only [l5', d5']
    clear l3' l4' l5' l6' d3' d4' d5' d6' HN
    obtain ⟨L, rfl⟩ : ∃ L, L = L9 := ⟨_, rfl⟩
    obtain ⟨D, rfl⟩ : ∃ D, D = D9 := ⟨_, rfl⟩
    have HT := Lib.hid (told_any w)
    obtain ⟨s, x, v, l, b1, b2, b3, b4, b5⟩ := back_len L true (by have := HN9.out; omega) (by have := HN9.out; simp; omega)
    obtain ⟨t, y, u, m, e1, e2, e3, e4, e5⟩ := back_dist D true (by have := HN9.out; omega) (by have := HN9.out; simp; omega)
    have HSY := Lib.hid (symbol_any (L : Int) true w)
    rw [b1] at HSY
    have HRE := fun w' => Lib.hid (reach_any (D : Int) true w')
    simp only [e1] at HRE
    have HBA := fun w' => Lib.hid (InfC.rbase_any (s : Int) true w')
    simp only [b2] at HBA
    have HFA := fun w' => Lib.hid (InfC.rfar_any (t : Int) true w')
    simp only [e2] at HFA
    have HNU := Lib.hid (And.intro b3 (And.intro b4 (And.intro b5 (And.intro e3 (And.intro e4 e5)))))
    clear b1 b2 b3 b4 b5 e1 e2 e3 e4 e5
    go_wp2_with fail
    refine HSY.out.mono ?_
    rintro e w1 ⟨rfl, hb1⟩
    have HB1 := Lib.hid hb1
    clear hb1
    go_wp2_with fail
    refine (HRE w1).out.mono ?_
    rintro e w2 ⟨rfl, hb2⟩
    have HB2 := Lib.hid (HB1.out.trans (hb2.mono HB1.out.size))
    clear hb2
    go_wp2_with fail
    refine (HBA w2).out.mono ?_
    rintro e w3 ⟨rfl, rfl⟩
    go_wp2_with fail
    refine (HFA w2).out.mono ?_
    rintro e w3 ⟨rfl, rfl⟩
    have HT2 := Lib.hid (told_any w2)
    obtain ⟨g1, g2, g3, g4, g5, g6⟩ := HNU.out
    have q1 : wrap64 ((l : Int) + (v : Int)) = (L : Int) := by rw [IntWalk.wrap64_in _ (by have := HN9.out; omega)]; omega
    have q2 : wrap64 ((m : Int) + (u : Int)) = (D : Int) := by rw [IntWalk.wrap64_in _ (by have := HN9.out; omega)]; omega
    obtain ⟨p1, p2⟩ := pow_wrap x g3
    obtain ⟨p3, p4⟩ := pow_wrap y g6
    have m1 : min x 64 = x := by omega
    have m2 : min y 64 = y := by omega
    have z1 : (v : Int) < (2 : Int) ^ x := by rw [pow_cast]; omega
    have z2 : (u : Int) < (2 : Int) ^ y := by rw [pow_cast]; omega
    clear g1 g2 g3 g4 g5 g6 HRE HBA HFA HSY HT
    go_wp2_with fail
    refine HT2.out.mono ?_
    rintro e w3 ⟨rfl, hb3⟩
    have HB3 := Lib.hid (HB2.out.trans (hb3.mono HB2.out.size))
    clear hb3
    go_wp2_with fail
    go_ret
    exact ⟨rfl, HB3.out⟩
end Go.Proofs.Ytaeoedapaiapdaa.BlkC
