import Derived.Test.YtnkfnbkjmobbnaaGreatDoorMgE
import Derived.Test.YtnkfnbkjmobbnaaGreatDoorMgA
import Derived.Test.YtnkfnbkjmobbnaaGreatDoorMgBa
import Derived.Test.YtnkfnbkjmobbnaaGreatDoorMgBc
import Derived.Test.YtnkfnbkjmobbnaaGreatDoorMgX

section
/-
  The document's symbols of short lengths and of distances (stevedoreref13.Symbol, Reach).
-/
namespace Go.Proofs.YtnkfnbkjmobbnaaGreatDoor.InfC
open Go.RowKit Go.My BitMath CanMath TabMath WinMath

def lenL (s : Nat) : Nat := if s < 265 then s - 254 else 3 + (4 + (s - 265) % 4) * 2 ^ ((s - 265) / 4 + 1)
def lenX (s : Nat) : Nat := if s < 265 then 0 else (s - 265) / 4 + 1
theorem len_base (s : Nat) (h1 : 257 ≤ s) (h2 : s ≤ 284) (wide : Bool) : InfMath.base s wide = some (lenL s, lenX s) := by
  unfold InfMath.base lenL lenX
  rw [if_neg (by omega)]
  by_cases h : s < 265
  · rw [if_pos h, if_pos h, if_pos h]
  · rw [if_neg h, if_neg h, if_neg h, if_pos (by omega)]
theorem len_next : ∀ s : Fin 284, 257 ≤ s.val → lenL (s.val + 1) = lenL s.val + 2 ^ lenX s.val := by decide +kernel
theorem len_small : ∀ s : Fin 285, lenX s.val ≤ 5 := by decide +kernel
theorem len_last : lenL 284 + 2 ^ lenX 284 = 259 := by decide
def farL (s : Nat) : Nat := if s < 4 then 1 + s else 1 + (2 + s % 2) * 2 ^ (s / 2 - 1)
def farX (s : Nat) : Nat := if s < 4 then 0 else s / 2 - 1
theorem two_pow64 {X : Nat} (h : 2 ^ X ≤ 65536) : wrap64 ((2 : Int) ^ X) = ((2 ^ X : Nat) : Int) := by
  have e : ((2 : Int) ^ X) = ((2 ^ X : Nat) : Int) := by push_cast; rfl
  rw [e]
  generalize 2 ^ X = P at *
  exact IntWalk.wrap64_in _ (by omega)

end Go.Proofs.YtnkfnbkjmobbnaaGreatDoor.InfC
end

section
/-
  The document's symbols of any number (stevedoreref13.Symbol, Reach).
-/
namespace Go.Proofs.YtnkfnbkjmobbnaaGreatDoor.BlkC
open Go.RowKit Go.My BitMath CanMath TabMath WinMath
open LzMath (Tok May ml md)
open InfC (lenL lenX len_base len_next len_small len_last farL farX two_pow64 rbase_any rfar_any baseZ_nat farZ_nat ansB)
open InfMath (Pc lp dp gx grp lastD)

theorem lp_at : ∀ n : Fin 259, ∀ k : Fin 285, 257 ≤ k.val → lenL k.val ≤ n.val → n.val < lenL k.val + 2 ^ lenX k.val → ∀ wide : Bool, (n.val < 258 ∨ wide = true) → (lp n.val wide).s = k.val ∧ (lp n.val wide).x = lenX k.val ∧ (lp n.val wide).v = n.val - lenL k.val := by decide +kernel
theorem len_end : ∀ k : Fin 285, 257 ≤ k.val → lenL k.val + 2 ^ lenX k.val ≤ 259 := by decide +kernel
theorem sym_round {k n : Nat} {wide : Bool} (hk1 : 257 ≤ k) (hk2 : k ≤ 285) (h2 : n ≤ if wide then 65538 else 258) (hs : ¬ (n = 258 ∧ wide = false)) (ha : k ≤ 284 → lenL k ≤ n) (hb : k = 285 → 259 ≤ n) :
    ∃ L X V P : Nat, InfMath.base k wide = some (L, X) ∧ L + V = n ∧ X ≤ 16 ∧ P = 2 ^ X ∧ (V < P → lp n wide = ⟨k, X, V⟩) ∧ (¬ V < P → k + 1 ≤ 285 ∧ (k + 1 ≤ 284 → lenL (k + 1) ≤ n) ∧ (k + 1 = 285 → 259 ≤ n)) := by
  by_cases hk : k = 285
  · subst hk
    have hn := hb rfl
    have hw : wide = true := by cases wide; (simp at h2; omega); rfl
    subst hw
    simp only [if_true] at h2
    refine ⟨3, 16, n - 3, 65536, rfl, by omega, Nat.le_refl _, rfl, fun _ => ?_, fun h => absurd (show n - 3 < 65536 by omega) h⟩
    unfold lp
    rw [if_pos (.inl (by omega))]
    rfl
  · have hL := ha (by omega)
    have hx := len_small ⟨k, by omega⟩
    have he := len_end ⟨k, by omega⟩ hk1
    simp only at hx he
    refine ⟨lenL k, lenX k, n - lenL k, 2 ^ lenX k, len_base k hk1 (by omega) wide, by omega, by omega, rfl, fun hv => ?_, fun hv => ?_⟩
    · obtain ⟨h3, h4, h5⟩ := lp_at ⟨n, by omega⟩ ⟨k, by omega⟩ hk1 hL (show n < lenL k + 2 ^ lenX k by omega) wide (by
        cases wide
        · simp at hs; simp at h2; left; show n < 258; omega
        · right; rfl)
      simp only at h3 h4 h5
      obtain ⟨p, hp⟩ : ∃ p, p = lp n wide := ⟨_, rfl⟩
      rw [← hp] at h3 h4 h5 ⊢
      cases p
      simp only at h3 h4 h5
      subst h3 h4 h5
      rfl
    · by_cases h4 : k = 284
      · subst h4
        have := len_last
        exact ⟨by omega, fun h => by omega, fun _ => by omega⟩
      · have hn := len_next ⟨k, by omega⟩ hk1
        simp only at hn
        exact ⟨by omega, fun _ => by omega, fun h => by omega⟩
theorem farL_four (k : Nat) (h : 4 ≤ k) : farL k = 1 + (2 + k % 2) * 2 ^ (k / 2 - 1) ∧ farX k = k / 2 - 1 := by
  unfold farL farX
  rw [if_neg (by omega), if_neg (by omega)]
  exact ⟨rfl, rfl⟩
theorem dp_at {k n : Nat} (hk : k ≤ 31) (h1 : farL k ≤ n) (h2 : n < farL k + 2 ^ farX k) : dp n = ⟨k, farX k, n - farL k⟩ := by
  by_cases h4 : 4 ≤ k
  · obtain ⟨e1, e2⟩ := farL_four k h4
    rw [e1, e2] at h2
    rw [e1] at h1
    rw [e1, e2]
    obtain ⟨e, he⟩ : ∃ e, e = k / 2 - 1 := ⟨_, rfl⟩
    obtain ⟨q, hq⟩ : ∃ q, q = 2 + k % 2 := ⟨_, rfl⟩
    rw [← he, ← hq] at h1 h2 ⊢
    have hp := Nat.two_pow_pos e
    have he15 : e ≤ 14 := by omega
    have hq3 : q ≤ 3 := by omega
    have hq2 : 2 ≤ q := by omega
    have hm : n - 1 = q * 2 ^ e + (n - (1 + q * 2 ^ e)) := by omega
    have hv : n - (1 + q * 2 ^ e) < 2 ^ e := by omega
    obtain ⟨v, hv0⟩ : ∃ v, v = n - (1 + q * 2 ^ e) := ⟨_, rfl⟩
    rw [← hv0] at hm hv ⊢
    have hd : (n - 1) / 2 ^ e = q := by rw [hm, Nat.mul_comm, Nat.mul_add_div hp, Nat.div_eq_of_lt hv, Nat.add_zero]
    have hr : (n - 1) % 2 ^ e = v := by rw [hm, Nat.mul_comm, Nat.mul_add_mod, Nat.mod_eq_of_lt hv]
    have hpe : 2 ^ e ≤ 16384 := Nat.le_trans (Nat.pow_le_pow_right (n := 2) (by omega) he15) (by decide)
    have hqe : q * 2 ^ e ≤ 3 * 16384 := Nat.mul_le_mul hq3 hpe
    have hg : gx 2 (n - 1) 40 = e := by
      refine InfMath.gx_at 2 (n - 1) e 40 (by rw [hd]; omega) (Nat.lt_of_lt_of_le (show n - 1 < 100000 by omega) (by decide)) fun j hj => ?_
      rw [Nat.le_div_iff_mul_le (Nat.two_pow_pos j)]
      have h5 : 2 * 2 ^ j ≤ 2 ^ e := by
        have := Nat.pow_le_pow_right (n := 2) (by omega) (show j + 1 ≤ e by omega)
        rw [Nat.pow_succ] at this; omega
      have h6 : 2 * 2 ^ e ≤ q * 2 ^ e := Nat.mul_le_mul_right _ hq2
      omega
    unfold dp grp
    rw [hg, hd, hr]
    congr 1
    omega
  · rcases (by omega : k = 0 ∨ k = 1 ∨ k = 2 ∨ k = 3) with rfl | rfl | rfl | rfl
    · obtain rfl : n = 1 := by simp [farL, farX] at h1 h2; omega
      rfl
    · obtain rfl : n = 2 := by simp [farL, farX] at h1 h2; omega
      rfl
    · obtain rfl : n = 3 := by simp [farL, farX] at h1 h2; omega
      rfl
    · obtain rfl : n = 4 := by simp [farL, farX] at h1 h2; omega
      rfl
theorem far_next2 : ∀ s : Fin 32, farL (s.val + 1) = farL s.val + 2 ^ farX s.val := by decide +kernel
theorem far_small2 : ∀ s : Fin 32, farX s.val ≤ 14 := by decide +kernel
theorem far_pos : ∀ s : Fin 32, 1 ≤ farL s.val := by decide +kernel
theorem far_base2 (s : Nat) (wide : Bool) (h2 : s ≤ lastD wide) : InfMath.far s wide = some (farL s, farX s) := by
  unfold InfMath.far farL farX
  rw [if_neg (by omega)]
  by_cases h : s < 4
  · rw [if_pos h, if_pos h, if_pos h]
  · rw [if_neg h, if_neg h, if_neg h]
theorem far_out (s : Nat) (wide : Bool) (h2 : lastD wide < s) : InfMath.far s wide = none := by
  unfold InfMath.far
  rw [if_pos h2]
theorem far_end (wide : Bool) : farL (lastD wide + 1) = (if wide then 65537 else 32769) := by cases wide <;> decide
theorem md_nat (wide : Bool) : md wide = ((if wide then 65536 else 32768 : Nat) : Int) := by cases wide <;> rfl
set_option maxRecDepth 100000 in
set_option maxHeartbeats 2000000 in
theorem rsym_yes (n : Nat) (wide : Bool) (w : World) (h1 : 3 ≤ n) (h2 : n ≤ if wide then 65538 else 258) :
    Calls Tryz.prog 41 #[.int .i64 (n : Int), .bool wide] w fun e w' => e = .returned (ans3 (lp n wide)) ∧ w = w' := by
  by_cases hs : n = 258 ∧ wide = false
  · obtain ⟨rfl, rfl⟩ := hs
    go_enter Tryz.func41, Tryz.ntmps41
    go_wp2_with fail
    go_ret3
    exact ⟨rfl, rfl⟩
  · obtain ⟨N, hN⟩ : ∃ N : Int, N = (n : Int) := ⟨_, rfl⟩
    have hn6 : n ≤ 65538 := by cases wide <;> simp at h2 <;> omega
    have hb : (¬ 258 < N ∧ (N == 258) = true ∧ (!wide) = false) ∨ (¬ 258 < N ∧ (N == 258) = false) ∨ (258 < N ∧ (!wide) = false ∧ (N == 258) = false) := by
      by_cases h : n = 258
      · left
        refine ⟨by omega, by simp; omega, ?_⟩
        cases wide
        · exact absurd ⟨h, rfl⟩ hs
        · rfl
      · right
        by_cases h3 : n < 258
        · left; exact ⟨by omega, by simp; omega⟩
        · right
          refine ⟨by omega, ?_, by simp; omega⟩
          cases wide
          · simp at h2; omega
          · rfl
    rw [← hN]
    have d1 : ¬ N < 3 := by omega
    have d2 : ¬ 65538 < N := by omega
    have HN := Lib.hid (And.intro hN (And.intro hn6 (And.intro h2 hs)))
    clear hN hs h2 hn6
    rcases hb with ⟨d3, d4, d5⟩ | ⟨d3, d4⟩ | ⟨d3, d5, d4⟩
    all_goals
      go_enter Tryz.func41, Tryz.ntmps41
      go_wp2_with fail
      clear d1 d2 d3 d4
      go_loop [7] (fun kv => ∃ k : Nat, 257 ≤ k ∧ k ≤ 285 ∧ kv = .int .i64 (k : Int) ∧ Hid ((k ≤ 284 → lenL k ≤ n) ∧ (k = 285 → 259 ≤ n))) (fun kv => 286 - (intOf kv).toNat)
      case atStart => exact ⟨257, by omega, by omega, rfl, Lib.hid ⟨fun _ => Nat.le_trans (show lenL 257 ≤ 3 by decide) h1, fun h => by omega⟩⟩
      case round =>
        obtain ⟨k, hk1, hk2, rfl, HL⟩ := hrel
        obtain ⟨L, X, V, P, hbs, hV, hx5, hP, hyes, hno⟩ := sym_round (wide := wide) hk1 hk2 HN.out.2.2.1 HN.out.2.2.2 HL.out.1 HL.out.2
        have HBS := Lib.hid hbs
        have HY := Lib.hid hyes
        have HNO := Lib.hid hno
        clear hbs hyes hno HL
        go_wp2_with fail
        refine (rbase_any (k : Int) wide w).mono ?_
        rw [baseZ_nat, HBS.out]
        rintro e w' ⟨rfl, rfl⟩
        unfold ansB
        dsimp only
        have hnl : (L : Int) ≤ N := by have := HN.out.1; omega
        have h64 : IntKind.u64.wrap (X : Int) = (X : Int) := IntWalk.u64_in _ (by omega)
        have e1 : wrap64 (N - (L : Int)) = (V : Int) := by rw [IntWalk.wrap64_in _ (by have := HN.out.1; have := HN.out.2.1; omega)]; have := HN.out.1; omega
        have hp32 : 2 ^ X ≤ 65536 := Nat.le_trans (Nat.pow_le_pow_right (n := 2) (by omega) hx5) (by decide)
        have e2 : wrap64 ((2 : Int) ^ X) = (P : Int) := by rw [hP]; exact two_pow64 (by omega)
        have hnI : N - (L : Int) = (V : Int) := by have := HN.out.1; omega
        have hVb : V ≤ 65538 := by have := HN.out.2.1; omega
        clear hP hp32 hV
        by_cases hf : V < P
        · have HR := Lib.hid (HY.out hf)
          go_wp2_with fail
          go_ret3
          exact ⟨by rw [HR.out]; rfl, rfl⟩
        · have HR := Lib.hid (HNO.out hf)
          go_wp2_with fail
          refine ⟨⟨k + 1, by omega, HR.out.1, by go_num, Lib.hid HR.out.2⟩, ?_⟩
          have := HR.out.1
          simp [intOf]; omega
set_option maxRecDepth 100000 in
set_option maxHeartbeats 2000000 in
theorem rrea_low (z : Int) (wide : Bool) (w : World) (h : z < 1) (hz : -9223372036854775808 ≤ z) :
    Calls Tryz.prog 42 #[.int .i64 z, .bool wide] w fun e w' => e = .returned no3 ∧ w = w' := by
  go_enter Tryz.func42, Tryz.ntmps42
  go_wp2_with fail
  go_loop [7] (fun kv => ∃ k : Nat, k ≤ 32 ∧ kv = .int .i64 (k : Int)) (fun kv => 32 - (intOf kv).toNat)
  case atStart => exact ⟨0, by omega, rfl⟩
  case round =>
    obtain ⟨k, hk2, rfl⟩ := hrel
    by_cases hlt : k < 32
    · by_cases hl : k ≤ lastD wide
      · have HB := Lib.hid (far_base2 k wide hl)
        have hp := far_pos ⟨k, hlt⟩
        simp only at hp
        obtain ⟨L, hL⟩ : ∃ L, L = farL k := ⟨_, rfl⟩
        rw [← hL] at hp HB
        clear hL hl
        go_wp2_with fail
        refine (rfar_any (k : Int) wide w).mono ?_
        rw [farZ_nat, HB.out]
        rintro e w' ⟨rfl, rfl⟩
        unfold ansB
        dsimp only
        have h3 : ¬ (L : Int) ≤ z := by omega
        go_wp2_with fail
        refine ⟨⟨k + 1, by omega, by go_num⟩, ?_⟩
        simp [intOf]; omega
      · have HB := Lib.hid (far_out k wide (by omega))
        clear hl
        go_wp2_with fail
        refine (rfar_any (k : Int) wide w).mono ?_
        rw [farZ_nat, HB.out]
        rintro e w' ⟨rfl, rfl⟩
        unfold ansB
        dsimp only
        go_wp2_with fail
        refine ⟨⟨k + 1, by omega, by go_num⟩, ?_⟩
        simp [intOf]; omega
    · obtain rfl : k = 32 := by omega
      go_wp2_with fail
      go_ret3
      exact ⟨rfl, rfl⟩
set_option maxRecDepth 100000 in
set_option maxHeartbeats 2000000 in
theorem rrea_up (n : Nat) (wide : Bool) (w : World) (h1 : 1 ≤ n) (hz : (n : Int) ≤ 9223372036854775807) :
    Calls Tryz.prog 42 #[.int .i64 (n : Int), .bool wide] w fun e w' => e = .returned (reachV (n : Int) wide) ∧ w = w' := by
  obtain ⟨N, hN⟩ : ∃ N : Int, N = (n : Int) := ⟨_, rfl⟩
  rw [← hN]
  have HN := Lib.hid (And.intro hN hz)
  clear hN hz
  have hlast : lastD wide ≤ 31 := by cases wide <;> decide
  go_enter Tryz.func42, Tryz.ntmps42
  go_wp2_with fail
  go_loop [7] (fun kv => ∃ k : Nat, k ≤ 32 ∧ kv = .int .i64 (k : Int) ∧ Hid (farL (min k (lastD wide + 1)) ≤ n)) (fun kv => 32 - (intOf kv).toNat)
  case atStart => exact ⟨0, by omega, rfl, Lib.hid (by rw [Nat.zero_min]; exact h1)⟩
  case round =>
    obtain ⟨k, hk2, rfl, HL⟩ := hrel
    by_cases hlt : k < 32
    · by_cases hl : k ≤ lastD wide
      · have HB := Lib.hid (far_base2 k wide hl)
        have hx5 := far_small2 ⟨k, hlt⟩
        have hnx := far_next2 ⟨k, hlt⟩
        simp only at hx5 hnx
        have hLn := HL.out
        rw [Nat.min_eq_left (by omega)] at hLn
        have HD := Lib.hid (fun h => dp_at (k := k) (n := n) (by omega) hLn h)
        obtain ⟨L, hL⟩ : ∃ L, L = farL k := ⟨_, rfl⟩
        obtain ⟨X, hX⟩ : ∃ X, X = farX k := ⟨_, rfl⟩
        rw [← hL, ← hX] at HB HD
        rw [← hX] at hx5
        rw [← hL] at hLn
        rw [← hL, ← hX] at hnx
        have HNX := Lib.hid hnx
        have HLL := Lib.hid (And.intro hl hL)
        clear hL hX hl HL hnx
        go_wp2_with fail
        refine (rfar_any (k : Int) wide w).mono ?_
        rw [farZ_nat, HB.out]
        rintro e w' ⟨rfl, rfl⟩
        unfold ansB
        dsimp only
        have hnl : (L : Int) ≤ N := by have := HN.out.1; omega
        have h64 : IntKind.u64.wrap (X : Int) = (X : Int) := IntWalk.u64_in _ (by omega)
        obtain ⟨V, hV, e1⟩ : ∃ V : Nat, L + V = n ∧ wrap64 (N - (L : Int)) = (V : Int) := ⟨n - L, by omega, by rw [IntWalk.wrap64_in _ (by have := HN.out; omega)]; have := HN.out.1; omega⟩
        have hp32 : 2 ^ X ≤ 16384 := Nat.le_trans (Nat.pow_le_pow_right (n := 2) (by omega) hx5) (by decide)
        obtain ⟨P, hP, e2⟩ : ∃ P : Nat, P = 2 ^ X ∧ wrap64 ((2 : Int) ^ X) = (P : Int) := ⟨2 ^ X, rfl, two_pow64 (by omega)⟩
        have HP := Lib.hid (And.intro hP hV)
        have hnI : N - (L : Int) = (V : Int) := by have := HN.out.1; omega
        have hVb : (V : Int) ≤ 9223372036854775807 := by have := HN.out; omega
        clear hP hp32 hLn hV
        by_cases hf : V < P
        · have HR : Hid (reachV N wide = ans3 ⟨k, X, V⟩) := Lib.hid (by
            have h5 := HD.out (by have := HP.out.1; have := HP.out.2; omega)
            have h6 := far_end wide
            have h7 := HLL.out
            have h8 : n < farL (lastD wide + 1) := by
              have hm : ∀ m, k + 1 ≤ m → m ≤ 32 → farL (k + 1) ≤ farL m := by
                intro m h1 h2
                induction m with
                | zero => omega
                | succ m ih =>
                  by_cases e : m = k
                  · subst e; exact Nat.le_refl _
                  · have := far_next2 ⟨m, by omega⟩
                    simp only at this
                    rw [this]
                    exact Nat.le_trans (ih (by omega) (by omega)) (Nat.le_add_right _ _)
              have := hm (lastD wide + 1) (by omega) (by omega)
              have h9 := HNX.out
              have := HP.out
              rw [← this.1] at h9
              omega
            unfold reachV
            rw [HN.out.1, if_pos ⟨by omega, by rw [md_nat]; cases wide <;> simp at h6 ⊢ <;> omega⟩, Int.toNat_natCast, h5]
            congr 2
            have := HP.out.2
            omega)
          go_wp2_with fail
          go_ret3
          exact ⟨by rw [HR.out]; rfl, rfl⟩
        · have HR : Hid (farL (min (k + 1) (lastD wide + 1)) ≤ n) := Lib.hid (by
            have h7 := HLL.out
            rw [Nat.min_eq_left (by omega), HNX.out]
            have := HP.out
            omega)
          go_wp2_with fail
          refine ⟨⟨k + 1, by omega, by go_num, HR⟩, ?_⟩
          simp [intOf]; omega
      · have HB := Lib.hid (far_out k wide (by omega))
        have HR : Hid (farL (min (k + 1) (lastD wide + 1)) ≤ n) := Lib.hid (by
          have := HL.out
          rw [Nat.min_eq_right (by omega)] at this ⊢
          exact this)
        clear hl HL
        go_wp2_with fail
        refine (rfar_any (k : Int) wide w).mono ?_
        rw [farZ_nat, HB.out]
        rintro e w' ⟨rfl, rfl⟩
        unfold ansB
        dsimp only
        go_wp2_with fail
        refine ⟨⟨k + 1, by omega, by go_num, HR⟩, ?_⟩
        simp [intOf]; omega
    · obtain rfl : k = 32 := by omega
      have HR : Hid (reachV N wide = no3) := Lib.hid (by
        have := HL.out
        rw [Nat.min_eq_right (by omega), far_end] at this
        unfold reachV
        rw [HN.out.1, if_neg (fun h => by have h3 := h.2; rw [md_nat] at h3; cases wide <;> simp at this h3 <;> omega)])
      go_wp2_with fail
      go_ret3
      exact ⟨by rw [HR.out]; rfl, rfl⟩
theorem rrea_any (z : Int) (wide : Bool) (w : World) (hz : -9223372036854775808 ≤ z ∧ z ≤ 9223372036854775807) :
    Calls Tryz.prog 42 #[.int .i64 z, .bool wide] w fun e w' => e = .returned (reachV z wide) ∧ w = w' := by
  by_cases h : z < 1
  · unfold reachV
    rw [if_neg (by omega)]
    exact rrea_low z wide w h hz.1
  · obtain ⟨n, rfl⟩ : ∃ n : Nat, z = n := ⟨z.toNat, by omega⟩
    exact rrea_up n wide w (by omega) (by omega)
end Go.Proofs.YtnkfnbkjmobbnaaGreatDoor.BlkC
end

section
/-
  Fixed of any tokens; the document's Fixed.
-/
namespace Go.Proofs.YtnkfnbkjmobbnaaGreatDoor.BlkC
open Go.RowKit Go.My BitMath CanMath TabMath
open LzMath (Tok May)
open LzC (TokIn tc may_any rmay_any)
open PackMath (sm)
open InfMath (Pc lp dp symL litc dstc xtr lite cst fixL fixD)

/-! ### what the document adds up -/
def fxl (s : Nat) : Nat := if s < 144 ∨ 280 ≤ s then 8 else if s < 256 then 9 else 7
def rtk (wide : Bool) (t : Tok) : Nat := fxl (symL wide t) + if t.len = 0 then 0 else (lp t.len.toNat wide).x + 5 + (dp t.dist.toNat).x
def rfx (wide : Bool) (f : Nat → Tok) : Nat → Nat
  | 0 => 10
  | k + 1 => rfx wide f k + rtk wide (f k)
theorem fixL_size : ∀ v : Fin 288, ln fixL v.val = fxl v.val := by decide +kernel
theorem tkb_len {wide : Bool} {t : Tok} (h : May wide t) : (InfMath.tkb fixL fixD wide t).length = rtk wide t := by
  have hs := InfMath.sym_small h
  have h1 := fixL_size ⟨symL wide t, by omega⟩
  simp only at h1
  unfold InfMath.tkb rtk
  rw [← h1]
  unfold symL
  by_cases h0 : t.len = 0
  · rw [if_pos h0, if_pos h0, if_pos h0, InfMath.bits_ln, Nat.add_zero]
  · have h2 := InfMath.fixD_ln ⟨(dp t.dist.toNat).s, InfMath.dist_small h h0⟩
    simp only at h2
    rw [if_neg h0, if_neg h0, if_neg h0]
    unfold InfMath.pbits
    simp only [List.length_append, InfMath.bits_ln, lows_len]
    omega
theorem rfx_cst {wide : Bool} {f : Nat → Tok} {n : Nat} (hM : ∀ i, i < n → May wide (f i)) : rfx wide f n = 3 + cst wide f n (ln fixL) (ln fixD) := by
  rw [← InfMath.blk_cost fixL fixD wide f n hM, List.length_append, InfMath.bits_ln]
  have h7 : ln fixL 256 = 7 := fixL_size ⟨256, by omega⟩
  have h : ∀ k, k ≤ n → rfx wide f k = 10 + (InfMath.tks fixL fixD wide f k).length := by
    intro k
    induction k with
    | zero => intro _; rfl
    | succ k ih =>
      intro hk
      rw [rfx, ih (by omega), InfMath.tks, List.length_append, tkb_len (hM k (by omega))]
      omega
  rw [h n (Nat.le_refl _), h7]
  omega
theorem rtk_le {wide : Bool} {t : Tok} (h : May wide t) : rtk wide t ≤ 50 := by
  unfold rtk fxl
  by_cases h0 : t.len = 0
  · rw [if_pos h0]; split
    · omega
    · split <;> omega
  · rw [if_neg h0]
    obtain ⟨q1, q2, q3, q4, -⟩ := InfMath.mat_of h h0
    obtain ⟨l, -, -, -, -, -, a6⟩ := InfMath.lp_base t.len.toNat wide q1 q2
    obtain ⟨d, -, -, -, -, b5⟩ := InfMath.dp_far t.dist.toNat wide q3 q4
    split
    · omega
    · split <;> omega
theorem rfx_le {wide : Bool} {f : Nat → Tok} : ∀ {n : Nat}, (∀ i, i < n → May wide (f i)) → rfx wide f n ≤ 10 + 50 * n
  | 0, _ => Nat.le_refl _
  | n + 1, h => by
    have := rfx_le (n := n) fun i hi => h i (by omega)
    have := rtk_le (h n (by omega))
    rw [rfx]
    omega
/-- What Fixed answers. -/
def fixZ (wide : Bool) (f : Nat → Tok) (len K : Nat) : Int := if K < len then -1 else (rfx wide f len : Int)
theorem sm_bound (n c : Nat) (F : Nat → Nat) (h : ∀ j, j < n → F j ≤ c) : sm n F ≤ n * c := by
  induction n with
  | zero => exact Nat.zero_le _
  | succ n ih =>
    show sm n F + F n ≤ _
    have := ih fun j hj => h j (by omega)
    have := h n (by omega)
    rw [Nat.succ_mul]
    omega
theorem ln15 {ls : List Nat} (h : ∀ x ∈ ls, x ≤ 15) (j : Nat) : ln ls j ≤ 15 := ln_le h j
theorem cost_small {n m : Nat} {F : Nat → Nat} {ls : List Nat} (h : ∀ x ∈ ls, x ≤ 15) (hF : ∀ j, F j ≤ m) (hm : m ≤ 1000000) (hn : n ≤ 1000) : sm n (fun j => F j * ln ls j) ≤ 1000000000000 := by
  have := sm_bound n (1000000 * 15) (fun j => F j * ln ls j) fun j _ => Nat.mul_le_mul (Nat.le_trans (hF j) hm) (ln15 h j)
  have h2 : n * (1000000 * 15) ≤ 1000 * (1000000 * 15) := Nat.mul_le_mul_right _ hn
  omega
end Go.Proofs.YtnkfnbkjmobbnaaGreatDoor.BlkC
end
