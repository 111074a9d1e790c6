/-
  math/bits.Reverse32; table.turned.
-/
import Derived.Test.YtgmdbcmfncapdaaRows
import Derived.Test.YtgmdbcmfncapdaaTabSwp
import Derived.Test.YtgmdbcmfncapdaaRow
import Derived.Laws.Pointers
import Derived.Deep.QuietTactic
import Derived.BigQuiet
namespace Go.Proofs.Ytgmdbcmfncapdaa.TabC
open Go.RowKit Go.My BitMath CanMath TabMath

theorem swap_eq (x k K m : Nat) (hK : K = 2 ^ k) (hx : x < 4294967296) (hm : m < 4294967296) :
    bits .or .u32 (bits .and .u32 ((x : Int) / (K : Int)) (m : Int)) (bits .and .u32 (x : Int) (m : Int) * (K : Int) % 4294967296) = ((swp k m x : Nat) : Int) := by
  subst hK
  have hd := Nat.div_le_self x (2 ^ k)
  have e : (x : Int) / ((2 ^ k : Nat) : Int) = ((x / 2 ^ k : Nat) : Int) := by simp
  rw [e, u32_and_nat _ _ (by omega) hm, u32_and_nat _ _ hx hm]
  have e2 : ((x &&& m : Nat) : Int) * ((2 ^ k : Nat) : Int) % 4294967296 = (((x &&& m) * 2 ^ k % 2 ^ 32 : Nat) : Int) := by
    rw [Int.natCast_emod, Int.natCast_mul]; rfl
  rw [e2, u32_or_nat]
  · rfl
  · exact Nat.lt_of_le_of_lt Nat.and_le_right hm
  · exact Nat.mod_lt _ (by decide)
theorem last_eq (x : Nat) (hx : x < 4294967296) : bits .or .u32 ((x : Int) / 65536) ((x : Int) * 65536 % 4294967296) = ((swp 16 65535 x : Nat) : Int) := by
  have e : (x : Int) / 65536 = ((x / 65536 : Nat) : Int) := by omega
  have e2 : (x : Int) * 65536 % 4294967296 = ((x * 65536 % 4294967296 : Nat) : Int) := by omega
  rw [e, e2, u32_or_nat _ _ (by omega) (by omega), swp_last x hx]

theorem revbytes_any (x : Nat) (w : World) (hx : x < 4294967296) :
    Calls Try.prog 29 #[.int .u32 (x : Int)] w fun e w' => e = .returned (.int .u32 ((swp 16 65535 (swp 8 16711935 x) : Nat) : Int)) ∧ w = w' := by
  have h1 : bits .or .u32 (bits .and .u32 ((x : Int) / 256) 16711935) (bits .and .u32 (x : Int) 16711935 * 256 % 4294967296) = ((swp 8 16711935 x : Nat) : Int) := swap_eq x 8 256 16711935 rfl hx (by decide)
  have hl := swp_lt 8 16711935 x (by decide)
  have h2 := last_eq (swp 8 16711935 x) hl
  generalize swp 8 16711935 x = y at *
  generalize swp 16 65535 y = z at *
  go_enter Try.func29, Try.ntmps29
  go_wp2
  go_ret
  exact ⟨rfl, rfl⟩
set_option maxHeartbeats 1000000 in
theorem reverse_any (x : Nat) (w : World) (hx : x < 4294967296) :
    Calls Try.prog 25 #[.int .u32 (x : Int)] w fun e w' => e = .returned (.int .u32 ((rc 32 x : Nat) : Int)) ∧ w = w' := by
  have h1 : bits .or .u32 (bits .and .u32 ((x : Int) / 2) 1431655765) (bits .and .u32 (x : Int) 1431655765 * 2 % 4294967296) = ((swp 1 1431655765 x : Nat) : Int) := swap_eq x 1 2 1431655765 rfl hx (by decide)
  have l1 := swp_lt 1 1431655765 x (by decide)
  have h2 : bits .or .u32 (bits .and .u32 (((swp 1 1431655765 x : Nat) : Int) / 4) 858993459) (bits .and .u32 ((swp 1 1431655765 x : Nat) : Int) 858993459 * 4 % 4294967296) = ((swp 2 858993459 (swp 1 1431655765 x) : Nat) : Int) := swap_eq (swp 1 1431655765 x) 2 4 858993459 rfl l1 (by decide)
  have l2 := swp_lt 2 858993459 (swp 1 1431655765 x) (by decide)
  have h3 : bits .or .u32 (bits .and .u32 (((swp 2 858993459 (swp 1 1431655765 x) : Nat) : Int) / 16) 252645135) (bits .and .u32 ((swp 2 858993459 (swp 1 1431655765 x) : Nat) : Int) 252645135 * 16 % 4294967296) = ((swp 4 252645135 (swp 2 858993459 (swp 1 1431655765 x)) : Nat) : Int) := swap_eq (swp 2 858993459 (swp 1 1431655765 x)) 4 16 252645135 rfl l2 (by decide)
  have l3 := swp_lt 4 252645135 (swp 2 858993459 (swp 1 1431655765 x)) (by decide)
  have HA := Lib.hid (swp_all x hx)
  clear l1 l2
  generalize swp 1 1431655765 x = y1 at *
  generalize swp 2 858993459 y1 = y2 at *
  generalize swp 4 252645135 y2 = y3 at *
  go_enter Try.func25, Try.ntmps25
  go_wp2_with fail
  refine (revbytes_any y3 w l3).mono ?_
  rw [HA.out]
  rintro e w' ⟨rfl, rfl⟩
  go_wp2_with fail
  go_ret
  exact ⟨rfl, rfl⟩

/-- A code as it is read. -/
theorem turned_any (c n : Nat) (w : World) (hn : n ≤ 15) (hc : c < 2 ^ n) :
    Calls Try.prog 14 #[.int .u32 (c : Int), .int .i64 (n : Int)] w fun e w' => e = .returned (.int .u32 ((rc n c : Nat) : Int)) ∧ w = w' := by
  have hpow : 2 ^ n ≤ 2 ^ 15 := Nat.pow_le_pow_right (by omega) hn
  have HR := Lib.hid (rc_of_word n c (by omega))
  have hs1 : (32 - (n : Int)).toNat = 32 - n := by omega
  have hlt := rc_lt 32 c
  go_enter Try.func14, Try.ntmps14
  go_wp2_with fail
  refine (reverse_any c w (by omega)).mono ?_
  rintro e w' ⟨rfl, rfl⟩
  generalize rc 32 c = y at *
  go_wp2_with fail
  go_ret
  exact ⟨by rw [← HR.out]; simp, rfl⟩
end Go.Proofs.Ytgmdbcmfncapdaa.TabC
