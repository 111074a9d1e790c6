import Derived.Test.YthjlemglfgamnaaDoorNumT
import Derived.Test.YthjlemglfgamnaaDoorNumU
import Derived.Test.YthjlemglfgamnaaDoorNumX
import Derived.Test.YthjlemglfgamnaaDoorNumY
namespace Go.Proofs.YthjlemglfgamnaaDoor.NumC
open Go.RowKit Go.My NumMath

/-- What PutOctal answers, whatever it is asked. -/
def pS (v n : Int) : ByteArray := if n < 2 ∨ 32 < n then ⟨#[]⟩ else if v < 0 ∨ 4611686018427387904 < v then ⟨#[]⟩ else fieldS v.toNat n.toNat
def pE (v n : Int) : Nat := if n < 2 ∨ 32 < n then 1 else if v < 0 ∨ 4611686018427387904 < v then 7 else fieldE v.toNat n.toNat
def hS (v : Int) : ByteArray := if v < 0 ∨ 4294967295 < v then ⟨#[]⟩ else ⟨(fix ch 16 8 v.toNat).toArray⟩
def hE (v : Int) : Nat := if v < 0 ∨ 4294967295 < v then 7 else 0

theorem putoctal_all (v n : Int) (w : World) (hT : Tab w) :
    Calls Tryd.prog 16 #[.int .i64 v, .int .i64 n] w fun e w' => e = .returned (.tuple #[.string (pS v n), .int .i64 ((pE v n : Nat) : Int)]) ∧ Below w.heap.size w w' := by
  unfold pS pE
  by_cases h1 : n < 2 ∨ 32 < n
  · rw [if_pos h1, if_pos h1]
    exact (putoctal_arg v n w h1).mono fun e w' ⟨he, hw⟩ => ⟨he, hw ▸ Below.refl _ _⟩
  rw [if_neg h1, if_neg h1]
  by_cases h2 : v < 0 ∨ 4611686018427387904 < v
  · rw [if_pos h2, if_pos h2]
    exact (putoctal_range v n w (by omega) (by omega) h2).mono fun e w' ⟨he, hw⟩ => ⟨he, hw ▸ Below.refl _ _⟩
  rw [if_neg h2, if_neg h2]
  have h := putoctal_any v.toNat n.toNat w hT (by omega) (by omega) (by omega)
  rw [show ((v.toNat : Nat) : Int) = v from by omega, show ((n.toNat : Nat) : Int) = n from by omega] at h
  exact h
theorem refputoctal_all (v n : Int) (w : World) :
    Calls Tryd.prog 17 #[.int .i64 v, .int .i64 n] w fun e w' => e = .returned (.tuple #[.string (pS v n), .int .i64 ((pE v n : Nat) : Int)]) ∧ Below w.heap.size w w' := by
  unfold pS pE
  by_cases h1 : n < 2 ∨ 32 < n
  · rw [if_pos h1, if_pos h1]
    exact (refputoctal_arg v n w h1).mono fun e w' ⟨he, hw⟩ => ⟨he, hw ▸ Below.refl _ _⟩
  rw [if_neg h1, if_neg h1]
  by_cases h2 : v < 0 ∨ 4611686018427387904 < v
  · rw [if_pos h2, if_pos h2]
    exact (refputoctal_range v n w (by omega) (by omega) h2).mono fun e w' ⟨he, hw⟩ => ⟨he, hw ▸ Below.refl _ _⟩
  rw [if_neg h2, if_neg h2]
  have h := refputoctal_any v.toNat n.toNat w (by omega) (by omega) (by omega)
  rw [show ((v.toNat : Nat) : Int) = v from by omega, show ((n.toNat : Nat) : Int) = n from by omega] at h
  exact h
theorem puthex_all (v : Int) (w : World) (hT : Tab w) :
    Calls Tryd.prog 20 #[.int .i64 v] w fun e w' => e = .returned (.tuple #[.string (hS v), .int .i64 ((hE v : Nat) : Int)]) ∧ Below w.heap.size w w' := by
  unfold hS hE
  by_cases h2 : v < 0 ∨ 4294967295 < v
  · rw [if_pos h2, if_pos h2]
    exact (puthex_range v w h2).mono fun e w' ⟨he, hw⟩ => ⟨he, hw ▸ Below.refl _ _⟩
  rw [if_neg h2, if_neg h2]
  have h := puthex_any v.toNat w hT (by omega)
  rw [show ((v.toNat : Nat) : Int) = v from by omega] at h
  exact h
theorem refputhex_all (v : Int) (w : World) :
    Calls Tryd.prog 21 #[.int .i64 v] w fun e w' => e = .returned (.tuple #[.string (hS v), .int .i64 ((hE v : Nat) : Int)]) ∧ w = w' := by
  unfold hS hE
  by_cases h2 : v < 0 ∨ 4294967295 < v
  · rw [if_pos h2, if_pos h2]
    exact refputhex_range v w h2
  rw [if_neg h2, if_neg h2]
  have h := refputhex_any v.toNat w (by omega)
  rw [show ((v.toNat : Nat) : Int) = v from by omega] at h
  exact h

theorem told_any (w : World) (hT : Tab w) : Calls Tryd.prog 7 #[] w fun e w' => e = .returned (.bool true) ∧ Below w.heap.size w w' := by
  have HT := Lib.hid hT
  clear hT
  have o1 : octV (⟨#[32, 49, 55, 32]⟩ : ByteArray).data.toList = 15 := by decide +kernel
  have o2 : octE (⟨#[32, 49, 55, 32]⟩ : ByteArray).data.toList = 0 := by decide +kernel
  have c1 := octal_any ⟨#[32, 49, 55, 32]⟩ w (by decide)
  rw [o1, o2] at c1
  have p1 : pS 512 4 = ⟨#[128, 0, 2, 0]⟩ := by
    have h : (pS 512 4).data.toList = [128, 0, 2, 0] := by decide +kernel
    rw [← Lib.mk_data (pS 512 4), h]
  have p2 : pE 512 4 = 0 := by decide +kernel
  have c2 := fun w hT => putoctal_all 512 4 w hT
  rw [p1, p2] at c2
  have q1 : hexV (⟨#[48, 48, 48, 48, 48, 48, 102, 70]⟩ : ByteArray).data.toList = 255 := by decide +kernel
  have q2 : hexE (⟨#[48, 48, 48, 48, 48, 48, 102, 70]⟩ : ByteArray).data.toList = 0 := by decide +kernel
  have c3 := fun w => hex_any ⟨#[48, 48, 48, 48, 48, 48, 102, 70]⟩ w
  rw [q1, q2] at c3
  have C1 := Lib.hid c1
  have C2 := Lib.hid c2
  have C3 := Lib.hid c3
  clear c1 c2 c3 o1 o2 p1 p2 q1 q2
  go_enter Tryd.func7, Tryd.ntmps7
  go_wp2_with fail
  refine C1.out.mono ?_
  rintro e w1 ⟨rfl, b1⟩
  have HT1 := Lib.hid (HT.out.below (Nat.le_refl _) b1)
  go_wp2_with fail
  refine (C2.out w1 HT1.out).mono ?_
  rintro e w2 ⟨rfl, b2⟩
  go_wp2_with fail
  refine (C3.out w2).mono ?_
  rintro e w3 ⟨rfl, b3⟩
  go_wp2_with fail
  go_ret
  exact ⟨rfl, (b1.trans (b2.mono b1.size)).trans (b3.mono (b1.trans (b2.mono b1.size)).size)⟩
end Go.Proofs.YthjlemglfgamnaaDoor.NumC
