import Derived.Test.YtbjjkhlebdaoaaaGreatDoorMgR
import Derived.Test.YtbjjkhlebdaoaaaGreatDoorMgH

section
/-
  The document's own inflate: All, of bytes whose bits are shown to be blocks.
-/
namespace Go.Proofs.YtbjjkhlebdaoaaaGreatDoor.RfC
open Go.RowKit Go.My BitMath CanMath TabMath WinMath CanC RefC
open InfMath (Stn St1 Bad Bk Rd)

/-- The machine over bytes that are all there. -/
abbrev bgz (wide : Bool) (S most : Nat) (l : List UInt8) (n : Nat) : InfMath.M := { InfMath.start wide S most with bits := bitsOf l, pushed := n }
theorem bgz_open (wide : Bool) (S most : Nat) (l : List UInt8) : Stn 1 l 0 [] wide S most false (bgz wide S most l l.length) :=
  ⟨⟨rfl, rfl, rfl, rfl, rfl, rfl, rfl, rfl⟩, rfl, rfl⟩
/-- What is shown to be read is read to its end. -/
theorem shown_ends {wide : Bool} {S most : Nat} {l : List UInt8} {X z : List Bool} {B : List UInt8} (hS : (if wide then 65536 else 32768) ≤ S) (hX : bitsOf l = X ++ z) (hr : Rd wide 0 X B true) (hm : B.length ≤ most) :
    ∃ t, InfMath.Ends (bgz wide S most l l.length) t 0 ∧ t.out = B ∧ t.bits = z := by
  have hk : Bk wide S most (X ++ z) [] 1 (bgz wide S most l l.length) := ⟨rfl, rfl, rfl, hX, rfl, rfl, rfl, rfl⟩
  have h8 : (0 + X.length + z.length) % 8 = 0 := by
    have h := congrArg List.length hX
    rw [bitsOf_len, List.length_append] at h
    omega
  obtain ⟨t, h1, h2⟩ := hr S most [] z _ hS (by simpa using hm) h8 hk
  exact ⟨t, ⟨h1, InfMath.over_halts h2.next⟩, by simpa using h2.out, h2.bits⟩
set_option maxHeartbeats 2000000 in
theorem all_used {a : Option Addr} {len cap : Nat} {l : List UInt8} {X z : List Bool} {B : List UInt8} (wide : Bool) (S most : Nat) (w0 : World) (hb : Bytes w0 a len cap l) (hl : len ≤ 100000) (hm : most ≤ 1073741824) (h0 : 0 < S) (hS : (if wide then 65536 else 32768) ≤ S) (hS2 : S ≤ 65536) (hX : bitsOf l = X ++ z) (hr : Rd wide 0 X B true) (hB : B.length ≤ most) :
    Calls Tryz.prog 8 #[.slice a len cap, .bool wide, .int .i64 (S : Int), .int .i64 (most : Int)] w0 fun e w' =>
      ∃ (ov : Value), e = .returned (.tuple #[ov, .int .i64 (((X.length + 7) / 8 : Nat) : Int), .int .i64 0]) ∧ Own 5 w0.heap.size w' ov B ∧ Below w0.heap.size w0 w' := by
  have HR := Lib.hid (run_ref (S := S) w0 hb hl (bgz_open wide S most l) hm hS2)
  have HE := Lib.hid (shown_ends hS hX hr hB)
  have HXL : Hid (bitsOf l = X ++ z ∧ (bitsOf l).length = 8 * len) := Lib.hid ⟨hX, by rw [bitsOf_len, hb.len_eq]⟩
  clear hb hX hr hB hS
  have g1 : decide ((S : Int) < 1) = false := by simp; omega
  have g2 : decide ((65536 : Int) < (S : Int)) = false := by simp; omega
  have g3 : decide ((most : Int) < 0) = false := by simp
  have g4 : decide ((1073741824 : Int) < (most : Int)) = false := by simp; omega
  go_enter Tryz.func8, Tryz.ntmps8
  go_wp2_with fail
  refine HR.out.mono ?_
  clear HR g1 g2 g3 g4
  rintro e w1 ⟨hbl, ⟨ov, out, p, rfl, ho, hp0, hp8, hst⟩ | ⟨ov, c, rfl, hc, hbad⟩⟩
  · obtain ⟨s', hs, h1⟩ := hst
    obtain ⟨t, ht, hto, htz⟩ := HE.out
    have he : InfMath.Ends _ s' 0 := ⟨hs, InfMath.over_halts (by rw [h1.next]; rfl)⟩
    obtain ⟨rfl, -⟩ := he.det ht
    have hob : out = B := by rw [← hto, h1.bd.eo]
    have hpx : p = X.length := by
      have h := congrArg List.length htz
      have h2 := HXL.out.2
      have h3 := congrArg List.length HXL.out.1
      rw [List.length_append] at h3
      rw [h1.bd.eb, List.length_drop] at h
      omega
    rw [hob] at ho
    subst hpx
    have H1 := Lib.hid (And.intro hbl ho)
    clear hbl ho hp0 hp8 hs h1 ht hto htz he hob
    obtain ⟨U, hU⟩ : ∃ U, U = (X.length + 7) / 8 := ⟨_, rfl⟩
    rw [← hU]
    have HU := Lib.hid hU
    clear hU
    go_wp2_with fail
    go_ret3
    exact ⟨ov, by rw [← HU.out]; rfl, H1.out.2, H1.out.1⟩
  · exfalso
    obtain ⟨t, ht, hto⟩ := HE.out
    obtain ⟨u, d, hu, hd⟩ := hbad
    exact hd (hu.det ht).2
set_option maxHeartbeats 2000000 in
/-- Of any bytes something is told. -/
theorem all_some {a : Option Addr} {len cap : Nat} {l : List UInt8} (wide : Bool) (S most : Nat) (w0 : World) (hb : Bytes w0 a len cap l) (hl : len ≤ 100000) (h1 : 0 < S) (hm : most ≤ 1073741824) (hS : S ≤ 65536) :
    Calls Tryz.prog 8 #[.slice a len cap, .bool wide, .int .i64 (S : Int), .int .i64 (most : Int)] w0 fun e w' => Below w0.heap.size w0 w' ∧ ∃ (u1 : Value) (u2 u3 : Int), e = .returned (.tuple #[u1, .int .i64 u2, .int .i64 u3]) := by
  have HR := Lib.hid (run_ref w0 hb hl (bgz_open wide S most l) hm hS)
  clear hb
  have g1 : decide ((S : Int) < 1) = false := by simp; omega
  have g2 : decide ((65536 : Int) < (S : Int)) = false := by simp; omega
  have g3 : decide ((most : Int) < 0) = false := by simp
  have g4 : decide ((1073741824 : Int) < (most : Int)) = false := by simp; omega
  go_enter Tryz.func8, Tryz.ntmps8
  go_wp2_with fail
  refine HR.out.mono ?_
  clear HR g1 g2 g3 g4
  rintro e w1 ⟨hbl, ⟨ov, out, p, rfl, -⟩ | ⟨ov, c, rfl, hc, -⟩⟩
  · have HB := Lib.hid hbl
    obtain ⟨U, hU⟩ : ∃ U, U = (p + 7) / 8 := ⟨_, rfl⟩
    rw [← hU]
    clear hbl hU
    go_wp2_with fail
    go_ret3
    exact ⟨HB.out, ov, U, 0, rfl⟩
  · have HB := Lib.hid hbl
    clear hbl
    by_cases h5 : c = 5
    · have g5 : ((c : Int) == 5) = true := by simp; omega
      clear h5
      go_wp2_with fail
      go_ret3
      exact ⟨HB.out, _, _, _, rfl⟩
    · have g5 : ((c : Int) == 5) = false := by simp; omega
      have g6 : ((c : Int) != 0) = true := by simp; omega
      clear h5
      go_wp2_with fail
      go_ret3
      exact ⟨HB.out, _, _, _, rfl⟩
end Go.Proofs.YtbjjkhlebdaoaaaGreatDoor.RfC
end
