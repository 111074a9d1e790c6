import Derived.Test.YtnkfnbkjmobbnaaGreatDoorMgR
import Derived.Test.YtnkfnbkjmobbnaaGreatDoorMgH

section
/-
  The document's own inflate: All, of bytes whose bits are shown to be blocks.
-/
namespace Go.Proofs.YtnkfnbkjmobbnaaGreatDoor.RfC
open Go.RowKit Go.My BitMath CanMath TabMath WinMath CanC RefC
open InfMath (Stn St1 Bad Bk Rd)

/-- The machine over bytes that are all there. -/
abbrev bg (wide : Bool) (S most : Nat) (l : List UInt8) (n : Nat) : InfMath.M := { InfMath.start wide S most with bits := bitsOf l, pushed := n }
theorem bg_open (wide : Bool) (S most : Nat) (l : List UInt8) : Stn 1 l 0 [] wide S most false (bg wide S most l l.length) :=
  ⟨⟨rfl, rfl, rfl, rfl, rfl, rfl, rfl, rfl⟩, rfl, rfl⟩
/-- What is shown to be read is read to its end. -/
theorem shown_ends {wide : Bool} {most : Nat} {l : List UInt8} {X z : List Bool} {B : List UInt8} (hX : bitsOf l = X ++ z) (hr : Rd wide 0 X B true) (hm : B.length ≤ most) :
    ∃ t, InfMath.Ends (bg wide 65536 most l l.length) t 0 ∧ t.out = B := by
  have hk : Bk wide 65536 most (X ++ z) [] 1 (bg wide 65536 most l l.length) := ⟨rfl, rfl, rfl, hX, rfl, rfl, rfl, rfl⟩
  have h8 : (0 + X.length + z.length) % 8 = 0 := by
    have h := congrArg List.length hX
    rw [bitsOf_len, List.length_append] at h
    omega
  obtain ⟨t, h1, h2⟩ := hr 65536 most [] z _ (Nat.le_refl _) (by simpa using hm) h8 hk
  exact ⟨t, ⟨h1, InfMath.over_halts h2.next⟩, by simpa using h2.out⟩
set_option maxHeartbeats 2000000 in
theorem all_shown {a : Option Addr} {len cap : Nat} {l : List UInt8} {X z : List Bool} {B : List UInt8} (wide : Bool) (most : Nat) (w0 : World) (hb : Bytes w0 a len cap l) (hl : len ≤ 100000) (hm : most ≤ 1073741824) (hX : bitsOf l = X ++ z) (hr : Rd wide 0 X B true) (hB : B.length ≤ most) :
    Calls Tryz.prog 44 #[.slice a len cap, .bool wide, .int .i64 65536, .int .i64 (most : Int)] w0 fun e w' =>
      ∃ (ov : Value) (n : Int), e = .returned (.tuple #[ov, .int .i64 n, .int .i64 0]) ∧ Own 5 w0.heap.size w' ov B ∧ Below w0.heap.size w0 w' := by
  have HR := Lib.hid (run_ref (S := 65536) w0 hb hl (bg_open wide 65536 most l) hm (Nat.le_refl _))
  have HE := Lib.hid (shown_ends hX hr hB)
  clear hb hX hr hB
  have g3 : decide ((most : Int) < 0) = false := by simp
  have g4 : decide ((1073741824 : Int) < (most : Int)) = false := by simp; omega
  go_enter Tryz.func44, Tryz.ntmps44
  go_wp2_with fail
  refine HR.out.mono ?_
  clear HR g3 g4
  rintro e w1 ⟨hbl, ⟨ov, out, p, rfl, ho, hp0, hp8, hst⟩ | ⟨ov, c, rfl, hc, hbad⟩⟩
  · obtain ⟨s', hs, h1⟩ := hst
    obtain ⟨t, ht, hto⟩ := HE.out
    have he : InfMath.Ends _ s' 0 := ⟨hs, InfMath.over_halts (by rw [h1.next]; rfl)⟩
    obtain ⟨rfl, -⟩ := he.det ht
    have hob : out = B := by rw [← hto, h1.bd.eo]
    rw [hob] at ho
    have H1 := Lib.hid (And.intro hbl (And.intro ho hp8))
    clear hbl ho hp0 hp8 hs h1 ht hto he hob
    obtain ⟨U, hU⟩ : ∃ U, U = (p + 7) / 8 := ⟨_, rfl⟩
    rw [← hU]
    have HU := Lib.hid hU
    clear hU
    go_wp2_with fail
    go_ret3
    exact ⟨ov, _, rfl, H1.out.2.1, H1.out.1⟩
  · exfalso
    obtain ⟨t, ht, hto⟩ := HE.out
    obtain ⟨u, d, hu, hd⟩ := hbad
    exact hd (hu.det ht).2
end Go.Proofs.YtnkfnbkjmobbnaaGreatDoor.RfC
end
