import Derived.Test.YtdbcendnibgcaaaGreatDoorMgBy
import Derived.Test.YtdbcendnibgcaaaGreatDoorMgBw

section
/-
  The document's own inflate: Run.
-/
namespace Go.Proofs.YtdbcendnibgcaaaGreatDoor.RfC
open Go.RowKit Go.My BitMath CanMath TabMath WinMath CanC RefC
open InfMath (Stn St1 St9 Bad CodeOk sym)

/-- Where it stands, in memory. -/
def posAt (g : Nat) (w : World) : Nat := (intOf ((w.cell? ⟨g, 1, none⟩).getD undef)).toNat
/-- What Run hands back. -/
def RunR (w0 : World) (len : Nat) (l : List UInt8) (wide : Bool) (S most : Nat) (s : InfMath.M) (e : Ending) (w' : World) : Prop :=
  Below w0.heap.size w0 w' ∧
  ((∃ (ov : Value) (out : List UInt8) (p : Nat), e = .returned (.tuple #[ov, .int .i64 0, .int .i64 (((p + 7) / 8 : Nat) : Int)]) ∧ Own 5 w0.heap.size w' ov out ∧ 0 < p ∧ p ≤ 8 * len ∧ ∃ s', InfMath.Steps s s' ∧ St1 l p out wide S most true s') ∨
   (∃ (ov : Value) (c : Nat), e = .returned (.tuple #[ov, .int .i64 (c : Int), .int .i64 0]) ∧ c ≠ 0 ∧ Bad s))
theorem posAt_of {w0 w : World} {g : Nat} {a : Option Addr} {len cap : Nat} {l : List UInt8} {p : Nat} {ov : Value} {out : List UInt8} {wide : Bool} {S most code : Nat} {R : List (Nat × TypeId × Array Value)} (h : XAt w0 w g a len cap l p ov out wide S most code R) : posAt g w = p := by
  unfold posAt
  rw [h.blk.cell]
  show (p : Int).toNat = p
  simp

/-- What is left to do in a block. -/
def toDo (len g : Nat) (gv : Value) (w : World) : Nat := match gv with
  | .bool true => 8 * len - posAt g w + 1
  | _ => 0
set_option maxRecDepth 100000 in
set_option maxHeartbeats 16000000 in
theorem run_ref {a : Option Addr} {len cap : Nat} {l : List UInt8} {wide : Bool} {S most : Nat} {s : InfMath.M} (w0 : World) (hb : Bytes w0 a len cap l) (hl : len ≤ 100000) (h1 : Stn 1 l 0 [] wide S most false s) (hm : most ≤ 1073741824) (hS : S ≤ 65536) :
    Calls Tryz.prog 34 #[.slice a len cap, .bool wide, .int .i64 (S : Int), .int .i64 (most : Int)] w0 (RunR w0 len l wide S most s) := by
  have HBY := Lib.hid hb
  have H1 := Lib.hid h1
  have HLE := Lib.hid hb.len_eq
  clear hb h1
  go_enter Tryz.func34, Tryz.ntmps34
  go_wp2_with fail
  refine (fixed_any _).mono ?_
  rintro e w1 ⟨gl, gd, rfl, HKL, HKD, hb1⟩
  obtain ⟨g, hg⟩ : ∃ g, g = w0.heap.size := ⟨_, rfl⟩
  have HX : Hid (XAt w0 w1 g a len cap l 0 (.slice none 0 0) [] wide S most 0 [(gl, 9, (texts InfMath.fixL).toArray), (gd, 9, (texts InfMath.fixD).toArray)]) := Lib.hid (by
    have hk := Blk.new w0 76 (xc a len cap 0 (.slice none 0 0) wide S most 0)
    have hlt := hk.lt
    refine ⟨by rw [hg]; exact (hb1.block _ hlt).trans hk, Own.nil _ _ _, by omega, HBY.out, ((Below.refl _ w0).alloc (Nat.le_refl _) _).trans (hb1.mono (by simp)), by omega, by omega, fun x hx => ?_⟩
    simp only [List.mem_cons, List.not_mem_nil, or_false] at hx
    rcases hx with rfl | rfl
    · exact ⟨HKL.out, (by decide : 9 ≠ 76), (by decide : 9 ≠ 5)⟩
    · exact ⟨HKD.out, (by decide : 9 ≠ 76), (by decide : 9 ≠ 5)⟩)
  rw [← hg]
  clear hb1 HKL HKD hg
  obtain ⟨R, hR⟩ : ∃ R, R = [(gl, 9, (texts InfMath.fixL).toArray), (gd, 9, (texts InfMath.fixD).toArray)] := ⟨_, rfl⟩
  rw [← hR] at HX
  have HRM : Hid ((gl, 9, (texts InfMath.fixL).toArray) ∈ R ∧ (gd, 9, (texts InfMath.fixD).toArray) ∈ R ∧ ∀ x ∈ R, x.2.1 = 9) := Lib.hid (by
    rw [hR]
    refine ⟨by simp, by simp, fun x hx => ?_⟩
    simp only [List.mem_cons, List.not_mem_nil, or_false] at hx
    rcases hx with rfl | rfl <;> rfl)
  clear hR
  go_wp2_with fail
  go_loopw [18] (fun _ wr => ∃ (p : Nat) (ov : Value) (out : List UInt8) (code : Nat), out.length ≤ most ∧ Hid (XAt w0 wr g a len cap l p ov out wide S most code R) ∧ Hid (∃ fin s', InfMath.Steps s s' ∧ Stn 1 l p out wide S most fin s')) (fun _ wr => 8 * len - posAt g wr)
  case atStart => exact ⟨0, _, [], 0, Nat.zero_le _, HX, Lib.hid ⟨false, s, .refl s, H1.out⟩⟩
  case round =>
    clear HX
    obtain ⟨p, ov, out, code, hom, HX, HST⟩ := hrel
    have HPA := Lib.hid (posAt_of HX.out)
    have HG1 := Lib.hid (get_any 1 (by omega) HX)
    generalize wr = wq at *
    go_wp2_with fail
    refine HG1.out.mono ?_
    rintro e w2 (⟨hno, rfl, HX1⟩ | ⟨hyes, rfl, HX1⟩)
    · have HB : Hid (Bad s) := Lib.hid (by
        obtain ⟨fin, s', hs, h1⟩ := HST.out
        exact .of hs (InfMath.open_short h1 (by rw [HLE.out]; omega)))
      have HG2 := Lib.hid (get_any 2 (by omega) HX1)
      clear HG1
      go_wp2_with fail
      refine HG2.out.mono ?_
      rintro e w3 (⟨-, rfl, HX2⟩ | ⟨hyes2, -, -⟩)
      · have x2 : w3.cell? ⟨g, 2, none⟩ = some ov := HX2.out.blk.cell 2
        clear HG2 HX1
        go_wp2_with fail
        go_ret3
        exact ⟨HX2.out.below, .inr ⟨ov, 5, rfl, by decide, HB.out⟩⟩
      · omega
    · obtain ⟨a0, ha0⟩ : ∃ a0, a0 = num (((bitsOf l).drop p).take 1) := ⟨_, rfl⟩
      rw [← ha0]
      have HG2 := Lib.hid (get_any 2 (by omega) HX1)
      clear HG1
      go_wp2_with fail
      refine HG2.out.mono ?_
      rintro e w3 (⟨hno2, rfl, HX2⟩ | ⟨hyes2, rfl, HX2⟩)
      · have HB : Hid (Bad s) := Lib.hid (by
          obtain ⟨fin, s', hs, h1⟩ := HST.out
          exact .of hs (InfMath.open_short h1 (by rw [HLE.out]; omega)))
        have x2 : w3.cell? ⟨g, 2, none⟩ = some ov := HX2.out.blk.cell 2
        clear HG2 HX1 ha0
        go_wp2_with fail
        go_ret3
        exact ⟨HX2.out.below, .inr ⟨ov, 5, rfl, by decide, HB.out⟩⟩
      · obtain ⟨b0, hb0⟩ : ∃ b0, b0 = num (((bitsOf l).drop (p + 1)).take 2) := ⟨_, rfl⟩
        rw [← hb0]
        have hb4 : b0 < 4 := by
          rw [hb0]
          exact Nat.lt_of_lt_of_le (num_lt _) (Nat.pow_le_pow_right (n := 2) (by omega) (show _ ≤ 2 by rw [List.length_take]; omega))
        have HOP : Hid ((b0 = 0 → ∃ s', InfMath.Steps s s' ∧ Stn 2 l (p + 3) out wide S most (a0 == 1) s') ∧ (b0 = 1 → ∃ s', InfMath.Steps s s' ∧ St9 l (p + 3) out wide S most InfMath.fixL InfMath.fixD (a0 == 1) s') ∧ (b0 = 2 → ∃ s', InfMath.Steps s s' ∧ Stn 4 l (p + 3) out wide S most (a0 == 1) s') ∧ (b0 = 3 → Bad s)) := Lib.hid (by
          obtain ⟨fin, s', hs, h1⟩ := HST.out
          obtain ⟨o0, o1, o2, o3⟩ := InfMath.open_ h1 (by rw [HLE.out]; omega) ha0.symm hb0.symm
          exact ⟨fun h => let ⟨t, k1, k2⟩ := o0 h; ⟨t, hs.trans k1, k2⟩, fun h => let ⟨t, k1, k2⟩ := o1 h; ⟨t, hs.trans k1, k2⟩, fun h => let ⟨t, k1, k2⟩ := o2 h; ⟨t, hs.trans k1, k2⟩, fun h => .of hs (o3 h)⟩)
        rw [show p + 1 + 2 = p + 3 from rfl] at HX2
        rw [← ha0]
        clear HG2 HX1 ha0 hb0 HST hyes hyes2
        generalize w3 = w4 at *
        go_upto_block 2 with fail
        go_cut [18] (fun gv wx => ∃ (goes : Bool) (p' code' : Nat) (ov' : Value) (out' : List UInt8), gv = .bool goes ∧ Hid (XAt w0 wx g a len cap l p' ov' out' wide S most code' R) ∧ Hid ((goes = true → p < p' ∧ out'.length ≤ most ∧ ∃ s', InfMath.Steps s s' ∧ St1 l p' out' wide S most (a0 == 1) s') ∧ (goes = false → code' ≠ 0 ∧ Bad s)))
        case first =>
          by_cases hb : b0 = 0
          · have g0 : ((b0 : Int) == 0) = true := by simp; omega
            have HSA : Hid (∃ s', InfMath.Steps s s' ∧ Calls Tryz.prog 44 #[.pointer (some ⟨g, 0, none⟩)] w4 (StoR w0 g a len cap l wide S most R (a0 == 1) s' (p + 3))) := Lib.hid (by
              obtain ⟨s', hs, h2⟩ := HOP.out.1 hb
              exact ⟨s', hs, stored_any HX2 h2 hm hom⟩)
            obtain ⟨s', hs, hc⟩ := HSA.out
            have HS := Lib.hid hs
            have HC := Lib.hid hc
            clear hs hc HSA hb
            go_wp2_with fail
            refine HC.out.mono ?_
            rintro e w5 ⟨r, p', code', ov', out', rfl, HX5, HR5⟩
            clear HC HX2
            go_wp2_with fail
            have HR6 : Hid ((r = true → p < p' ∧ out'.length ≤ most ∧ ∃ s', InfMath.Steps s s' ∧ St1 l p' out' wide S most (a0 == 1) s') ∧ (r = false → code' ≠ 0 ∧ Bad s)) := Lib.hid (by
              rcases HR5.out with ⟨h1, h2, h3, s2, h4, h5⟩ | ⟨h1, h2, h3⟩
              · refine ⟨fun _ => ⟨by omega, h3, s2, HS.out.trans h4, h5⟩, fun hr => ?_⟩
                rw [h1] at hr; cases hr
              · refine ⟨fun hr => ?_, fun _ => ⟨h2, .of HS.out h3⟩⟩
                rw [h1] at hr; cases hr)
            clear HR5
            go_meet
            case rel => exact ⟨r, p', code', ov', out', rfl, HX5, HR6⟩
          · have g0 : ((b0 : Int) == 0) = false := by simp; omega
            by_cases hb3 : b0 = 3
            · have g3 : ((b0 : Int) == 3) = true := by simp; omega
              have HB : Hid (Bad s) := Lib.hid (HOP.out.2.2.2 hb3)
              have x2 : w4.cell? ⟨g, 2, none⟩ = some ov := HX2.out.blk.cell 2
              clear hb hb3
              go_wp2_with fail
              go_ret3
              exact ⟨HX2.out.below, .inr ⟨ov, 2, rfl, by decide, HB.out⟩⟩
            · have g3 : ((b0 : Int) == 3) = false := by simp; omega
              have hb12 : b0 = 1 ∨ b0 = 2 := by omega
              clear hb hb3
              go_upto_if 56 with (fail)
              go_cut [18, 19, 20] (fun gv lv dv wx => (∃ (gl' gd' : Nat) (ls ds : List Nat) (R' : List (Nat × TypeId × Array Value)) (p' code' : Nat), gv = .bool true ∧ lv = .slice (some ⟨gl', 0, none⟩) ls.length ls.length ∧ dv = .slice (some ⟨gd', 0, none⟩) ds.length ds.length ∧ Hid (XAt w0 wx g a len cap l p' ov out wide S most code' R') ∧ Hid (((gl', 9, (texts ls).toArray) ∈ R' ∧ (gd', 9, (texts ds).toArray) ∈ R' ∧ ∀ x ∈ R, x ∈ R') ∧ CodeOk ls ∧ CodeOk ds ∧ p < p' ∧ ∃ s', InfMath.Steps s s' ∧ St9 l p' out wide S most ls ds (a0 == 1) s')) ∨
                (∃ (p' code' : Nat), gv = .bool false ∧ lv = .slice none 0 0 ∧ dv = .slice none 0 0 ∧ Hid (XAt w0 wx g a len cap l p' ov out wide S most code' R) ∧ Hid (code' ≠ 0 ∧ Bad s)))
              case first =>
                by_cases hb2 : b0 = 2
                · have g2 : ((b0 : Int) == 2) = true := by simp; omega
                  have HSA : Hid (∃ s', InfMath.Steps s s' ∧ Calls Tryz.prog 45 #[.pointer (some ⟨g, 0, none⟩)] w4 (LenR w0 g a len cap l ov out wide S most R (a0 == 1) s' (p + 3))) := Lib.hid (by
                    obtain ⟨s', hs, h4⟩ := HOP.out.2.2.1 hb2
                    exact ⟨s', hs, lengths_any HX2 h4 HRM.out.2.2⟩)
                  obtain ⟨s', hs, hc⟩ := HSA.out
                  have HS := Lib.hid hs
                  have HC := Lib.hid hc
                  clear hs hc HSA hb2 hb12
                  go_wp2_with fail
                  refine HC.out.mono ?_
                  rintro e w5 (⟨g1, g2', p', code', ls, ds, rfl, HX5, okl, okd, hpp, s2, hs2, h9⟩ | ⟨p', code', rfl, HX5, hcode, hbad⟩)
                  · have HF : Hid (((g1, 9, (texts ls).toArray) ∈ (g1, 9, (texts ls).toArray) :: (g2', 9, (texts ds).toArray) :: R ∧ (g2', 9, (texts ds).toArray) ∈ (g1, 9, (texts ls).toArray) :: (g2', 9, (texts ds).toArray) :: R ∧ ∀ x ∈ R, x ∈ (g1, 9, (texts ls).toArray) :: (g2', 9, (texts ds).toArray) :: R) ∧ CodeOk ls ∧ CodeOk ds ∧ p < p' ∧ ∃ s', InfMath.Steps s s' ∧ St9 l p' out wide S most ls ds (a0 == 1) s') := Lib.hid ⟨⟨by simp, by simp, fun x hx => List.mem_cons_of_mem _ (List.mem_cons_of_mem _ hx)⟩, okl, okd, by omega, s2, HS.out.trans hs2, h9⟩
                    clear HC HX2 okl okd hpp hs2 h9
                    go_wp2_with fail
                    go_meet
                    case rel => exact .inl ⟨g1, g2', ls, ds, _, p', code', rfl, rfl, rfl, HX5, HF⟩
                  · have HF : Hid (code' ≠ 0 ∧ Bad s) := Lib.hid ⟨hcode, .of HS.out hbad⟩
                    clear HC HX2 hcode hbad
                    go_wp2_with fail
                    go_meet
                    case rel => exact .inr ⟨p', code', rfl, rfl, rfl, HX5, HF⟩
                · have g2 : ((b0 : Int) == 2) = false := by simp; omega
                  have HF : Hid (((gl, 9, (texts InfMath.fixL).toArray) ∈ R ∧ (gd, 9, (texts InfMath.fixD).toArray) ∈ R ∧ ∀ x ∈ R, x ∈ R) ∧ CodeOk InfMath.fixL ∧ CodeOk InfMath.fixD ∧ p < p + 3 ∧ ∃ s', InfMath.Steps s s' ∧ St9 l (p + 3) out wide S most InfMath.fixL InfMath.fixD (a0 == 1) s') := Lib.hid ⟨⟨HRM.out.1, HRM.out.2.1, fun _ h => h⟩, InfMath.fixL_ok, InfMath.fixD_ok, by omega, HOP.out.2.1 (by omega)⟩
                  clear hb2 hb12
                  go_wp2_with fail
                  go_meet
                  case rel => exact .inl ⟨gl, gd, InfMath.fixL, InfMath.fixD, R, p + 3, code, rfl, rfl, rfl, HX2, HF⟩
              clear HX2 HOP hb12
              rcases hcut with ⟨gl', gd', ls, ds, R', p1, code1, rfl, rfl, rfl, HX3, HF⟩ | ⟨p1, code1, rfl, rfl, rfl, HX3, HF⟩
              · generalize wc = w5 at *
                go_wp2_with fail
                go_loopw [18, 21] (fun gv tv wr =>
                  (∃ (p' code' : Nat) (ov' : Value) (out' : List UInt8), gv = .bool true ∧ tv = .int .i64 0 ∧ out'.length ≤ most ∧ Hid (XAt w0 wr g a len cap l p' ov' out' wide S most code' R') ∧ Hid (p < p' ∧ ∃ s', InfMath.Steps s s' ∧ St9 l p' out' wide S most ls ds (a0 == 1) s')) ∨
                  (∃ (p' code' : Nat) (ov' : Value) (out' : List UInt8), gv = .bool true ∧ tv = .int .i64 1 ∧ Hid (XAt w0 wr g a len cap l p' ov' out' wide S most code' R') ∧ Hid (p < p' ∧ out'.length ≤ most ∧ ∃ s', InfMath.Steps s s' ∧ St1 l p' out' wide S most (a0 == 1) s')) ∨
                  (∃ (p' code' : Nat) (ov' : Value) (out' : List UInt8), gv = .bool false ∧ tv = .int .i64 2 ∧ Hid (XAt w0 wr g a len cap l p' ov' out' wide S most code' R') ∧ Hid (code' ≠ 0 ∧ Bad s))) (fun gv _ wr => toDo len g gv wr)
                case atStart => exact .inl ⟨p1, code1, ov, out, rfl, rfl, hom, HX3, Lib.hid ⟨HF.out.2.2.2.1, HF.out.2.2.2.2⟩⟩
                case round =>
                  clear HX3
                  rcases hrel with ⟨p2, code2, ov2, out2, rfl, rfl, hom2, HX3, HG⟩ | ⟨p2, code2, ov2, out2, rfl, rfl, HX3, HG⟩ | ⟨p2, code2, ov2, out2, rfl, rfl, HX3, HG⟩
                  · have HPB := Lib.hid (posAt_of HX3.out)
                    obtain ⟨hpp, s1, hs1, h9⟩ := HG.out
                    have HTK := Lib.hid (token_any HX3 h9 HF.out.1.1 HF.out.1.2.1 HF.out.2.1 HF.out.2.2.1 hm hS hom2)
                    have HS1 := Lib.hid hs1
                    clear hs1 h9 HG
                    generalize wr = w6 at *
                    go_wp2_with fail
                    refine HTK.out.mono ?_
                    rintro e w7 ⟨r, p3, code3, ov3, out3, rfl, HX7, HR7⟩
                    have HPC := Lib.hid (posAt_of HX7.out)
                    have hp3 := HX7.out.lt
                    clear HTK HX3
                    rcases HR7.out with ⟨h0, h1, h2, s2, h3, h4⟩ | ⟨h0, h1, h2, s2, h3, h4⟩ | ⟨h0, h1, h2⟩
                    · subst h0
                      have HG2 : Hid (p < p3 ∧ ∃ s', InfMath.Steps s s' ∧ St9 l p3 out3 wide S most ls ds (a0 == 1) s') := Lib.hid ⟨by omega, s2, HS1.out.trans h3, h4⟩
                      clear h3 h4 HR7
                      go_wp2_with fail
                      go_roundw
                      case rel => exact .inl ⟨p3, code3, ov3, out3, rfl, rfl, h2, HX7, HG2⟩
                      case measure => simp only [toDo]; rw [HPB.out, HPC.out]; omega
                    · subst h0
                      have HG2 : Hid (p < p3 ∧ out3.length ≤ most ∧ ∃ s', InfMath.Steps s s' ∧ St1 l p3 out3 wide S most (a0 == 1) s') := Lib.hid ⟨by omega, h2, s2, HS1.out.trans h3, h4⟩
                      clear h3 h4 HR7
                      go_wp2_with fail
                      go_roundw
                      case rel => exact .inr (.inl ⟨p3, code3, ov3, out3, rfl, rfl, HX7, HG2⟩)
                      case measure => simp only [toDo]; rw [HPB.out, HPC.out]; omega
                    · subst h0
                      have HG2 : Hid (code3 ≠ 0 ∧ Bad s) := Lib.hid ⟨h1, .of HS1.out h2⟩
                      clear h1 h2 HR7
                      go_wp2_with fail
                      go_roundw
                      case rel => exact .inr (.inr ⟨p3, code3, ov3, out3, rfl, rfl, HX7, HG2⟩)
                      case measure => simp only [toDo]; omega
                  · have HX4 := Lib.hid (HX3.out.less HF.out.1.2.2)
                    clear HX3
                    go_wp2_with fail
                    go_meet
                    case rel => exact ⟨true, p2, code2, ov2, out2, rfl, HX4, Lib.hid ⟨fun _ => HG.out, fun h => by cases h⟩⟩
                  · have HX4 := Lib.hid (HX3.out.less HF.out.1.2.2)
                    clear HX3
                    go_wp2_with fail
                    go_meet
                    case rel => exact ⟨false, p2, code2, ov2, out2, rfl, HX4, Lib.hid ⟨(fun h => by cases h), fun _ => HG.out⟩⟩
              · generalize wc = w5 at *
                go_wp2_with fail
                go_loopw [18] (fun gv wr => gv = .bool false ∧ wr = w5) (fun _ _ => 0)
                case atStart => exact ⟨rfl, rfl⟩
                case round =>
                  obtain ⟨rfl, rfl⟩ := hrel
                  go_wp2_with fail
                  go_meet
                  case rel => exact ⟨false, p1, code1, ov, out, rfl, HX3, Lib.hid ⟨(fun h => by cases h), fun _ => HF.out⟩⟩
        obtain ⟨goes, p', code', ov', out', rfl, HX5, HR5⟩ := hcut
        clear HX2 HOP
        generalize wc = w8 at *
        cases goes with
        | false =>
          have HBD := Lib.hid (HR5.out.2 rfl)
          have x2 : w8.cell? ⟨g, 2, none⟩ = some ov' := HX5.out.blk.cell 2
          have x6 : w8.cell? ⟨g, 6, none⟩ = some (.int .i64 (code' : Int)) := HX5.out.blk.cell 6
          go_wp2_with fail
          go_quiet (fail)
          have HBE := Lib.hid (HX5.out.below.trans ((quiet_below' w8 nq).mono HX5.out.below.size))
          clear x2 x6
          go_wp2_with fail
          go_ret3
          exact ⟨HBE.out, .inr ⟨ov', code', rfl, HBD.out.1, HBD.out.2⟩⟩
        | true =>
          have HGD := Lib.hid (HR5.out.1 rfl)
          have hp8 := HX5.out.lt
          by_cases ha1 : a0 = 1
          · have g1 : ((a0 : Int) == 1) = true := by simp; omega
            subst ha1
            have HE : Hid (0 < p' ∧ ∃ s', InfMath.Steps s s' ∧ St1 l p' out' wide S most true s') := Lib.hid ⟨by have := HGD.out.1; omega, HGD.out.2.2⟩
            have x2 : w8.cell? ⟨g, 2, none⟩ = some ov' := HX5.out.blk.cell 2
            have x1 : w8.cell? ⟨g, 1, none⟩ = some (.int .i64 (p' : Int)) := HX5.out.blk.cell 1
            have e1 : IntKind.i64.wrap ((p' : Int) + 7) = (p' : Int) + 7 := IntWalk.i64_in _ (by omega)
            have e2 : (0 : Int) ≤ (p' : Int) + 7 := by omega
            go_wp2_with fail
            go_quiet (fail)
            have HBE := Lib.hid (HX5.out.below.trans ((quiet_below' w8 nq).mono HX5.out.below.size))
            have HOE := Lib.hid (HX5.out.own.below (Nat.le_refl _) (quiet_below' w8 nq))
            clear x1 x2 e1 e2
            go_wp2_with fail
            go_ret3
            exact ⟨HBE.out, .inl ⟨ov', out', p', by simp, HOE.out, HE.out.1, hp8, HE.out.2⟩⟩
          · have g1 : ((a0 : Int) == 1) = false := by simp; omega
            have hf : (a0 == 1) = false := by simpa using ha1
            have HST2 : Hid (∃ fin s', InfMath.Steps s s' ∧ Stn 1 l p' out' wide S most fin s') := Lib.hid (by
              obtain ⟨_, _, s', hs, h1⟩ := HGD.out
              rw [hf] at h1
              exact ⟨false, s', hs, h1.bd, h1.next, h1.final⟩)
            have hpp := HGD.out.1
            have hol := HGD.out.2.1
            have HPC := Lib.hid (posAt_of HX5.out)
            clear HGD HR5 hf ha1
            go_wp2_with fail
            go_roundw
            case rel => exact ⟨p', ov', out', code', hol, HX5, HST2⟩
            case measure => rw [HPA.out, HPC.out]; omega
end Go.Proofs.YtdbcendnibgcaaaGreatDoor.RfC
end

section
/-
  The document's own inflate: All, of bytes that the machine reads to an end.
-/
namespace Go.Proofs.YtdbcendnibgcaaaGreatDoor.RfC
open Go.RowKit Go.My BitMath CanMath TabMath WinMath CanC RefC
open InfMath (Stn St1 Bad)

/-- The machine over bytes that are all there. -/
abbrev bgy (wide : Bool) (S most : Nat) (l : List UInt8) (n : Nat) : InfMath.M := { InfMath.start wide S most with bits := bitsOf l, pushed := n }
theorem bgy_open (wide : Bool) (S most : Nat) (l : List UInt8) : Stn 1 l 0 [] wide S most false (bgy wide S most l l.length) :=
  ⟨⟨rfl, rfl, rfl, rfl, rfl, rfl, rfl, rfl⟩, rfl, rfl⟩
set_option maxHeartbeats 2000000 in
theorem all_ends {a : Option Addr} {len cap : Nat} {l : List UInt8} {B : List UInt8} (wide : Bool) (S most : Nat) (w0 : World) (hb : Bytes w0 a len cap l) (hl : len ≤ 100000) (hm : most ≤ 1073741824) (h0 : 0 < S) (hS2 : S ≤ 65536) (hE : ∃ t, InfMath.Ends (bgy wide S most l l.length) t 0 ∧ t.out = B) :
    Calls Tryz.prog 18 #[.slice a len cap, .bool wide, .int .i64 (S : Int), .int .i64 (most : Int)] w0 fun e w' =>
      ∃ (ov : Value) (n : Int), e = .returned (.tuple #[ov, .int .i64 n, .int .i64 0]) ∧ Own 5 w0.heap.size w' ov B ∧ Below w0.heap.size w0 w' := by
  have HR := Lib.hid (run_ref (S := S) w0 hb hl (bgy_open wide S most l) hm hS2)
  have HE := Lib.hid hE
  clear hb hE
  have g1 : decide ((S : Int) < 1) = false := by simp; omega
  have g2 : decide ((65536 : Int) < (S : Int)) = false := by simp; omega
  have g3 : decide ((most : Int) < 0) = false := by simp
  have g4 : decide ((1073741824 : Int) < (most : Int)) = false := by simp; omega
  go_enter Tryz.func18, Tryz.ntmps18
  go_wp2_with fail
  refine HR.out.mono ?_
  clear HR g1 g2 g3 g4
  rintro e w1 ⟨hbl, ⟨ov, out, p, rfl, ho, hp0, hp8, hst⟩ | ⟨ov, c, rfl, hc, hbad⟩⟩
  · obtain ⟨s', hs, h1⟩ := hst
    obtain ⟨t, ht, hto⟩ := HE.out
    have he : InfMath.Ends _ s' 0 := ⟨hs, InfMath.over_halts (by rw [h1.next]; rfl)⟩
    obtain ⟨rfl, -⟩ := he.det ht
    have hob : out = B := by rw [← hto, h1.bd.eo]
    rw [hob] at ho
    have H1 := Lib.hid (And.intro hbl ho)
    clear hbl ho hp0 hp8 hs h1 ht hto he hob
    obtain ⟨U, hU⟩ : ∃ U, U = (p + 7) / 8 := ⟨_, rfl⟩
    rw [← hU]
    clear hU
    go_wp2_with fail
    go_ret3
    exact ⟨ov, _, rfl, H1.out.2, H1.out.1⟩
  · exfalso
    obtain ⟨t, ht, hto⟩ := HE.out
    obtain ⟨u, d, hu, hd⟩ := hbad
    exact hd (hu.det ht).2
end Go.Proofs.YtdbcendnibgcaaaGreatDoor.RfC
end
