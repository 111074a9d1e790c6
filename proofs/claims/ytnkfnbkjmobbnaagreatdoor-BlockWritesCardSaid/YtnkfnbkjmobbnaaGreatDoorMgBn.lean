import Derived.Test.YtnkfnbkjmobbnaaGreatDoorMgJ

section
/-
  law 14's from, at any bit of a byte.
-/
namespace Go.Proofs.YtnkfnbkjmobbnaaGreatDoor.BlkC
open Go.RowKit Go.My BitMath RefC
open InfMath (Rd fixL fixD blk bn)
open LzMath (Tok ex)

/-- A block of no tokens by the fixed codes. -/
def emp : List Bool := [false, true, false, false, false, false, false, false, false, false]
def reps : Nat → List Bool
  | 0 => []
  | j + 1 => reps j ++ emp
theorem reps_len (j : Nat) : (reps j).length = 10 * j := by
  induction j with
  | zero => rfl
  | succ j ih => rw [reps, List.length_append, ih]; show 10 * j + 10 = _; omega
theorem emp_is (wide : Bool) : lows 3 (bn 1 false) ++ blk fixL fixD wide (fun _ => (⟨0, 0, 0⟩ : Tok)) 0 = emp := by cases wide <;> decide +kernel
theorem emp_rd (wide : Bool) (p : Nat) : Rd wide p emp [] false := by
  rw [← emp_is wide]
  exact InfMath.Rd.fixed (wide := wide) (p := p) (last := false) (f := fun _ => (⟨0, 0, 0⟩ : Tok)) (n := 0) (LzMath.good_zero _ _)
theorem reps_rd (wide : Bool) (j : Nat) (p : Nat) : Rd wide p (reps j) [] false := by
  induction j with
  | zero =>
    intro S most o z s _ _ _ hb
    exact ⟨s, .refl s, by rw [List.append_nil]; exact hb⟩
  | succ j ih => exact InfMath.Rd.app ih (emp_rd wide _)
/-- A block of one literal of nine bits. -/
def lit9 : List Bool := [false, true, false, true, true, false, false, true, false, false, false, false, false, false, false, false, false, false, false]
theorem lit9_is (wide : Bool) : lows 3 (bn 1 false) ++ blk fixL fixD wide (fun _ => (⟨0, 0, 144⟩ : Tok)) 1 = lit9 := by cases wide <;> decide +kernel
theorem lit9_rd (wide : Bool) (p : Nat) : Rd wide p lit9 [144] false := by
  rw [← lit9_is wide]
  have hg : LzMath.GoodT wide (fun _ => (⟨0, 0, 144⟩ : Tok)) 1 := fun i hi => ⟨.inl ⟨rfl, rfl⟩, by show (0 : Int) ≤ _; omega⟩
  exact InfMath.Rd.fixed (wide := wide) (p := p) (last := false) (f := fun _ => (⟨0, 0, 144⟩ : Tok)) (n := 1) hg
theorem txt_app (a b : List Bool) : txt a ++ txt b = txt (a ++ b) := by
  unfold txt
  exact ByteArray.ext (by simp)
theorem txt_size (a : List Bool) : (txt a).size = a.length := by
  unfold txt; show Array.size _ = _; simp
theorem emp_txt (a : List Bool) : txt a ++ ⟨#[48, 49, 48, 48, 48, 48, 48, 48, 48, 48]⟩ = txt (a ++ emp) := txt_app a emp
/-- What stands behind a front that ends at the right bit. -/
theorem front_all {wide : Bool} {k : Nat} {F L X z : List Bool} {A B : List UInt8} (hF : F.length % 8 = k) (hFr : Rd wide 0 F A false) (hL : L = X ++ z) (h8 : (k + L.length) % 8 = 0) (hr : Rd wide k X B true) :
    bitsOf (pack (F ++ L)) = (F ++ X) ++ z ∧ Rd wide 0 (F ++ X) (A ++ B) true := by
  refine ⟨?_, hFr.app (InfMath.Rd.mod hr (by rw [Nat.zero_add, hF]; omega))⟩
  rw [bitsOf_pack, pad_full _ (by rw [List.length_append]; omega), hL, List.append_assoc]
/-- What from hands back, as bytes. -/
def FromB (w : World) (B : List UInt8) (e : Ending) (w' : World) : Prop :=
  ∃ (a : Option Addr) (n c : Nat), e = .returned (.tuple #[.slice a n c, .int .i64 0]) ∧ Bytes w' a n c B ∧ Below w.heap.size w w'
set_option maxRecDepth 100000 in
set_option maxHeartbeats 4000000 in
theorem from_any (wide : Bool) (k : Nat) (L X z : List Bool) (B : List UInt8) (w : World) (hk0 : 1 ≤ k) (hk : k < 8) (hl : L.length ≤ 700000) (hL : L = X ++ z) (h8 : (k + L.length) % 8 = 0) (hr : Rd wide k X B true) (hB : B.length ≤ 1048575) :
    Calls Tryz.prog 18 #[.string (txt L), .int .i64 (k : Int), .bool wide] w (FromB w B) := by
  obtain ⟨sL, hsL⟩ : ∃ sL, sL = txt L := ⟨_, rfl⟩
  have HSL := Lib.hid hsL
  have hsz : sL.size = L.length := by rw [hsL, txt_size]
  rw [← hsL]
  have HR := Lib.hid (And.intro hL (And.intro h8 hr))
  have hkz : ((k : Int) == 0) = false := by simp; omega
  clear hsL hL h8 hr
  go_enter Tryz.func18, Tryz.ntmps18
  go_wp2_with fail
  go_loopw [8] (fun fv wr => ∃ (s : ByteArray) (j : Nat), fv = .string s ∧ s.size = j ∧ j ≤ k ∧ wr = w) (fun fv _ => match fv with | .string s => k - s.size | _ => 0)
  case atStart => exact ⟨⟨#[]⟩, 0, rfl, rfl, Nat.zero_le _, rfl⟩
  case round =>
    obtain ⟨s, j, rfl, hj, hjk, rfl⟩ := hrel
    have hmod : (j : Int).tmod 8 = (j : Int) := by rw [Int.tmod_eq_emod_of_nonneg (by omega)]; omega
    by_cases hjl : j < k
    · have hne : ((j : Int) != (k : Int)) = true := by rw [bne_iff_ne]; omega
      go_wp2_with fail
      go_roundw
      case rel => exact ⟨_, j + 1, rfl, by rw [ByteArray.size_append, hj]; rfl, by omega, trivial⟩
      case measure => simp only [ByteArray.size_append, hj]; show k - (j + 1) < k - j; omega
    · obtain rfl : j = k := by omega
      have hne : ((j : Int) != (j : Int)) = false := by simp
      clear hjk hjl
      go_wp2_with fail
      clear hne hmod hj
      go_loopw [8] (fun fv wq => ∃ (s : ByteArray) (i N r : Nat), fv = .string s ∧ wq = wr ∧ s.size = N ∧ i ≤ 40 ∧ Hid (N = 10 * i ∧ r = N % 8) ∧ Hid (s = txt (reps i)) ∧ (N : Int).tmod 8 = (r : Int) ∧ Hid ((1 < i → j ≠ 2) ∧ (2 < i → j ≠ 4) ∧ (3 < i → j ≠ 6))) (fun fv _ => match fv with | .string s => 500 - s.size | _ => 0)
      case atStart => exact ⟨⟨#[]⟩, 0, 0, 0, rfl, rfl, rfl, by omega, Lib.hid ⟨rfl, rfl⟩, Lib.hid rfl, rfl, Lib.hid ⟨by omega, by omega, by omega⟩⟩
      case round =>
        obtain ⟨t, i, N, r, rfl, rfl, ht, hi, HN, HT, hmod, HO⟩ := hrel
        by_cases hrj : r = j
        · subst hrj
          have hne : ((r : Int) != (r : Int)) = false := by simp
          have hF : (reps i).length % 8 = r := by rw [reps_len]; have := HN.out; omega
          have hfa := front_all hF (reps_rd wide i 0) HR.out.1 HR.out.2.1 HR.out.2.2
          rw [List.nil_append] at hfa
          obtain ⟨P, hP⟩ : ∃ P, P = pack (reps i ++ L) := ⟨_, rfl⟩
          rw [← hP] at hfa
          have hts : t ++ sL = txt (reps i ++ L) := by rw [HT.out, HSL.out, txt_app]
          have hPl : P.length ≤ 100000 := by rw [hP, pack_len, List.length_append, reps_len]; omega
          have hp := refbytes_any (reps i ++ L) wr (by rw [List.length_append, reps_len]; omega)
          rw [← hts, ← pack_len, ← hP] at hp
          have HP := Lib.hid hp
          have HFA := Lib.hid hfa
          have hszs : t.size + sL.size ≤ 1000000 := by have := HN.out; omega
          clear hp hfa hF hts hP HT
          go_wp2_with fail
          refine HP.out.mono ?_
          rintro e w1 ⟨rfl, ho, hb⟩
          clear HP
          obtain ⟨a1, c1, hv, hby⟩ := ho.out.bytes
          simp only [Value.slice.injEq, true_and] at hv
          obtain ⟨rfl, rfl⟩ := hv
          have HA := Lib.hid (RfC.all_shown wide 1048576 w1 hby hPl (by omega) HFA.out.1 HFA.out.2 (by omega))
          have HB := Lib.hid hb
          clear ho hb hby
          go_wp2_with fail
          refine HA.out.mono ?_
          rintro e w2 ⟨ov, n, rfl, ho, hb⟩
          have HB2 := Lib.hid (HB.out.trans (hb.mono HB.out.size))
          obtain ⟨a2, c2, rfl, hby⟩ := ho.bytes
          have HO2 := Lib.hid hby
          clear HA ho hb hby
          go_wp2_with fail
          go_ret2
          exact ⟨a2, _, c2, rfl, HO2.out, HB2.out⟩
        · have hne : ((r : Int) != (j : Int)) = true := by rw [bne_iff_ne]; omega
          have hN4 : N ≤ 400 := by have := HN.out; omega
          by_cases hb : N + 10 > 400
          · have hx : (((N : Int) + 10) % 8 != (j : Int)) = true := by rw [bne_iff_ne]; have := HN.out; have := HO.out; omega
            have HJ : Hid (j % 2 = 1) := Lib.hid (by have := HN.out; have := HO.out; omega)
            have HC := Lib.hid (refcode_any 400 9 wr (by omega) (by omega) (by omega))
            rw [show ((400 : Nat) : Int) = 400 from rfl, show ((9 : Nat) : Int) = 9 from rfl] at HC
            obtain ⟨cd, hcd⟩ : ∃ cd, cd = txt (lows 9 400).reverse := ⟨_, rfl⟩
            have hcs : cd.size = 9 := by rw [hcd]; rfl
            have HLT : Hid ((⟨#[48, 49, 48]⟩ : ByteArray) ++ cd ++ ⟨#[48, 48, 48, 48, 48, 48, 48]⟩ = txt lit9) := Lib.hid (by rw [hcd]; decide +kernel)
            rw [← hcd] at HC
            clear HT HO hcd
            go_wp2_with fail
            refine HC.out.mono ?_
            rintro e w1 ⟨rfl, rfl⟩
            clear HC
            have hgs : ((⟨#[48, 49, 48]⟩ : ByteArray) ++ cd).size = 12 := by rw [ByteArray.size_append, hcs]; rfl
            go_wp2_with fail
            clear hmod hne hrj hx ht hi hN4 hb HN
            go_loopw [8] (fun fv wq => ∃ (s : ByteArray) (i N r : Nat), fv = .string s ∧ wq = wr ∧ s.size = N ∧ i ≤ 3 ∧ Hid (N = 19 + 10 * i ∧ r = N % 8) ∧ Hid (s = txt (lit9 ++ reps i)) ∧ (N : Int).tmod 8 = (r : Int) ∧ Hid ((0 < i → j ≠ 3) ∧ (1 < i → j ≠ 5) ∧ (2 < i → j ≠ 7))) (fun fv _ => match fv with | .string s => 500 - s.size | _ => 0)
            case atStart => exact ⟨_, 0, 19, 3, rfl, rfl, by rw [HLT.out]; rfl, by omega, Lib.hid ⟨rfl, rfl⟩, Lib.hid (by rw [HLT.out]; rfl), rfl, Lib.hid ⟨by omega, by omega, by omega⟩⟩
            case round =>
              obtain ⟨t, i, N, r, rfl, rfl, ht, hi, HN, HT, hmod, HO⟩ := hrel
              have hN4 : N ≤ 49 := by have := HN.out; omega
              by_cases hrj : r = j
              · subst hrj
                have hne : ((r : Int) != (r : Int)) = false := by simp
                have hF : (lit9 ++ reps i).length % 8 = r := by rw [List.length_append, reps_len]; have := HN.out; show (19 + 10 * i) % 8 = r; omega
                have hfa := front_all hF ((lit9_rd wide 0).app (reps_rd wide i _)) HR.out.1 HR.out.2.1 HR.out.2.2
                rw [List.append_nil] at hfa
                obtain ⟨P, hP⟩ : ∃ P, P = pack ((lit9 ++ reps i) ++ L) := ⟨_, rfl⟩
                rw [← hP] at hfa
                have hts : t ++ sL = txt ((lit9 ++ reps i) ++ L) := by rw [HT.out, HSL.out, txt_app]
                have hll : ((lit9 ++ reps i) ++ L).length = 19 + 10 * i + L.length := by rw [List.length_append, List.length_append, reps_len]; rfl
                have hPl : P.length ≤ 100000 := by rw [hP, pack_len, hll]; omega
                have hp := refbytes_any ((lit9 ++ reps i) ++ L) wr (by rw [hll]; omega)
                rw [← hts, ← pack_len, ← hP] at hp
                have HP := Lib.hid hp
                have HFA := Lib.hid hfa
                have hszs : t.size + sL.size ≤ 1000000 := by omega
                clear hp hfa hF hts hP HT hll
                go_wp2_with fail
                refine HP.out.mono ?_
                rintro e w1 ⟨rfl, ho, hb⟩
                clear HP
                obtain ⟨a1, c1, hv, hby⟩ := ho.out.bytes
                simp only [Value.slice.injEq, true_and] at hv
                obtain ⟨rfl, rfl⟩ := hv
                have HA := Lib.hid (RfC.all_shown wide 1048576 w1 hby hPl (by omega) HFA.out.1 HFA.out.2 (by simp; omega))
                have HB := Lib.hid hb
                clear ho hb hby
                go_wp2_with fail
                refine HA.out.mono ?_
                rintro e w2 ⟨ov, n, rfl, ho, hb⟩
                have HB2 := Lib.hid (HB.out.trans (hb.mono HB.out.size))
                obtain ⟨a2, c2, rfl, hby⟩ := ho.bytes
                obtain ⟨m, hm⟩ : ∃ m, m = ([144] ++ B : List UInt8).length := ⟨_, rfl⟩
                have hm1 : m = B.length + 1 := by rw [hm]; simp
                rw [← hm] at hby ⊢
                obtain ⟨b2, o2, rfl⟩ := hby.some_ (by omega)
                have hmc := hby.le_cap
                have hcm := hby.cap_le
                have HO2 := Lib.hid (hby.drop 1 (by omega))
                have hz0 : ((m : Int) == 0) = false := by simp; omega
                have hz1 : (1 : Int) ≤ (m : Int) := by omega
                have hz2 : (m : Int) ≤ (c2 : Int) := by omega
                by_cases hc1 : c2 = 1
                · have hB0 : B = [] := List.eq_nil_of_length_eq_zero (by omega)
                  have HBE : Hid (Bytes w2 (some ⟨b2, o2, none⟩) (m - 1) 0 B) := Lib.hid (by
                    rw [hB0]
                    obtain rfl : m = 1 := by omega
                    exact ⟨rfl, Nat.le_refl _, by omega, (fun e => by cases e), .inl rfl⟩)
                  clear HA ho hb hby hm hm1
                  go_wp2_with fail
                  go_ret2
                  exact ⟨_, _, _, rfl, HBE.out, HB2.out⟩
                · clear HA ho hb hby hm hm1
                  go_wp2_with fail
                  go_ret2
                  exact ⟨_, _, _, rfl, HO2.out, HB2.out⟩
              · have hne : ((r : Int) != (j : Int)) = true := by rw [bne_iff_ne]; omega
                have hi2 : i < 3 := by have := HN.out; have := HO.out; have := HJ.out; omega
                have HO2 : Hid ((0 < i + 1 → j ≠ 3) ∧ (1 < i + 1 → j ≠ 5) ∧ (2 < i + 1 → j ≠ 7)) := Lib.hid (by have := HN.out; have := HO.out; omega)
                have HT2 : Hid (t ++ ⟨#[48, 49, 48, 48, 48, 48, 48, 48, 48, 48]⟩ = txt (lit9 ++ reps (i + 1))) := Lib.hid (by rw [HT.out, emp_txt, reps, List.append_assoc])
                have HN2 : Hid (N + 10 = 19 + 10 * (i + 1) ∧ (N + 10) % 8 = (N + 10) % 8) := Lib.hid ⟨by have := HN.out; omega, rfl⟩
                go_wp2_with fail
                go_roundw
                case rel => exact ⟨_, i + 1, N + 10, (N + 10) % 8, rfl, trivial, by rw [ByteArray.size_append, ht]; rfl, by omega, HN2, HT2, by rw [Int.tmod_eq_emod_of_nonneg (by omega)]; omega, HO2⟩
                case measure => simp only [ByteArray.size_append, ht]; show 500 - (N + 10) < 500 - N; omega
          · have hnext : N + 10 ≤ 400 := by omega
            have HO2 : Hid ((1 < i + 1 → j ≠ 2) ∧ (2 < i + 1 → j ≠ 4) ∧ (3 < i + 1 → j ≠ 6)) := Lib.hid (by have := HN.out; have := HO.out; omega)
            have HT2 : Hid (t ++ ⟨#[48, 49, 48, 48, 48, 48, 48, 48, 48, 48]⟩ = txt (reps (i + 1))) := Lib.hid (by rw [HT.out, emp_txt]; rfl)
            have HN2 : Hid (N + 10 = 10 * (i + 1) ∧ (N + 10) % 8 = (N + 10) % 8) := Lib.hid ⟨by have := HN.out; omega, rfl⟩
            go_wp2_with fail
            go_roundw
            case rel => exact ⟨_, i + 1, N + 10, (N + 10) % 8, rfl, trivial, by rw [ByteArray.size_append, ht]; rfl, by have := HN.out; omega, HN2, HT2, by rw [Int.tmod_eq_emod_of_nonneg (by omega)]; omega, HO2⟩
            case measure => simp only [ByteArray.size_append, ht]; show 500 - (N + 10) < 500 - N; omega
end Go.Proofs.YtnkfnbkjmobbnaaGreatDoor.BlkC
end
