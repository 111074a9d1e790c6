import Derived.Test.YtehlgnjbmdaakaaDoorClkH
import Derived.Test.YtehlgnjbmdaakaaDoorClkVp
namespace Go.Proofs.YtehlgnjbmdaakaaDoor.ClkC
open Go.RowKit Go.My Flt NumMath Txt Clk

def strLen : Value → Nat | .string s => s.size | _ => 0
theorem chr_small (d : Nat) (h : d < 10) : Lib.decDigits d = [chr d] := by rw [dec_dg 1 d (by omega) (by omega)]; unfold dg; rw [if_pos h]
theorem gen_next {n r : Nat} (h0 : r ≠ 0) (hr : r < 512) (h : r * 10 ^ n % 512 = 0) : ∃ m, n = m + 1 ∧ gen n r = chr (r * 10 / 512) :: gen m (r * 10 % 512) ∧ r * 10 % 512 * 10 ^ m % 512 = 0 ∧ r * 10 / 512 < 10 := by
  cases n with
  | zero => exfalso; simp at h; omega
  | succ m =>
    refine ⟨m, rfl, by rw [gen, if_neg h0], ?_, by omega⟩
    rw [Nat.pow_succ, Nat.mul_comm (10 ^ m) 10, ← Nat.mul_assoc] at h
    rw [Nat.mul_mod, Nat.mod_mod, ← Nat.mul_mod]
    exact h
theorem ends9 (r : Nat) : r * 10 ^ 9 % 512 = 0 := by
  rw [show (10 : Nat) ^ 9 = 1953125 * 512 from rfl, ← Nat.mul_assoc, Nat.mul_mod_left]
set_option maxRecDepth 100000 in
set_option maxHeartbeats 1000000 in
set_option maxRecDepth 100000 in
set_option maxHeartbeats 1000000 in
set_option maxRecDepth 100000 in
set_option maxHeartbeats 1000000 in
theorem reftext_neg (t a : Nat) (w : World) (hP : Pow w) (h2 : a ≤ 4398046511104) (hp : fineP t = -(a : Int)) (h1 : 0 < a) :
    Calls Tryd.prog 24 #[.float .f64 t] w fun e w' => e = .returned (.string ⟨([45] ++ (Lib.decDigits (a / 512) ++ fracT (a % 512))).toArray⟩) ∧ Below w.heap.size w w' := by
  have hF := parts_any t w
  rw [hp] at hF
  have HPW := Lib.hid hP
  have HF := Lib.hid hF
  clear hP hF hp
  obtain ⟨TL, hTL⟩ : ∃ l, l = [45] ++ (Lib.decDigits (a / 512) ++ fracT (a % 512)) := ⟨_, rfl⟩
  rw [← hTL]
  obtain ⟨T, hT⟩ : ∃ r : ByteArray, r = ⟨TL.toArray⟩ := ⟨_, rfl⟩
  rw [← hT]
  have HT := Lib.hid hT
  have HTL := Lib.hid hTL
  clear hT hTL
  have hlt0 : -(a : Int) < 0 := by omega
  go_enter Tryd.func24, Tryd.ntmps24
  go_wp2_with fail
  refine HF.out.mono ?_
  rintro e w' ⟨rfl, rfl⟩
  go_wp2_with fail
  refine (itoa_at _ (a / 512) w (by omega) (by omega) HPW.out).mono ?_
  rintro e w1 ⟨rfl, b1⟩
  have hsz1 := dec_size (a / 512) (by omega)
  obtain ⟨r1, hr1⟩ : ∃ r : ByteArray, r = ⟨(Lib.decDigits (a / 512)).toArray⟩ := ⟨_, rfl⟩
  rw [← hr1] at hsz1 ⊢
  have HR1 := Lib.hid hr1
  clear hr1
  by_cases h0 : a % 512 = 0
  · have h0' : (a : Int) % 512 = 0 := by omega
    have HSTART : Hid (((⟨#[45]⟩ ++ r1) : ByteArray).data.toList ++ gen 9 0 = TL) := Lib.hid (by
      rw [HTL.out, h0]; unfold fracT; rw [ByteArray.data_append, HR1.out]; simp [gen])
    go_wp2_with fail
    have H0 := Lib.hid h0'
    clear h0 h0'
    go_loopw [4, 5] (fun sv rv wr => ∃ (r n : Nat) (q : ByteArray), sv = .string q ∧ rv = .int .i64 (r : Int) ∧ r < 512 ∧ q.size + n ≤ 60 ∧ Hid (q.data.toList ++ gen n r = TL) ∧ Hid (r * 10 ^ n % 512 = 0) ∧ Hid (Below w.heap.size w wr)) (fun sv _ _ => 100 - strLen sv)
    case atStart => exact ⟨0, 9, _, rfl, by first | (rw [H0.out]; rfl) | go_num, by omega, by (first | omega | (rw [ba_size]; have : (⟨#[45]⟩ : ByteArray).size = 1 := rfl; have : (⟨#[]⟩ : ByteArray).size = 0 := rfl; omega)), HSTART, Lib.hid (ends9 _), Lib.hid b1⟩
    case round =>
      clear HSTART
      obtain ⟨r, n, q, rfl, rfl, hr, hqs, HQ, HM, HB⟩ := hrel
      by_cases h0 : r = 0
      · subst h0
        go_wp2_with fail
        go_ret
        exact ⟨ret_str (by rw [HT.out, ← HQ.out]; cases n <;> simp [gen]), HB.out⟩
      · obtain ⟨m, rfl, hg, hm, hd⟩ := gen_next h0 hr HM.out
        have hpos : (0 : Int) < (r : Int) := by omega
        have HG := Lib.hid hg
        have HMM := Lib.hid hm
        have HPP := Lib.hid (HPW.out.below HB.out)
        clear hg hm
        go_wp2_with fail
        refine (itoa_at _ (r * 10 / 512) _ (by omega) (by omega) HPP.out).mono ?_
        rintro e w2 ⟨rfl, b2⟩
        rw [chr_small _ hd]
        have HB2 := Lib.hid (HB.out.trans (b2.mono HB.out.size))
        clear b2
        obtain ⟨c1, hc1⟩ : ∃ c : ByteArray, c = ⟨[chr (r * 10 / 512)].toArray⟩ := ⟨_, rfl⟩
        rw [← hc1]
        have hcs : c1.size = 1 := by rw [hc1]; rfl
        have HC := Lib.hid hc1
        clear hc1
        go_wp2_with fail
        go_roundw
        case rel =>
          refine ⟨r * 10 % 512, m, _, rfl, by go_num, by omega, by rw [ba_size, hcs]; omega, Lib.hid ?_, HMM, HB2⟩
          rw [← HQ.out, HG.out, ByteArray.data_append, HC.out]
          simp
        case measure => simp only [strLen]; rw [ba_size, hcs]; omega
  · have h0' : ¬ (a : Int) % 512 = 0 := by omega
    have hgt : (0 : Int) < (a : Int) % 512 := by omega
    have HSTART : Hid ((((⟨#[45]⟩ ++ r1) ++ ⟨#[46]⟩ : ByteArray)).data.toList ++ gen 9 (a % 512) = TL) := Lib.hid (by
      rw [HTL.out]; unfold fracT; rw [if_neg h0, ByteArray.data_append, ByteArray.data_append, HR1.out]; simp)
    go_wp2_with fail
    clear h0 h0' hgt
    go_loopw [4, 5] (fun sv rv wr => ∃ (r n : Nat) (q : ByteArray), sv = .string q ∧ rv = .int .i64 (r : Int) ∧ r < 512 ∧ q.size + n ≤ 60 ∧ Hid (q.data.toList ++ gen n r = TL) ∧ Hid (r * 10 ^ n % 512 = 0) ∧ Hid (Below w.heap.size w wr)) (fun sv _ _ => 100 - strLen sv)
    case atStart => exact ⟨a % 512, 9, _, rfl, by go_num, by omega, by (first | (rw [ba_size, ba_size]; have : (⟨#[45]⟩ : ByteArray).size = 1 := rfl; have : (⟨#[]⟩ : ByteArray).size = 0 := rfl; have : (⟨#[46]⟩ : ByteArray).size = 1 := rfl; omega) | (rw [ba_size]; have : (⟨#[46]⟩ : ByteArray).size = 1 := rfl; omega)), HSTART, Lib.hid (ends9 _), Lib.hid b1⟩
    case round =>
      clear HSTART
      obtain ⟨r, n, q, rfl, rfl, hr, hqs, HQ, HM, HB⟩ := hrel
      by_cases h0 : r = 0
      · subst h0
        go_wp2_with fail
        go_ret
        exact ⟨ret_str (by rw [HT.out, ← HQ.out]; cases n <;> simp [gen]), HB.out⟩
      · obtain ⟨m, rfl, hg, hm, hd⟩ := gen_next h0 hr HM.out
        have hpos : (0 : Int) < (r : Int) := by omega
        have HG := Lib.hid hg
        have HMM := Lib.hid hm
        have HPP := Lib.hid (HPW.out.below HB.out)
        clear hg hm
        go_wp2_with fail
        refine (itoa_at _ (r * 10 / 512) _ (by omega) (by omega) HPP.out).mono ?_
        rintro e w2 ⟨rfl, b2⟩
        rw [chr_small _ hd]
        have HB2 := Lib.hid (HB.out.trans (b2.mono HB.out.size))
        clear b2
        obtain ⟨c1, hc1⟩ : ∃ c : ByteArray, c = ⟨[chr (r * 10 / 512)].toArray⟩ := ⟨_, rfl⟩
        rw [← hc1]
        have hcs : c1.size = 1 := by rw [hc1]; rfl
        have HC := Lib.hid hc1
        clear hc1
        go_wp2_with fail
        go_roundw
        case rel =>
          refine ⟨r * 10 % 512, m, _, rfl, by go_num, by omega, by rw [ba_size, hcs]; omega, Lib.hid ?_, HMM, HB2⟩
          rw [← HQ.out, HG.out, ByteArray.data_append, HC.out]
          simp
        case measure => simp only [strLen]; rw [ba_size, hcs]; omega
set_option maxRecDepth 100000 in
set_option maxHeartbeats 1000000 in
theorem reftext_pos (t a : Nat) (w : World) (hP : Pow w) (h2 : a ≤ 4398046511104) (hp : fineP t = (a : Int)) :
    Calls Tryd.prog 24 #[.float .f64 t] w fun e w' => e = .returned (.string ⟨(Lib.decDigits (a / 512) ++ fracT (a % 512)).toArray⟩) ∧ Below w.heap.size w w' := by
  have hF := parts_any t w
  rw [hp] at hF
  have HPW := Lib.hid hP
  have HF := Lib.hid hF
  clear hP hF hp
  obtain ⟨TL, hTL⟩ : ∃ l, l = Lib.decDigits (a / 512) ++ fracT (a % 512) := ⟨_, rfl⟩
  rw [← hTL]
  obtain ⟨T, hT⟩ : ∃ r : ByteArray, r = ⟨TL.toArray⟩ := ⟨_, rfl⟩
  rw [← hT]
  have HT := Lib.hid hT
  have HTL := Lib.hid hTL
  clear hT hTL
  go_enter Tryd.func24, Tryd.ntmps24
  go_wp2_with fail
  refine HF.out.mono ?_
  rintro e w' ⟨rfl, rfl⟩
  go_wp2_with fail
  refine (itoa_at _ (a / 512) w (by omega) (by omega) HPW.out).mono ?_
  rintro e w1 ⟨rfl, b1⟩
  have hsz1 := dec_size (a / 512) (by omega)
  obtain ⟨r1, hr1⟩ : ∃ r : ByteArray, r = ⟨(Lib.decDigits (a / 512)).toArray⟩ := ⟨_, rfl⟩
  rw [← hr1] at hsz1 ⊢
  have HR1 := Lib.hid hr1
  clear hr1
  by_cases h0 : a % 512 = 0
  · have h0' : (a : Int) % 512 = 0 := by omega
    have HSTART : Hid (((⟨#[]⟩ ++ r1) : ByteArray).data.toList ++ gen 9 0 = TL) := Lib.hid (by
      rw [HTL.out, h0]; unfold fracT; rw [ByteArray.data_append, HR1.out]; simp [gen])
    go_wp2_with fail
    have H0 := Lib.hid h0'
    clear h0 h0'
    go_loopw [4, 5] (fun sv rv wr => ∃ (r n : Nat) (q : ByteArray), sv = .string q ∧ rv = .int .i64 (r : Int) ∧ r < 512 ∧ q.size + n ≤ 60 ∧ Hid (q.data.toList ++ gen n r = TL) ∧ Hid (r * 10 ^ n % 512 = 0) ∧ Hid (Below w.heap.size w wr)) (fun sv _ _ => 100 - strLen sv)
    case atStart => exact ⟨0, 9, _, rfl, by first | (rw [H0.out]; rfl) | go_num, by omega, by (first | omega | (rw [ba_size]; have : (⟨#[45]⟩ : ByteArray).size = 1 := rfl; have : (⟨#[]⟩ : ByteArray).size = 0 := rfl; omega)), HSTART, Lib.hid (ends9 _), Lib.hid b1⟩
    case round =>
      clear HSTART
      obtain ⟨r, n, q, rfl, rfl, hr, hqs, HQ, HM, HB⟩ := hrel
      by_cases h0 : r = 0
      · subst h0
        go_wp2_with fail
        go_ret
        exact ⟨ret_str (by rw [HT.out, ← HQ.out]; cases n <;> simp [gen]), HB.out⟩
      · obtain ⟨m, rfl, hg, hm, hd⟩ := gen_next h0 hr HM.out
        have hpos : (0 : Int) < (r : Int) := by omega
        have HG := Lib.hid hg
        have HMM := Lib.hid hm
        have HPP := Lib.hid (HPW.out.below HB.out)
        clear hg hm
        go_wp2_with fail
        refine (itoa_at _ (r * 10 / 512) _ (by omega) (by omega) HPP.out).mono ?_
        rintro e w2 ⟨rfl, b2⟩
        rw [chr_small _ hd]
        have HB2 := Lib.hid (HB.out.trans (b2.mono HB.out.size))
        clear b2
        obtain ⟨c1, hc1⟩ : ∃ c : ByteArray, c = ⟨[chr (r * 10 / 512)].toArray⟩ := ⟨_, rfl⟩
        rw [← hc1]
        have hcs : c1.size = 1 := by rw [hc1]; rfl
        have HC := Lib.hid hc1
        clear hc1
        go_wp2_with fail
        go_roundw
        case rel =>
          refine ⟨r * 10 % 512, m, _, rfl, by go_num, by omega, by rw [ba_size, hcs]; omega, Lib.hid ?_, HMM, HB2⟩
          rw [← HQ.out, HG.out, ByteArray.data_append, HC.out]
          simp
        case measure => simp only [strLen]; rw [ba_size, hcs]; omega
  · have h0' : ¬ (a : Int) % 512 = 0 := by omega
    have hgt : (0 : Int) < (a : Int) % 512 := by omega
    have HSTART : Hid ((((⟨#[]⟩ ++ r1) ++ ⟨#[46]⟩ : ByteArray)).data.toList ++ gen 9 (a % 512) = TL) := Lib.hid (by
      rw [HTL.out]; unfold fracT; rw [if_neg h0, ByteArray.data_append, ByteArray.data_append, HR1.out]; simp)
    go_wp2_with fail
    clear h0 h0' hgt
    go_loopw [4, 5] (fun sv rv wr => ∃ (r n : Nat) (q : ByteArray), sv = .string q ∧ rv = .int .i64 (r : Int) ∧ r < 512 ∧ q.size + n ≤ 60 ∧ Hid (q.data.toList ++ gen n r = TL) ∧ Hid (r * 10 ^ n % 512 = 0) ∧ Hid (Below w.heap.size w wr)) (fun sv _ _ => 100 - strLen sv)
    case atStart => exact ⟨a % 512, 9, _, rfl, by go_num, by omega, by (first | (rw [ba_size, ba_size]; have : (⟨#[45]⟩ : ByteArray).size = 1 := rfl; have : (⟨#[]⟩ : ByteArray).size = 0 := rfl; have : (⟨#[46]⟩ : ByteArray).size = 1 := rfl; omega) | (rw [ba_size]; have : (⟨#[46]⟩ : ByteArray).size = 1 := rfl; omega)), HSTART, Lib.hid (ends9 _), Lib.hid b1⟩
    case round =>
      clear HSTART
      obtain ⟨r, n, q, rfl, rfl, hr, hqs, HQ, HM, HB⟩ := hrel
      by_cases h0 : r = 0
      · subst h0
        go_wp2_with fail
        go_ret
        exact ⟨ret_str (by rw [HT.out, ← HQ.out]; cases n <;> simp [gen]), HB.out⟩
      · obtain ⟨m, rfl, hg, hm, hd⟩ := gen_next h0 hr HM.out
        have hpos : (0 : Int) < (r : Int) := by omega
        have HG := Lib.hid hg
        have HMM := Lib.hid hm
        have HPP := Lib.hid (HPW.out.below HB.out)
        clear hg hm
        go_wp2_with fail
        refine (itoa_at _ (r * 10 / 512) _ (by omega) (by omega) HPP.out).mono ?_
        rintro e w2 ⟨rfl, b2⟩
        rw [chr_small _ hd]
        have HB2 := Lib.hid (HB.out.trans (b2.mono HB.out.size))
        clear b2
        obtain ⟨c1, hc1⟩ : ∃ c : ByteArray, c = ⟨[chr (r * 10 / 512)].toArray⟩ := ⟨_, rfl⟩
        rw [← hc1]
        have hcs : c1.size = 1 := by rw [hc1]; rfl
        have HC := Lib.hid hc1
        clear hc1
        go_wp2_with fail
        go_roundw
        case rel =>
          refine ⟨r * 10 % 512, m, _, rfl, by go_num, by omega, by rw [ba_size, hcs]; omega, Lib.hid ?_, HMM, HB2⟩
          rw [← HQ.out, HG.out, ByteArray.data_append, HC.out]
          simp
        case measure => simp only [strLen]; rw [ba_size, hcs]; omega

theorem reftext_any (t : Nat) (w : World) (hP : Pow w) :
    Calls Tryd.prog 24 #[.float .f64 t] w fun e w' => e = .returned (.string ⟨(textF (fineP t)).toArray⟩) ∧ Below w.heap.size w w' := by
  have hb := fineP_le t
  unfold textF
  by_cases hneg : fineP t < 0
  · rw [if_pos hneg]
    exact reftext_neg t (fineP t).natAbs w hP (by omega) (by omega) (by omega)
  · rw [if_neg hneg, List.nil_append]
    exact reftext_pos t (fineP t).natAbs w hP (by omega) (by omega)
end Go.Proofs.YtehlgnjbmdaakaaDoor.ClkC
