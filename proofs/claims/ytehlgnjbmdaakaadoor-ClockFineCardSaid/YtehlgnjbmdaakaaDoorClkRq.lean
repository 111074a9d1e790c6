import Derived.Test.YtehlgnjbmdaakaaDoorClkRp
import Derived.Test.YtehlgnjbmdaakaaDoorClkH
import Derived.Test.YtehlgnjbmdaakaaDoorClkV
import Derived.Test.YtehlgnjbmdaakaaDoorClkW
namespace Go.Proofs.YtehlgnjbmdaakaaDoor.ClkC
open Go.RowKit Go.My Flt NumMath Txt Clk

set_option maxRecDepth 100000 in
set_option maxHeartbeats 4000000 in
theorem refparse_none (w : World) :
    Calls Tryd.prog 19 #[.string ByteArray.empty] w fun e w' => e = .returned (.tuple #[.float .f64 (fl (parseP [])), .int .i64 ((parseE [] : Nat) : Int)]) ∧ w = w' := by
  have HE : Hid (parseE [] = 2) := Lib.hid (by decide)
  have HP : Hid (parseP [] = 0) := Lib.hid (if_neg (by rw [HE.out]; decide))
  have hz : ByteArray.empty.size = 0 := rfl
  obtain ⟨s, hs⟩ : ∃ s, s = ByteArray.empty := ⟨_, rfl⟩
  rw [← hs] at hz ⊢
  clear hs
  go_enter Tryd.func19, Tryd.ntmps19
  go_wp2_with fail
  go_loop [4, 6, 8] (fun iv nv ov => iv = .int .i64 0 ∧ nv = .int .i64 0 ∧ ov = .bool false) (fun _ _ _ => 0)
  case atStart => exact ⟨rfl, rfl, rfl⟩
  case round =>
    obtain ⟨rfl, rfl, rfl⟩ := hrel
    go_wp2_with fail
    go_ret2
    exact ⟨ret_parse_err HP.out HE.out, rfl⟩

theorem head_at (s : ByteArray) (h0 : 0 < s.size) : s.data.toList.head? = some s[0] := by
  have hl : 0 < s.data.toList.length := by rw [← Lib.size_eq]; exact h0
  rw [List.head?_eq_getElem?, List.getElem?_eq_getElem hl]
  rfl
theorem refparse_any (s : ByteArray) (w : World) (hs : s.size ≤ 1000000) :
    Calls Tryd.prog 19 #[.string s] w fun e w' => e = .returned (.tuple #[.float .f64 (fl (parseP s.data.toList)), .int .i64 ((parseE s.data.toList : Nat) : Int)]) ∧ w = w' := by
  by_cases h0 : 0 < s.size
  · have hh := head_at s h0
    have hlen : s.data.toList.length = s.size := (Lib.size_eq s).symm
    by_cases h45 : s[0] = 45
    · have hneg : neg s.data.toList = true := by unfold neg; rw [hh, h45]; rfl
      have hm : Txt.num s.data.toList = s.data.toList.tail := by unfold Txt.num; rw [if_pos hneg]
      refine refparse_neg s _ _ w hs h0 h45 (Lib.hid hm) (Lib.hid hneg) (Lib.hid (by rw [List.length_tail, hlen])) (Lib.hid fun i h1 h2 h3 => ?_)
      rw [List.getElem_tail]
      have hx : i - 1 + 1 = i := by omega
      simp only [hx]
      rfl
    · have hneg : neg s.data.toList = false := by
        unfold neg; rw [hh]
        simpa using h45
      have hm : Txt.num s.data.toList = s.data.toList := by unfold Txt.num; rw [hneg]; rfl
      exact refparse_pos s _ _ w hs h0 h45 (Lib.hid hm) (Lib.hid hneg) (Lib.hid (by rw [hlen]; omega)) (Lib.hid fun i h1 h2 h3 => rfl)
  · have he : s = ByteArray.empty := by
      apply ByteArray.ext
      have : s.data.toList = [] := List.eq_nil_of_length_eq_zero (by rw [← Lib.size_eq]; omega)
      simpa using this
    subst he
    exact refparse_none w

theorem parseP_le (l : List UInt8) : (parseP l).natAbs ≤ 4398046512000 := by
  unfold parseP
  by_cases h : parseE l = 0
  · rw [if_pos h]
    have hd : decV (wholeL l) ≤ 8589934592 ∧ fracS (fracL l) < 512 := by
      unfold parseE at h
      by_cases h1 : decE (wholeL l) = 2 ∨ decE (fracL l) = 2
      · rw [if_pos h1] at h; cases h
      · rw [if_neg h1] at h
        by_cases h2 : decE (wholeL l) ≠ 0 ∨ 8589934592 < decV (wholeL l) ∨ (decV (wholeL l) = 8589934592 ∧ (0 < fracS (fracL l) ∨ fracX (fracL l) = false))
        · rw [if_pos h2] at h; cases h
        · exact ⟨by omega, fracS_lt _ (all_of_dec (fun e => h1 (.inr e)))⟩
    obtain ⟨h1, h2⟩ := hd
    split
    · split <;> omega
    · omega
  · rw [if_neg h]; decide

set_option maxRecDepth 100000 in
set_option maxHeartbeats 8000000 in
theorem fine_law (t : Nat) (s : ByteArray) (w : World) (hP : Pow w) :
    Calls Tryd.prog 5 #[.float .f64 t, .string s] w fun e w' => e = .returned (.bool true) ∧ Below w.heap.size w w' := by
  have HPW := Lib.hid hP
  clear hP
  have hb := fineP_le t
  obtain ⟨p, hp⟩ : ∃ p, p = fineP t := ⟨_, rfl⟩
  have HF := Lib.hid (fun w => fine_any t w)
  have HG := Lib.hid (fun w => reffine_any t w)
  have HT := Lib.hid (fun w hP => text_any t w hP)
  have HU := Lib.hid (fun w hP => reftext_any t w hP)
  rw [← hp] at hb HF HG HT HU
  clear hp
  have HSp := Lib.hid (fun w => same_fl p w (by omega))
  obtain ⟨T, hT⟩ : ∃ r : ByteArray, r = ⟨(textF p).toArray⟩ := ⟨_, rfl⟩
  rw [← hT] at HT HU
  clear hT
  by_cases h100 : s.size ≤ 100
  · have HA := Lib.hid (fun w => parse_any s w (by omega))
    have HB := Lib.hid (fun w => refparse_any s w (by omega))
    have hq := parseP_le s.data.toList
    obtain ⟨q, hq2⟩ : ∃ q, q = parseP s.data.toList := ⟨_, rfl⟩
    obtain ⟨e, he⟩ : ∃ e, e = parseE s.data.toList := ⟨_, rfl⟩
    rw [← hq2, ← he] at HA HB
    rw [← hq2] at hq
    clear hq2 he
    have HSq := Lib.hid (fun w => same_fl q w (by omega))
    go_enter Tryd.func5, Tryd.ntmps5
    go_wp2_with fail
    refine (HA.out w).mono ?_
    rintro _ w1 ⟨rfl, b1⟩
    go_wp2_with fail
    refine (HB.out w1).mono ?_
    rintro _ w' ⟨rfl, rfl⟩
    go_wp2_with fail
    refine (told_any w1 (HPW.out.below b1)).mono ?_
    rintro _ w2 ⟨rfl, b2⟩
    have B2 := b1.trans (b2.mono b1.size)
    clear b1 b2
    go_wp2_with fail
    refine (HF.out w2).mono ?_
    rintro _ w' ⟨rfl, rfl⟩
    go_wp2_with fail
    refine (HG.out w2).mono ?_
    rintro _ w' ⟨rfl, rfl⟩
    go_wp2_with fail
    refine (HSp.out w2).mono ?_
    rintro _ w' ⟨rfl, rfl⟩
    go_wp2_with fail
    refine (HT.out w2 (HPW.out.below B2)).mono ?_
    rintro _ w3 ⟨rfl, b3⟩
    have B3 := B2.trans (b3.mono B2.size)
    clear B2 b3
    go_wp2_with fail
    refine (HU.out w3 (HPW.out.below B3)).mono ?_
    rintro _ w4 ⟨rfl, b4⟩
    have B4 := B3.trans (b4.mono B3.size)
    clear B3 b4
    go_wp2_with fail
    refine (HSq.out w4).mono ?_
    rintro _ w' ⟨rfl, rfl⟩
    go_wp2_with fail
    go_ret
    exact ⟨rfl, B4⟩
  · go_enter Tryd.func5, Tryd.ntmps5
    go_wp2_with fail
    refine (told_any w HPW.out).mono ?_
    rintro _ w1 ⟨rfl, b1⟩
    go_wp2_with fail
    go_ret
    exact ⟨rfl, b1⟩
end Go.Proofs.YtehlgnjbmdaakaaDoor.ClkC
