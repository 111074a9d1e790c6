import Derived.Test.YtehlgnjbmdaakaaDoorClkT
import Derived.Lib.Bytealg
namespace Go.Proofs.YtehlgnjbmdaakaaDoor.ClkC
open Go.RowKit Go.My Flt NumMath Txt Go.Shelf NumC

theorem ba_extract (s : ByteArray) (a b : Nat) : s.extract a b = ⟨((s.data.toList.drop a).take (b - a)).toArray⟩ := by
  have h := Lib.extract_toList s a b
  rw [← Lib.mk_data (s.extract a b), ← Lib.toList_data, h]
theorem idx_eq (l : List UInt8) : Lib.indexByte l 46 = if l.dropWhile (· != 46) = [] then -1 else (((l.takeWhile (· != 46)).length : Nat) : Int) := by
  induction l with
  | nil => simp [Lib.indexByte]
  | cons c t ih =>
    unfold Lib.indexByte
    by_cases h : c = 46
    · subst h; simp
    · have h1 : (c == 46) = false := by simpa using h
      have h2 : (c != 46) = true := by simpa using h
      rw [h1, ih]
      simp only [List.dropWhile_cons, List.takeWhile_cons, h2, if_true]
      by_cases hd : t.dropWhile (· != 46) = []
      · rw [if_pos hd, if_pos hd]; rfl
      · rw [if_neg hd, if_neg hd]
        have : ¬ (((t.takeWhile (· != 46)).length : Nat) : Int) = -1 := by omega
        simp [this]
theorem ret_cut {a b c d : ByteArray} {x y : Bool} (h1 : a = c) (h2 : b = d) (h3 : x = y) : Ending.returned (.tuple #[.string a, .string b, .bool x]) = .returned (.tuple #[.string c, .string d, .bool y]) := by rw [h1, h2, h3]
theorem ret_pre {a c : ByteArray} {x y : Bool} (h1 : a = c) (h3 : x = y) : Ending.returned (.tuple #[.string a, .bool x]) = .returned (.tuple #[.string c, .bool y]) := by rw [h1, h3]
theorem take_while (l : List UInt8) : l.take (l.takeWhile (· != 46)).length = l.takeWhile (· != 46) := by
  have h : (l.takeWhile (· != 46) ++ l.dropWhile (· != 46)).take (l.takeWhile (· != 46)).length = l.takeWhile (· != 46) := List.take_left
  rwa [List.takeWhile_append_dropWhile] at h
theorem drop_while (l : List UInt8) : l.drop (l.takeWhile (· != 46)).length = l.dropWhile (· != 46) := by
  have h : (l.takeWhile (· != 46) ++ l.dropWhile (· != 46)).drop (l.takeWhile (· != 46)).length = l.dropWhile (· != 46) := List.drop_left
  rwa [List.takeWhile_append_dropWhile] at h

theorem cut_in (s : ByteArray) (w : World) (hs : s.size ≤ 1000000) :
    Calls Tryd.prog 49 #[.string s, .string ⟨#[46]⟩] w fun e w' => e = .returned (.tuple #[.string ⟨(s.data.toList.takeWhile (· != 46)).toArray⟩, .string ⟨(s.data.toList.dropWhile (· != 46)).tail.toArray⟩, .bool (decide (s.data.toList.dropWhile (· != 46) ≠ []))]) ∧ Below w.heap.size w w' := by
  have hI := fun w => Any.stringslite_Index_one Tryd.lays219 s 46 w
  rw [idx_eq] at hI
  by_cases hd : s.data.toList.dropWhile (· != 46) = []
  · rw [if_pos hd] at hI
    have ht : s.data.toList.takeWhile (· != 46) = s.data.toList := by
      have := List.takeWhile_append_dropWhile (p := (· != 46)) (l := s.data.toList)
      rw [hd, List.append_nil] at this
      exact this
    rw [ht, hd]
    have HI := Lib.hid hI
    clear hI hd ht
    go_enter Tryd.func49, Tryd.ntmps49
    go_wp2_with fail
    refine (HI.out w).mono ?_
    rintro e w' ⟨rfl, rfl⟩
    go_wp2_with fail
    go_ret3
    exact ⟨ret_cut (Lib.mk_data s).symm rfl rfl, Below.refl _ _⟩
  · rw [if_neg hd] at hI
    obtain ⟨k, hk⟩ : ∃ k, k = (s.data.toList.takeWhile (· != 46)).length := ⟨_, rfl⟩
    rw [← hk] at hI
    have hlen : s.data.toList.length = s.size := (Lib.size_eq s).symm
    have hks : k + 1 ≤ s.size := by
      have h1 := congrArg List.length (List.takeWhile_append_dropWhile (p := (· != 46)) (l := s.data.toList))
      have h2 : 0 < (s.data.toList.dropWhile (· != 46)).length := List.length_pos_iff.2 hd
      rw [List.length_append, hlen] at h1
      omega
    have HA := Lib.hid (take_while s.data.toList)
    have HB := Lib.hid (drop_while s.data.toList)
    rw [← hk] at HA HB
    rw [decide_eq_true hd]
    have HI := Lib.hid hI
    clear hI hd hk
    have c1 : (0 : Int) ≤ (k : Int) := by omega
    have c2 : (k : Int) ≤ (s.size : Int) := by omega
    have c3 : (0 : Int) ≤ (k : Int) + 1 := by omega
    have c4 : (k : Int) + 1 ≤ (s.size : Int) := by omega
    have HL := Lib.hid hlen
    clear hlen
    go_enter Tryd.func49, Tryd.ntmps49
    go_wp2_with fail
    refine (HI.out w).mono ?_
    rintro e w' ⟨rfl, rfl⟩
    go_wp2_with fail
    go_quiet (fail)
    go_wp2_with fail
    go_ret3
    refine ⟨ret_cut ?_ ?_ rfl, drewN_below (Below.refl _ _) _⟩
    · rw [ba_extract]
      simp only [List.drop_zero]
      rw [Nat.sub_zero, HA.out]
    · rw [ba_extract, ← HB.out, List.tail_drop, List.take_of_length_le (by rw [List.length_drop, HL.out]; omega)]
theorem cut_any (s : ByteArray) (w : World) (hs : s.size ≤ 1000000) :
    Calls Tryd.prog 38 #[.string s, .string ⟨#[46]⟩] w fun e w' => e = .returned (.tuple #[.string ⟨(s.data.toList.takeWhile (· != 46)).toArray⟩, .string ⟨(s.data.toList.dropWhile (· != 46)).tail.toArray⟩, .bool (decide (s.data.toList.dropWhile (· != 46) ≠ []))]) ∧ Below w.heap.size w w' := by
  have hC := cut_in s w hs
  generalize (⟨(s.data.toList.takeWhile (· != 46)).toArray⟩ : ByteArray) = a at *
  generalize (⟨(s.data.toList.dropWhile (· != 46)).tail.toArray⟩ : ByteArray) = b at *
  generalize decide (s.data.toList.dropWhile (· != 46) ≠ []) = c at *
  have HC := Lib.hid hC
  clear hC
  go_enter Tryd.func38, Tryd.ntmps38
  go_wp2_with fail
  refine HC.out.mono ?_
  rintro e w' ⟨rfl, hb⟩
  go_wp2_with fail
  go_ret3
  exact ⟨rfl, hb⟩

theorem hasPrefix_neg (l : List UInt8) : Lib.hasPrefix l [45] = Txt.neg l := by
  unfold Lib.hasPrefix Txt.neg
  cases l with
  | nil => rfl
  | cons c t =>
    simp only [List.isPrefixOf, List.head?_cons, Bool.and_true]
    rw [Bool.eq_iff_iff]; simp; exact eq_comm
theorem pre_in (s : ByteArray) (w : World) (hs : s.size ≤ 1000000) :
    Calls Tryd.prog 48 #[.string s, .string ⟨#[45]⟩] w fun e w' => e = .returned (.tuple #[.string ⟨(Txt.num s.data.toList).toArray⟩, .bool (Txt.neg s.data.toList)]) ∧ Below w.heap.size w w' := by
  have hH := fun w => Any.stringslite_HasPrefix Tryd.lays206 s ⟨#[45]⟩ w
  rw [show (⟨#[45]⟩ : ByteArray).data.toList = [45] from rfl, hasPrefix_neg] at hH
  have hlen : s.data.toList.length = s.size := (Lib.size_eq s).symm
  have HH := Lib.hid hH
  clear hH
  cases hn : Txt.neg s.data.toList
  · have hnum : Txt.num s.data.toList = s.data.toList := by unfold Txt.num; rw [hn]; rfl
    rw [hn] at HH
    rw [hnum]
    clear hn hnum hlen
    go_enter Tryd.func48, Tryd.ntmps48
    go_wp2_with fail
    refine (HH.out w).mono ?_
    rintro e w' ⟨rfl, rfl⟩
    go_wp2_with fail
    go_ret2
    exact ⟨ret_pre (Lib.mk_data s).symm rfl, Below.refl _ _⟩
  · have hnum : Txt.num s.data.toList = s.data.toList.tail := by unfold Txt.num; rw [hn]; rfl
    have h1 : 1 ≤ s.size := by
      rw [← hlen]
      unfold Txt.neg at hn
      cases hl : s.data.toList with
      | nil => rw [hl] at hn; cases hn
      | cons c t => simp
    rw [hn] at HH
    rw [hnum]
    have HL := Lib.hid hlen
    clear hn hnum hlen
    have c1 : (1 : Int) ≤ (s.size : Int) := by omega
    go_enter Tryd.func48, Tryd.ntmps48
    go_wp2_with fail
    refine (HH.out w).mono ?_
    rintro e w' ⟨rfl, rfl⟩
    go_wp2_with fail
    go_ret2
    refine ⟨ret_pre ?_ rfl, Below.refl _ _⟩
    rw [ba_extract, ← List.drop_one, List.take_of_length_le (by rw [List.length_drop, HL.out]; exact Nat.le_refl _)]
theorem pre_any (s : ByteArray) (w : World) (hs : s.size ≤ 1000000) :
    Calls Tryd.prog 37 #[.string s, .string ⟨#[45]⟩] w fun e w' => e = .returned (.tuple #[.string ⟨(Txt.num s.data.toList).toArray⟩, .bool (Txt.neg s.data.toList)]) ∧ Below w.heap.size w w' := by
  have hC := pre_in s w hs
  generalize (⟨(Txt.num s.data.toList).toArray⟩ : ByteArray) = a at *
  generalize Txt.neg s.data.toList = c at *
  have HC := Lib.hid hC
  clear hC
  go_enter Tryd.func37, Tryd.ntmps37
  go_wp2_with fail
  refine HC.out.mono ?_
  rintro e w' ⟨rfl, hb⟩
  go_wp2_with fail
  go_ret2
  exact ⟨rfl, hb⟩

theorem allIn_append {cs a b : List UInt8} (ha : allIn cs a = true) (hb : allIn cs b = true) : allIn cs (a ++ b) = true := by
  unfold allIn at *; rw [List.all_append, ha, hb]; rfl
theorem allIn_sub {cs a b : List UInt8} (hb : allIn cs b = true) (h : ∀ c ∈ a, c ∈ b) : allIn cs a = true := by
  unfold allIn at *
  exact List.all_eq_true.2 fun c hc => List.all_eq_true.1 hb c (h c hc)
theorem trim_sub (l : List UInt8) (c : UInt8) : ∀ x ∈ Lib.trimRightB l c, x ∈ l := fun x hx => by
  unfold Lib.trimRightB at hx
  have := (List.dropWhile_suffix (fun y => y == c) (l := l.reverse)).subset (List.mem_reverse.1 hx)
  exact List.mem_reverse.1 this
theorem nine_ok {f : List UInt8} (h : allIn decs f = true) : decV ((Lib.trimRightB f 48).take 9 ++ List.replicate (9 - ((Lib.trimRightB f 48).take 9).length) 48) = fracV (Lib.trimRightB f 48) ∧ fracV (Lib.trimRightB f 48) < 1000000000 := by
  have h1 : allIn decs ((Lib.trimRightB f 48).take 9 ++ List.replicate (9 - ((Lib.trimRightB f 48).take 9).length) 48) = true :=
    allIn_append (allIn_sub h fun c hc => trim_sub f 48 c (List.mem_of_mem_take hc)) (List.all_eq_true.2 fun c hc => by rw [List.eq_of_mem_replicate hc]; rfl)
  have hl : ((Lib.trimRightB f 48).take 9 ++ List.replicate (9 - ((Lib.trimRightB f 48).take 9).length) 48).length = 9 := by simp; omega
  have h2 : fracV (Lib.trimRightB f 48) < 1000000000 := by
    have := V_lt (dig 10) 10 ((Lib.trimRightB f 48).take 9 ++ List.replicate (9 - ((Lib.trimRightB f 48).take 9).length) 48) fun c hc => by
      have := (decs_iff c).1 (allIn_ok h1 c hc)
      unfold dig; rw [if_neg (by decide), if_pos this.2]; omega
    rw [hl] at this
    exact this
  refine ⟨?_, h2⟩
  unfold decV decR
  have hne : (Lib.trimRightB f 48).take 9 ++ List.replicate (9 - ((Lib.trimRightB f 48).take 9).length) 48 ≠ [] := fun e => by rw [e] at hl; cases hl
  rw [if_pos ⟨hne, h1⟩]
  exact if_pos (by unfold fracV dval at h2; omega)

theorem ret_steps {a b : Int} {x y : Bool} (h1 : a = b) (h3 : x = y) : Ending.returned (.tuple #[.int .i64 a, .bool x]) = .returned (.tuple #[.int .i64 b, .bool y]) := by rw [h1, h3]
set_option maxRecDepth 100000 in
theorem steps_any (s : ByteArray) (w : World) (hs : s.size ≤ 1000000) (h : allIn decs s.data.toList = true) :
    Calls Tryd.prog 40 #[.string s] w fun e w' => e = .returned (.tuple #[.int .i64 ((fracS s.data.toList : Nat) : Int), .bool (fracX s.data.toList)]) ∧ Below w.heap.size w w' := by
  obtain ⟨n1, n2⟩ := nine_ok h
  have HS : Hid (fracS s.data.toList = fracV (Lib.trimRightB s.data.toList 48) / 1953125) := Lib.hid rfl
  have HX : Hid (fracX s.data.toList = (decide ((Lib.trimRightB s.data.toList 48).length ≤ 9) && decide (fracV (Lib.trimRightB s.data.toList 48) % 1953125 = 0))) := Lib.hid rfl
  have hT := fun w => trim0 s w (by omega)
  have hgl : (Lib.trimRightB s.data.toList 48).length ≤ 1000000 := by
    have : (Lib.trimRightB s.data.toList 48).length ≤ s.data.toList.length := by
      unfold Lib.trimRightB
      rw [List.length_reverse]
      exact Nat.le_trans (List.dropWhile_suffix _).length_le (by simp)
    rw [← Lib.size_eq] at this
    omega
  clear h
  generalize Lib.trimRightB s.data.toList 48 = g at *
  generalize fracS s.data.toList = A at *
  generalize fracX s.data.toList = B at *
  generalize fracV g = v at *
  obtain ⟨r, hr⟩ : ∃ r : ByteArray, r = ⟨g.toArray⟩ := ⟨_, rfl⟩
  have hg : g = r.data.toList := by rw [hr]
  have hsz : g.length = r.size := by rw [hr, Lib.size_eq]
  rw [← hr] at hT
  rw [hsz] at hgl HX
  have HT := Lib.hid hT
  have N1 := Lib.hid n1
  have HG := Lib.hid hg
  have HSZ := Lib.hid hsz
  clear hT n1 hr hg hsz
  by_cases h9 : r.size ≤ 9
  · by_cases hx : v % 1953125 = 0
    · have hxi : (v : Int) % 1953125 = 0 := by omega
      go_enter Tryd.func40, Tryd.ntmps40
      go_wp2_with fail
      refine (HT.out w).mono ?_
      rintro e w' ⟨rfl, rfl⟩
      go_wp2_with fail
      have e1 : (min 9 (r.size : Int)).toNat = min 9 r.size := by omega
      rw [e1]
      obtain ⟨q, hq⟩ : ∃ q, q = r.extract 0 (min 9 r.size) := ⟨_, rfl⟩
      rw [← hq]
      have hqs : q.size = min 9 r.size := by rw [hq, ByteArray.size_extract]; omega
      have hql : q.data.toList = g.take 9 := by
        rw [hq, ba_extract, ← HG.out]
        simp only [List.drop_zero, Nat.sub_zero]
        by_cases hc : r.size ≤ 9
        · rw [Nat.min_eq_right hc, List.take_of_length_le (by rw [HSZ.out]; exact Nat.le_refl _), List.take_of_length_le (by rw [HSZ.out]; exact hc)]
        · rw [Nat.min_eq_left (by omega)]
      have hq9 : q.size ≤ 9 := by omega
      have HQL := Lib.hid hql
      have HQS := Lib.hid hqs
      clear hq hqs hql e1
      refine (repeat0 _ (9 - q.size) w (by have := HQS.out; omega) (by omega)).mono ?_
      rintro e w2 ⟨rfl, b2⟩
      have hsz3 : (⟨(List.replicate (9 - q.size) (48 : UInt8)).toArray⟩ : ByteArray).size ≤ 9 := by rw [Lib.size_eq]; simp
      obtain ⟨r3, hr3⟩ : ∃ r : ByteArray, r = ⟨(List.replicate (9 - q.size) (48 : UInt8)).toArray⟩ := ⟨_, rfl⟩
      rw [← hr3] at hsz3 ⊢
      have HR3 := Lib.hid hr3
      clear hr3
      go_wp2_with fail
      have hcat : decV (q ++ r3).data.toList = v := by
        rw [← N1.out, ← HQL.out, ← Lib.size_eq, ByteArray.data_append, HR3.out]
        congr 1
        simp
      have hdec := decimal_any (q ++ r3) w2 (by rw [ba_size]; omega)
      rw [hcat] at hdec
      generalize decE (q ++ r3).data.toList = E at *
      refine hdec.mono ?_
      rintro e w3 ⟨rfl, b3⟩
      clear hdec hcat HQL HR3
      go_wp2_with fail
      go_ret2
      exact ⟨ret_steps (by rw [HS.out]; omega) (by rw [HX.out, decide_eq_true h9, decide_eq_true hx]; first | rfl | simp), b2.trans (b3.mono b2.size)⟩
    · have hxi : ¬ (v : Int) % 1953125 = 0 := by omega
      go_enter Tryd.func40, Tryd.ntmps40
      go_wp2_with fail
      refine (HT.out w).mono ?_
      rintro e w' ⟨rfl, rfl⟩
      go_wp2_with fail
      have e1 : (min 9 (r.size : Int)).toNat = min 9 r.size := by omega
      rw [e1]
      obtain ⟨q, hq⟩ : ∃ q, q = r.extract 0 (min 9 r.size) := ⟨_, rfl⟩
      rw [← hq]
      have hqs : q.size = min 9 r.size := by rw [hq, ByteArray.size_extract]; omega
      have hql : q.data.toList = g.take 9 := by
        rw [hq, ba_extract, ← HG.out]
        simp only [List.drop_zero, Nat.sub_zero]
        by_cases hc : r.size ≤ 9
        · rw [Nat.min_eq_right hc, List.take_of_length_le (by rw [HSZ.out]; exact Nat.le_refl _), List.take_of_length_le (by rw [HSZ.out]; exact hc)]
        · rw [Nat.min_eq_left (by omega)]
      have hq9 : q.size ≤ 9 := by omega
      have HQL := Lib.hid hql
      have HQS := Lib.hid hqs
      clear hq hqs hql e1
      refine (repeat0 _ (9 - q.size) w (by have := HQS.out; omega) (by omega)).mono ?_
      rintro e w2 ⟨rfl, b2⟩
      have hsz3 : (⟨(List.replicate (9 - q.size) (48 : UInt8)).toArray⟩ : ByteArray).size ≤ 9 := by rw [Lib.size_eq]; simp
      obtain ⟨r3, hr3⟩ : ∃ r : ByteArray, r = ⟨(List.replicate (9 - q.size) (48 : UInt8)).toArray⟩ := ⟨_, rfl⟩
      rw [← hr3] at hsz3 ⊢
      have HR3 := Lib.hid hr3
      clear hr3
      go_wp2_with fail
      have hcat : decV (q ++ r3).data.toList = v := by
        rw [← N1.out, ← HQL.out, ← Lib.size_eq, ByteArray.data_append, HR3.out]
        congr 1
        simp
      have hdec := decimal_any (q ++ r3) w2 (by rw [ba_size]; omega)
      rw [hcat] at hdec
      generalize decE (q ++ r3).data.toList = E at *
      refine hdec.mono ?_
      rintro e w3 ⟨rfl, b3⟩
      clear hdec hcat HQL HR3
      go_wp2_with fail
      go_ret2
      exact ⟨ret_steps (by rw [HS.out]; omega) (by rw [HX.out, decide_eq_true h9, decide_eq_false hx]; first | rfl | simp [hxi]), b2.trans (b3.mono b2.size)⟩
  · have hg9 : decide ((r.size : Int) ≤ 9) = false := by simp; omega
    go_enter Tryd.func40, Tryd.ntmps40
    go_wp2_with fail
    refine (HT.out w).mono ?_
    rintro e w' ⟨rfl, rfl⟩
    go_wp2_with fail
    have e1 : (min 9 (r.size : Int)).toNat = min 9 r.size := by omega
    rw [e1]
    obtain ⟨q, hq⟩ : ∃ q, q = r.extract 0 (min 9 r.size) := ⟨_, rfl⟩
    rw [← hq]
    have hqs : q.size = min 9 r.size := by rw [hq, ByteArray.size_extract]; omega
    have hql : q.data.toList = g.take 9 := by
      rw [hq, ba_extract, ← HG.out]
      simp only [List.drop_zero, Nat.sub_zero]
      by_cases hc : r.size ≤ 9
      · rw [Nat.min_eq_right hc, List.take_of_length_le (by rw [HSZ.out]; exact Nat.le_refl _), List.take_of_length_le (by rw [HSZ.out]; exact hc)]
      · rw [Nat.min_eq_left (by omega)]
    have hq9 : q.size ≤ 9 := by omega
    have HQL := Lib.hid hql
    have HQS := Lib.hid hqs
    clear hq hqs hql e1
    refine (repeat0 _ (9 - q.size) w (by have := HQS.out; omega) (by omega)).mono ?_
    rintro e w2 ⟨rfl, b2⟩
    have hsz3 : (⟨(List.replicate (9 - q.size) (48 : UInt8)).toArray⟩ : ByteArray).size ≤ 9 := by rw [Lib.size_eq]; simp
    obtain ⟨r3, hr3⟩ : ∃ r : ByteArray, r = ⟨(List.replicate (9 - q.size) (48 : UInt8)).toArray⟩ := ⟨_, rfl⟩
    rw [← hr3] at hsz3 ⊢
    have HR3 := Lib.hid hr3
    clear hr3
    go_wp2_with fail
    have hcat : decV (q ++ r3).data.toList = v := by
      rw [← N1.out, ← HQL.out, ← Lib.size_eq, ByteArray.data_append, HR3.out]
      congr 1
      simp
    have hdec := decimal_any (q ++ r3) w2 (by rw [ba_size]; omega)
    rw [hcat] at hdec
    generalize decE (q ++ r3).data.toList = E at *
    refine hdec.mono ?_
    rintro e w3 ⟨rfl, b3⟩
    clear hdec hcat HQL HR3
    go_wp2_with fail
    go_ret2
    exact ⟨ret_steps (by rw [HS.out]; omega) (by rw [HX.out, decide_eq_false h9]; rfl), b2.trans (b3.mono b2.size)⟩
end Go.Proofs.YtehlgnjbmdaakaaDoor.ClkC
