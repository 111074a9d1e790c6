/-
  The document's own answer for tables: Find; its bits.
-/
import Derived.Test.YtgmdbcmfncapdaaTabM
import Derived.Test.YtgmdbcmfncapdaaCanG
namespace Go.Proofs.Ytgmdbcmfncapdaa.TabC
open Go.RowKit Go.My BitMath CanMath TabMath CanC

/-! ### texts of bits (as in CanonReads' text) -/
theorem txt_inj {a b : List Bool} (h : txt a = txt b) : a = b := by
  unfold txt at h
  injection h with h
  have h2 := congrArg Array.toList h
  simp only at h2
  induction a generalizing b with
  | nil =>
    cases b with
    | nil => rfl
    | cons y t => simp at h2
  | cons x s ih =>
    cases b with
    | nil => simp at h2
    | cons y t =>
      simp only [List.map_cons, List.cons.injEq] at h2
      rw [chB_inj x y h2.1, ih (congrArg List.toArray h2.2) h2.2]
theorem txt_take (l : List Bool) (n : Nat) : (txt l).extract 0 n = txt (l.take n) := by
  apply ByteArray.ext
  rw [ByteArray.data_extract]
  unfold txt
  apply Array.ext'
  simp [List.extract_eq_take_drop, List.map_take]
theorem list_inj {a b : ByteArray} (h : a.toList = b.toList) : a = b := by
  rw [Go.ByteArray.toList_eq, Go.ByteArray.toList_eq] at h
  exact ByteArray.ext (Array.toList_inj.1 h)
theorem str_no {a b : ByteArray} (h : a ≠ b) : (a.toList == b.toList) = false := by
  simp only [beq_eq_false_iff_ne, ne_eq]
  exact fun e => h (list_inj e)
theorem str_yes {a b : ByteArray} (h : a = b) : (a.toList == b.toList) = true := by subst h; simp
theorem str_some {c : ByteArray} (h : 0 < c.size) : c.toList.isEmpty = false := by
  rw [Go.ByteArray.toList_eq]
  cases hc : c.data.toList with
  | nil =>
    have : c.size = 0 := by
      have h2 := congrArg List.length hc
      rw [Array.length_toList] at h2
      exact h2
    omega
  | cons x t => rfl
theorem lows_eq_iff (n a b : Nat) : lows n a = lows n b ↔ a % 2 ^ n = b % 2 ^ n := by
  constructor
  · intro h; rw [← num_lows, h, num_lows]
  · exact lows_eq_of_mod
theorem lows_take (n m v : Nat) (h : n ≤ m) : (lows m v).take n = lows n v := by
  rw [show m = n + (m - n) from by omega, lows_add, List.take_append_of_le_length (by rw [lows_len]; omega), List.take_of_length_le (by rw [lows_len]; omega)]

/-- None of the first k codes stands in front. -/
def Nf (ls : List Nat) (v m k : Nat) : Prop := ∀ j, j < k → ¬ (ln ls j ≤ m ∧ Has ls (v % 2 ^ m) j)
/-- One of the first k codes begins with all bits that are there. -/
def Mo (ls : List Nat) (v m k : Nat) : Prop := ∃ j, j < k ∧ m < ln ls j ∧ wd ls j % 2 ^ m = v % 2 ^ m
theorem Nf.step {ls : List Nat} {v m k : Nat} (h : Nf ls v m k) (hk : ¬ (ln ls k ≤ m ∧ Has ls (v % 2 ^ m) k)) : Nf ls v m (k + 1) := by
  intro j hj
  by_cases he : j = k
  · subst he; exact hk
  · exact h j (by omega)
theorem Mo.step {ls : List Nat} {v m k : Nat} (hk : ¬ (m < ln ls k ∧ wd ls k % 2 ^ m = v % 2 ^ m)) : Mo ls v m (k + 1) ↔ Mo ls v m k := by
  constructor
  · rintro ⟨j, h1, h2, h3⟩
    by_cases he : j = k
    · subst he; exact absurd ⟨h2, h3⟩ hk
    · exact ⟨j, by omega, h2, h3⟩
  · rintro ⟨j, h1, h2⟩
    exact ⟨j, by omega, h2⟩
theorem Mo.more {ls : List Nat} {v m k : Nat} (h : Mo ls v m k) : Mo ls v m (k + 1) := by
  obtain ⟨j, h1, h2⟩ := h
  exact ⟨j, by omega, h2⟩
section
variable {ls : List Nat} (hall : ∀ x ∈ ls, x ≤ 15) (hk : kr ls ≤ 32768)
include hall hk
theorem ref_found {v m i : Nat} (hn : ln ls i ≤ m) (h1 : 1 ≤ ln ls i) (h : v % 2 ^ ln ls i = wd ls i) :
    ansV (who ls (v % 2 ^ m)) m = .tuple #[.int .i64 (i : Int), .int .i64 ((ln ls i : Nat) : Int), .int .i64 0] := by
  have hh : Has ls (v % 2 ^ m) i := ⟨h1, by rw [mod_mod_pow v hn]; exact h⟩
  rw [who_some hall hk hh]
  unfold ansV
  rw [if_neg (by dsimp only; omega), if_neg (by dsimp only; omega)]
theorem ref_more {v m : Nat} (hf : Nf ls v m ls.length) (h : Mo ls v m ls.length) : ansV (who ls (v % 2 ^ m)) m = .tuple #[.int .i64 0, .int .i64 0, .int .i64 5] := by
  obtain ⟨j, _, h2, h3⟩ := h
  obtain ⟨k, hk'⟩ := has_fill hall hk h2 h3
  rw [who_some hall hk hk']
  have hlt : m < ln ls k := by
    by_cases hle : ln ls k ≤ m
    · exact absurd ⟨hle, hk'⟩ (hf k (ln_lt hk'.1))
    · omega
  unfold ansV
  rw [if_neg (by dsimp only; omega), if_pos hlt]
omit hall hk in
theorem ref_none {v m : Nat} (hf : Nf ls v m ls.length) (h : ¬ Mo ls v m ls.length) : ansV (who ls (v % 2 ^ m)) m = .tuple #[.int .i64 0, .int .i64 0, .int .i64 2] := by
  have hn : ∀ k, ¬ Has ls (v % 2 ^ m) k := by
    intro k hk'
    have hkl := ln_lt hk'.1
    by_cases hle : ln ls k ≤ m
    · exact hf k hkl ⟨hle, hk'⟩
    · apply h
      refine ⟨k, hkl, by omega, ?_⟩
      rw [← hk'.2, mod_mod_pow _ (by omega), Nat.mod_mod]
  rw [who_none hn]; rfl
end

section
variable {gc len : Nat} {zs : List Int} {w : World}
set_option maxRecDepth 100000 in
set_option maxHeartbeats 8000000 in
theorem reffind_any (v m : Nat) (t : ByteArray) (h : RowIn w (some ⟨gc, 0, none⟩) len len (texts (nat zs))) (ht : t = txt (lows m v)) (hm : m ≤ 15) (hg : CanC.Good zs) (hk : kr (nat zs) ≤ 32768) (hlen : (nat zs).length = len) :
    Calls Try.prog 11 #[.slice (some ⟨gc, 0, none⟩) len len, .string t] w fun e w' => e = .returned (ansV (who (nat zs) (v % 2 ^ m)) m) ∧ w = w' := by
  have HR := Lib.hid h
  have HG := Lib.hid hg
  have HK := Lib.hid hk
  have HT := Lib.hid ht
  have hts : t.size = m := by rw [ht, txt_len, lows_len]
  have HLS := Lib.hid hlen
  have hl6 : len ≤ 65536 := by rw [← hlen, nat_len]; exact hg.1
  clear h hg hk ht hlen
  go_enter Try.func11, Try.ntmps11
  go_wp2_with fail
  go_loop [7, 8, 9] (fun mo i _ => ∃ (k : Nat) (b : Bool), k ≤ len ∧ i = .int .i64 (k : Int) ∧ mo = .bool b ∧ Hid (b = true ↔ Mo (nat zs) v m k) ∧ Hid (Nf (nat zs) v m k)) (fun _ i _ => len - (intOf i).toNat)
  case atStart => exact ⟨0, false, Nat.zero_le _, rfl, rfl, Lib.hid ⟨fun h => (by cases h), fun h => (by obtain ⟨j, hj, _⟩ := h; omega)⟩, Lib.hid (fun j hj => by omega)⟩
  case round =>
    obtain ⟨k, b, hk, rfl, rfl, HM, HN⟩ := hrel
    by_cases hlt : k < len
    · have hkn : k < (nat zs).length := by rw [HLS.out]; exact hlt
      obtain ⟨n, hn⟩ : ∃ n, n = ln (nat zs) k := ⟨_, rfl⟩
      have hn15 : n ≤ 15 := by rw [hn]; exact ln_le HG.out.all k
      obtain ⟨c, hc⟩ : ∃ c, c = txt (lows n (wd (nat zs) k)) := ⟨_, rfl⟩
      have hcs : c.size = n := by rw [hc, txt_len, lows_len]
      have hcc : w.cell? ⟨gc, k, none⟩ = some (.string c) := by
        have h1 := HR.out.get k (by rw [texts_len]; exact hkn)
        rw [texts_get _ k hkn, Nat.zero_add] at h1
        rw [h1, hc, hn]
        unfold sv
        rw [bitsAt_wd _ k hkn]
      have HLN := Lib.hid hn
      have HC := Lib.hid hc
      clear hn hc
      by_cases hn0 : n = 0
      · subst hn0
        have hce : c = ⟨#[]⟩ := by rw [HC.out]; rfl
        subst hce
        have HM2 : Hid (b = true ↔ Mo (nat zs) v m (k + 1)) := Lib.hid (by rw [Mo.step (by rw [← HLN.out]; omega)]; exact HM.out)
        have HN2 : Hid (Nf (nat zs) v m (k + 1)) := Lib.hid (HN.out.step (fun hc => by have := hc.2.1; rw [← HLN.out] at this; omega))
        clear HC HM HN
        go_wp2_with fail
        go_round
        case rel => exact ⟨k + 1, b, by omega, by go_num, rfl, HM2, HN2⟩
        case measure => simp [intOf]; omega
      · have hne : c ≠ ⟨#[]⟩ := by
          intro h
          rw [h] at hcs
          exact hn0 hcs.symm
        have hne1 := str_some (c := c) (by omega)
        clear hne
        by_cases hnm : n ≤ m
        · have hd1 : decide (n ≤ m) = true := by simp; omega
          have hd2 : decide (n > m) = false := by simp; omega
          by_cases heq : v % 2 ^ n = wd (nat zs) k
          · have e1 : ((t.extract 0 n).toList == c.toList) = true := str_yes (by
              rw [HT.out, HC.out, txt_take, lows_take n m v hnm, (lows_eq_iff n v (wd (nat zs) k)).2 (by rw [← heq, Nat.mod_mod])])
            have HE : Hid (ansV (who (nat zs) (v % 2 ^ m)) m = .tuple #[.int .i64 (k : Int), .int .i64 (n : Int), .int .i64 0]) := Lib.hid (by
              have h1 := ref_found HG.out.all HK.out (v := v) (m := m) (i := k) (by rw [← HLN.out]; exact hnm) (by rw [← HLN.out]; omega) (by rw [← HLN.out]; exact heq)
              rw [← HLN.out] at h1
              exact h1)
            clear heq HM HN HC
            go_wp2_with fail
            go_ret3
            exact ⟨by rw [HE.out]; rfl, rfl⟩
          · have e1 : ((t.extract 0 n).toList == c.toList) = false := str_no (by
              rw [HT.out, HC.out, txt_take, lows_take n m v hnm]
              intro h
              have h1 := (lows_eq_iff n v _).1 (txt_inj h)
              have h2 := wd_lt (nat zs) k
              rw [← HLN.out] at h2
              rw [Nat.mod_eq_of_lt h2] at h1
              exact heq h1)
            have HM2 : Hid (b = true ↔ Mo (nat zs) v m (k + 1)) := Lib.hid (by rw [Mo.step (by rw [← HLN.out]; omega)]; exact HM.out)
            have HN2 : Hid (Nf (nat zs) v m (k + 1)) := Lib.hid (HN.out.step (fun hc => by
              have h1 := hc.2.2
              rw [← HLN.out, mod_mod_pow v hnm] at h1
              exact heq h1))
            clear HC HM HN heq
            rcases b with _ | _
            · go_wp2_with fail
              go_round
              case rel => exact ⟨k + 1, false, by omega, by go_num, rfl, HM2, HN2⟩
              case measure => simp [intOf]; omega
            · go_wp2_with fail
              go_round
              case rel => exact ⟨k + 1, true, by omega, by go_num, rfl, HM2, HN2⟩
              case measure => simp [intOf]; omega
        · have hd1 : decide (n ≤ m) = false := by simp; omega
          have hd2 : decide (n > m) = true := by simp; omega
          have HN2 : Hid (Nf (nat zs) v m (k + 1)) := Lib.hid (HN.out.step (fun hc => by have := hc.1; rw [← HLN.out] at this; omega))
          rcases b with _ | _
          · by_cases heq : wd (nat zs) k % 2 ^ m = v % 2 ^ m
            · have e1 : ((c.extract 0 m).toList == t.toList) = true := str_yes (by
                rw [HT.out, HC.out, txt_take, lows_take m n _ (by omega), (lows_eq_iff m _ v).2 heq])
              have HM2 : Hid (true = true ↔ Mo (nat zs) v m (k + 1)) := Lib.hid ⟨fun _ => ⟨k, by omega, by rw [← HLN.out]; omega, heq⟩, fun _ => rfl⟩
              clear HC HM HN heq
              go_wp2_with fail
              go_round
              case rel => exact ⟨k + 1, true, by omega, by go_num, rfl, HM2, HN2⟩
              case measure => simp [intOf]; omega
            · have e1 : ((c.extract 0 m).toList == t.toList) = false := str_no (by
                rw [HT.out, HC.out, txt_take, lows_take m n _ (by omega)]
                intro h
                exact heq ((lows_eq_iff m _ v).1 (txt_inj h)))
              have HM2 : Hid (false = true ↔ Mo (nat zs) v m (k + 1)) := Lib.hid (by rw [Mo.step (fun hc => heq hc.2)]; exact HM.out)
              clear HC HM HN heq
              go_wp2_with fail
              go_round
              case rel => exact ⟨k + 1, false, by omega, by go_num, rfl, HM2, HN2⟩
              case measure => simp [intOf]; omega
          · have HM2 : Hid (true = true ↔ Mo (nat zs) v m (k + 1)) := Lib.hid ⟨fun _ => (HM.out.1 rfl).more, fun _ => rfl⟩
            clear HC HM HN
            go_wp2_with fail
            go_round
            case rel => exact ⟨k + 1, true, by omega, by go_num, rfl, HM2, HN2⟩
            case measure => simp [intOf]; omega
    · obtain rfl : k = len := by omega
      rcases b with _ | _
      · have HE : Hid (ansV (who (nat zs) (v % 2 ^ m)) m = .tuple #[.int .i64 0, .int .i64 0, .int .i64 2]) := Lib.hid (ref_none (by rw [HLS.out]; exact HN.out) (by rw [HLS.out]; exact fun h => by have := HM.out.2 h; cases this))
        go_wp2_with fail
        go_ret3
        exact ⟨by rw [HE.out]; rfl, rfl⟩
      · have HE : Hid (ansV (who (nat zs) (v % 2 ^ m)) m = .tuple #[.int .i64 0, .int .i64 0, .int .i64 5]) := Lib.hid (ref_more HG.out.all HK.out (by rw [HLS.out]; exact HN.out) (by rw [HLS.out]; exact HM.out.1 rfl))
        go_wp2_with fail
        go_ret3
        exact ⟨by rw [HE.out]; rfl, rfl⟩
end
end Go.Proofs.Ytgmdbcmfncapdaa.TabC
