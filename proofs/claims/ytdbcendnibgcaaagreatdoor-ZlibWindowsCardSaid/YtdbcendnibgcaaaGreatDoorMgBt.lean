import Derived.Test.YtdbcendnibgcaaaGreatDoorMgBs
import Derived.Test.YtdbcendnibgcaaaGreatDoorMgAp
import Derived.Test.YtdbcendnibgcaaaGreatDoorMgBg

section
/-
  The document's own answer for canon: Codes.
-/
namespace Go.Proofs.YtdbcendnibgcaaaGreatDoor.CanC
open Go.RowKit Go.My BitMath CanMath RefC

def sv (ls : List Nat) (j : Nat) : Value := .string (txt (bitsAt ls j))
/-- What ref Codes has laid in the round of length n ahead of place i. -/
def outAt (ls : List Nat) (n i : Nat) : List Value := (List.range ls.length).map fun j => if ls.getD j 0 < n ∨ (ls.getD j 0 = n ∧ j < i) then sv ls j else .string ⟨#[]⟩
theorem outAt_len (ls : List Nat) (n i : Nat) : (outAt ls n i).length = ls.length := by simp [outAt]
theorem bitsAt_zero (ls : List Nat) (j : Nat) (h : ls.getD j 0 = 0) : bitsAt ls j = [] := by
  unfold bitsAt
  split
  · next hj =>
    have : ls[j] = 0 := by simpa [List.getD_eq_getElem?_getD, List.getElem?_eq_getElem hj] using h
    rw [this]; rfl
  · rfl
theorem outAt_zero (ls : List Nat) : outAt ls 1 0 = List.replicate ls.length (.string ⟨#[]⟩) := by
  unfold outAt
  apply List.ext_getElem
  · simp
  · intro i h1 h2
    simp only [List.getElem_map, List.getElem_range, List.getElem_replicate]
    split
    · next h => unfold sv; rw [bitsAt_zero ls i (by omega)]; rfl
    · rfl
theorem getD_get (ls : List Nat) (i : Nat) (h : i < ls.length) : ls.getD i 0 = ls[i] := by
  rw [List.getD_eq_getElem?_getD, List.getElem?_eq_getElem h]; rfl
theorem outAt_hit (ls : List Nat) (n i : Nat) (h : i < ls.length) (hn : ls[i] = n) : (outAt ls n i).set i (sv ls i) = outAt ls n (i + 1) := by
  unfold outAt
  apply List.ext_getElem
  · simp
  · intro j h1 h2
    rw [List.getElem_set]
    simp only [List.getElem_map, List.getElem_range]
    by_cases he : i = j
    · subst he
      rw [if_pos rfl, if_pos (.inr ⟨by rw [getD_get ls i h]; exact hn, by omega⟩)]
    · rw [if_neg he]
      have : (j < i) ↔ (j < i + 1) := by omega
      simp only [this]
theorem outAt_miss (ls : List Nat) (n i : Nat) (h : i < ls.length) (hn : ls[i] ≠ n) : outAt ls n i = outAt ls n (i + 1) := by
  unfold outAt
  apply List.map_congr_left
  intro j _
  by_cases he : j = i
  · subst he
    rw [getD_get ls j h]
    have e : ∀ k, (ls[j] < n ∨ (ls[j] = n ∧ j < k)) ↔ ls[j] < n := fun k => ⟨fun hh => by rcases hh with hh | hh; exact hh; exact absurd hh.1 hn, .inl⟩
    simp only [e]
  · have : (j < i) ↔ (j < i + 1) := by omega
    simp only [this]
theorem outAt_next (ls : List Nat) (n : Nat) : outAt ls n ls.length = outAt ls (n + 1) 0 := by
  unfold outAt
  apply List.map_congr_left
  intro j hj
  have hj' : j < ls.length := List.mem_range.1 hj
  have : (ls.getD j 0 < n ∨ (ls.getD j 0 = n ∧ j < ls.length)) ↔ (ls.getD j 0 < n + 1 ∨ (ls.getD j 0 = n + 1 ∧ j < 0)) := by omega
  simp only [this]
/-- All codes as texts. -/
def texts (ls : List Nat) : List Value := (List.range ls.length).map (sv ls)
theorem texts_len (ls : List Nat) : (texts ls).length = ls.length := by simp [texts]
theorem texts_get (ls : List Nat) (i : Nat) (h : i < ls.length) : (texts ls)[i]'(by rw [texts_len]; exact h) = sv ls i := by simp [texts]
theorem outAt_all (ls : List Nat) (h : ∀ x ∈ ls, x ≤ 15) : outAt ls 16 0 = texts ls := by
  unfold outAt texts
  apply List.map_congr_left
  intro j hj
  have hj' : j < ls.length := List.mem_range.1 hj
  have h1 := h _ (List.getElem_mem hj')
  have h2 : ls.getD j 0 < 16 := by rw [getD_get ls j hj']; omega
  rw [if_pos (.inl h2)]
/-- Half of the first code. -/
def nx (ls : List Nat) (n : Nat) : Nat := first ls n / 2
theorem nx_one (ls : List Nat) : nx ls 1 = 0 := by simp [nx, first]
theorem nx_two (ls : List Nat) (n : Nat) (h : 1 ≤ n) : nx ls n * 2 = codeN ls n 0 := by
  have e : codeN ls n 0 = first ls n := by unfold codeN; simp
  rw [e]
  unfold nx
  cases n with
  | zero => omega
  | succ n =>
    cases n with
    | zero => simp [first]
    | succ n => rw [first]; omega
theorem nx_succ (ls : List Nat) (n : Nat) (h : 1 ≤ n) : codeN ls n ls.length = nx ls (n + 1) := by
  unfold nx codeN
  obtain ⟨m, rfl⟩ : ∃ m, n = m + 1 := ⟨n - 1, by omega⟩
  rw [first, List.take_length]; omega
theorem codeN_le (ls : List Nat) (hall : ∀ x ∈ ls, x ≤ 15) (hk : kr ls ≤ 32768) (hl : ls.length ≤ 65536) (k n : Nat) (h1 : 1 ≤ n) (hn : n ≤ 15) : codeN ls n k ≤ 98304 := by
  have := nf_le ls hall hk hl k n hn
  unfold nf at this
  rwa [if_neg (by omega)] at this
theorem codeN_hit (ls : List Nat) (n i : Nat) (h : i < ls.length) (hn : ls[i] = n) : codeN ls n (i + 1) = codeN ls n i + 1 := by
  unfold codeN; rw [count_take_succ ls i n h, if_pos hn]; omega
theorem codeN_miss (ls : List Nat) (n i : Nat) (h : i < ls.length) (hn : ls[i] ≠ n) : codeN ls n (i + 1) = codeN ls n i := by
  unfold codeN; rw [count_take_succ ls i n h, if_neg hn]; rfl
theorem info_str : (Tryz.prog.info? 9).map (fun i => (i.zero, i.size, i.bytes)) = some (some (.string ⟨#[]⟩), 1, 16) := by kernel_rfl

section
variable {a : Option Addr} {len cap : Nat} {zs : List Int} {w : World}
set_option maxRecDepth 100000 in
set_option maxHeartbeats 2000000 in
theorem refcodes_bad (h : RowIn w a len cap (zs.map iv)) (hg : ¬ Good zs) :
    Calls Tryz.prog 62 #[.slice a len cap] w fun e w' => e = .returned (.tuple #[.slice none 0 0, .int .i64 7]) ∧ w = w' := by
  have HG := Lib.hid hg
  have HR := Lib.hid h
  clear hg h
  go_enter Tryz.func62, Tryz.ntmps62
  go_wp2_with fail
  refine (refkraft_any HR.out).mono ?_
  rintro e w' ⟨he, rfl⟩
  obtain rfl := he.2 HG.out
  clear he
  go_wp2_with fail
  go_ret2
  exact ⟨rfl, rfl⟩
set_option maxRecDepth 100000 in
set_option maxHeartbeats 2000000 in
theorem refcodes_over (h : RowIn w a len cap (zs.map iv)) (hg : Good zs) (hk : 32768 < kr (nat zs)) :
    Calls Tryz.prog 62 #[.slice a len cap] w fun e w' => e = .returned (.tuple #[.slice none 0 0, .int .i64 2]) ∧ w = w' := by
  have HG := Lib.hid hg
  have HR := Lib.hid h
  have HK : Hid (kindN (nat zs) = 4) := Lib.hid (by unfold kindN; rw [if_pos hk])
  clear hg h hk
  go_enter Tryz.func62, Tryz.ntmps62
  go_wp2_with fail
  refine (refkraft_any HR.out).mono ?_
  rintro e w' ⟨he, rfl⟩
  obtain rfl := he.1 HG.out
  clear he
  generalize kr (nat zs) = K at *
  go_wp2_with fail
  refine (refkind_good HR.out HG.out).mono ?_
  rw [HK.out]
  rintro e w' ⟨rfl, rfl⟩
  go_wp2_with fail
  go_ret2
  exact ⟨rfl, rfl⟩

def TextsOk (zs : List Int) (w : World) (e : Ending) (w' : World) : Prop := ∃ g, e = .returned (.tuple #[.slice (some ⟨g, 0, none⟩) zs.length zs.length, .int .i64 0]) ∧ w.heap.size ≤ g ∧ OwnV 9 w.heap.size w' (.slice (some ⟨g, 0, none⟩) zs.length zs.length) (texts (nat zs)) ∧ Below w.heap.size w w'

set_option maxRecDepth 100000 in
set_option maxHeartbeats 4000000 in
theorem refcodes_ok (h : RowIn w a len cap (zs.map iv)) (hg : Good zs) (hk : kr (nat zs) ≤ 32768) :
    Calls Tryz.prog 62 #[.slice a len cap] w (TextsOk zs w) := by
  have hzl : zs.length = len := by have := h.len_eq; simpa using this
  have hlen : len ≤ 65536 := by rw [← hzl]; exact hg.1
  have HZ := Lib.hid hzl
  have HG := Lib.hid hg
  have HR := Lib.hid h
  have HKR := Lib.hid hk
  have HLS : Hid ((nat zs).length = len) := Lib.hid (by rw [nat_len]; exact hzl)
  have HK : Hid ((kindN (nat zs) == 4) = false) := Lib.hid (by
    unfold kindN
    rw [if_neg (by omega)]
    split
    · rfl
    · split
      · rfl
      · split <;> rfl)
  clear hg h hk hzl
  go_enter Tryz.func62, Tryz.ntmps62
  go_wp2_with fail
  refine (refkraft_any HR.out).mono ?_
  rintro e w' ⟨he, rfl⟩
  obtain rfl := he.1 HG.out
  clear he
  have HKQ := Lib.hid (show kr (nat zs) ≤ 32768 from HKR.out)
  generalize hKK : kr (nat zs) = K
  clear hKK
  go_wp2_with fail
  refine (refkind_good HR.out HG.out).mono ?_
  rintro e w' ⟨rfl, rfl⟩
  have hkn := HK.out
  generalize kindN (nat zs) = X at *
  go_wp2_with (at_make; refine wpList_make_row _ rfl (.tmp 15) (.tmp 15) 77 rfl w.heap.size 9 (.string ⟨#[]⟩) 16 Tryz.underlying77 info_str rfl .i64 .i64 len rfl rfl (by omega) (by omega) (Nat.le_refl _) ?_)
  clear hkn HK
  intro w1 hown hg1
  have HO : Hid (OwnV 9 w.heap.size w1 (.slice (some ⟨w.heap.size, 0, none⟩) len len) (outAt (nat zs) 1 0)) := Lib.hid (by rw [outAt_zero, HLS.out]; exact hown)
  have HB : Hid (Below w.heap.size w w1) := Lib.hid (grown_none_below (Below.refl _ w) hg1 (Nat.le_refl _))
  clear hown hg1
  go_wp2_with fail
  go_loopw [5, 6, 7] (fun x nv _ wr => ∃ n : Nat, 1 ≤ n ∧ n ≤ 16 ∧ nv = .int .i64 (n : Int) ∧ x = .int .u32 ((nx (nat zs) n : Nat) : Int) ∧ Hid (OwnV 9 w.heap.size wr (.slice (some ⟨w.heap.size, 0, none⟩) len len) (outAt (nat zs) n 0)) ∧ Hid (Below w.heap.size w wr)) (fun _ nv _ _ => 16 - (intOf nv).toNat)
  case atStart => exact ⟨1, by omega, by omega, rfl, by rw [nx_one]; rfl, HO, HB⟩
  case round =>
    clear HO HB
    obtain ⟨n, hn1, hn16, rfl, rfl, HO, HB⟩ := hrel
    by_cases hlt : n < 16
    · have HC0 : Hid (nx (nat zs) n * 2 = codeN (nat zs) n 0) := Lib.hid (nx_two _ n hn1)
      have hxl : nx (nat zs) n * 2 ≤ 98304 := by rw [HC0.out]; exact codeN_le _ HG.out.all HKR.out (by rw [HLS.out]; exact hlen) 0 n hn1 (by omega)
      have HCE : Hid (codeN (nat zs) n len = nx (nat zs) (n + 1)) := Lib.hid (by rw [← HLS.out]; exact nx_succ _ n hn1)
      have HOE : Hid (outAt (nat zs) n len = outAt (nat zs) (n + 1) 0) := Lib.hid (by rw [← HLS.out]; exact outAt_next _ n)
      generalize nx (nat zs) n = x0 at *
      have hd15 : decide ((n : Int) ≤ 15) = true := by simp; omega
      go_wp2_with fail
      go_loopw [5, 7] (fun x i wr => ∃ k : Nat, k ≤ len ∧ i = .int .i64 (k : Int) ∧ x = .int .u32 ((codeN (nat zs) n k : Nat) : Int) ∧ Hid (OwnV 9 w.heap.size wr (.slice (some ⟨w.heap.size, 0, none⟩) len len) (outAt (nat zs) n k)) ∧ Hid (Below w.heap.size w wr)) (fun _ i _ => len - (intOf i).toNat)
      case atStart => exact ⟨0, Nat.zero_le _, rfl, by rw [← HC0.out]; go_num, HO, HB⟩
      case round =>
        clear HO HB
        obtain ⟨k, hk, rfl, rfl, HO, HB⟩ := hrel
        by_cases hkl : k < len
        · obtain ⟨b, off, rfl⟩ := HR.out.some_ (by omega)
          have hkz : k < zs.length := by rw [HZ.out]; exact hkl
          have hkn : k < (nat zs).length := by rw [HLS.out]; exact hkl
          obtain ⟨m, hm⟩ : ∃ m : Nat, zs[k] = (m : Int) := ⟨zs[k].toNat, by have := HG.out.2 _ (List.getElem_mem hkz); omega⟩
          have hm2 : (nat zs)[k] = m := by rw [nat_get zs k hkz, hm]; rfl
          have hcz : wr.cell? ⟨b, off + k, none⟩ = some (.int .i64 (m : Int)) := by
            rw [HB.out.cell (p := ⟨b, off + k, none⟩) (HR.out.lt (by omega)), HR.out.get k (by simpa using hkz)]
            simp [iv, hm]
          have hcl : codeN (nat zs) n k ≤ 98304 := codeN_le _ HG.out.all HKR.out (by rw [HLS.out]; exact hlen) k n hn1 (by omega)
          by_cases he : m = n
          · subst he
            have HC1 : Hid (codeN (nat zs) m (k + 1) = codeN (nat zs) m k + 1) := Lib.hid (codeN_hit _ m k hkn hm2)
            have hwl : (outAt (nat zs) m k).length = len := by rw [outAt_len, HLS.out]
            obtain ⟨old, hc2⟩ : ∃ old, wr.cell? ⟨w.heap.size, k, none⟩ = some old := ⟨_, HO.out.cell hwl k (by rw [hwl]; exact hkl)⟩
            have hf2 : wr.frozen? ⟨w.heap.size, k, none⟩ = false := HO.out.free hwl k
            have HST := Lib.hid (HO.out.store hwl k (sv (nat zs) k))
            have HST2 : Hid (OwnV 9 w.heap.size (wr.setCell ⟨w.heap.size, k, none⟩ (sv (nat zs) k)) (.slice (some ⟨w.heap.size, 0, none⟩) len len) (outAt (nat zs) m (k + 1))) := Lib.hid (by rw [← outAt_hit _ m k hkn hm2]; exact HST.out)
            have HSV : Hid (sv (nat zs) k = .string (txt (lows m (codeN (nat zs) m k)).reverse)) := Lib.hid (by unfold sv; rw [bitsAt_eq _ k hkn, hm2])
            clear HST hwl hm hm2
            generalize codeN (nat zs) m k = x at *
            go_wp2_with fail
            refine (refcode_any x m wr hn1 (by omega) (by omega)).mono ?_
            rw [HSV.out] at HST2
            clear HSV
            generalize txt (lows m x).reverse = t at *
            rintro e w' ⟨rfl, rfl⟩
            go_wp2_with fail
            go_roundw
            case rel => exact ⟨k + 1, by omega, by go_num, by rw [HC1.out]; go_num, HST2, Lib.hid (HB.out.setCell (p := ⟨w.heap.size, k, none⟩) (Nat.le_refl _) _)⟩
            case measure => simp [intOf]; omega
          · have HC1 : Hid (codeN (nat zs) n (k + 1) = codeN (nat zs) n k) := Lib.hid (codeN_miss _ n k hkn (by rw [hm2]; exact he))
            have HO1 : Hid (OwnV 9 w.heap.size wr (.slice (some ⟨w.heap.size, 0, none⟩) len len) (outAt (nat zs) n (k + 1))) := Lib.hid (by rw [← outAt_miss _ n k hkn (by rw [hm2]; exact he)]; exact HO.out)
            have hne : ((m : Int) == (n : Int)) = false := by simp; omega
            clear hm hm2 he
            generalize codeN (nat zs) n k = x at *
            go_wp2_with fail
            go_roundw
            case rel => exact ⟨k + 1, by omega, by go_num, by rw [HC1.out], HO1, HB⟩
            case measure => simp [intOf]; omega
        · obtain rfl : k = len := by omega
          rw [HCE.out]
          rw [HOE.out] at HO
          go_wp2_with fail
          go_roundw
          case rel => exact ⟨n + 1, by omega, by omega, by go_num, rfl, HO, HB⟩
          case measure => simp [intOf]; omega
    · obtain rfl : n = 16 := by omega
      rw [outAt_all _ HG.out.all] at HO
      go_wp2_with fail
      go_ret2
      exact ⟨w.heap.size, by rw [HZ.out]; rfl, Nat.le_refl _, by rw [HZ.out]; exact HO.out, HB.out⟩
end
end Go.Proofs.YtdbcendnibgcaaaGreatDoor.CanC
end

section
/-
  The document's own Find; its bits (TabG's, without law 8).
-/
namespace Go.Proofs.YtdbcendnibgcaaaGreatDoor.TabC
open Go.RowKit Go.My BitMath CanMath TabMath CanC

/-! ### texts of bits (as in CanonReads' text) -/
theorem txt_inj {a b : List Bool} (h : txt a = txt b) : a = b := by
  unfold txt at h
  injection h with h
  have h2 := congrArg Array.toList h
  simp only at h2
  induction a generalizing b with
  | nil =>
    cases b with
    | nil => rfl
    | cons y t => simp at h2
  | cons x s ih =>
    cases b with
    | nil => simp at h2
    | cons y t =>
      simp only [List.map_cons, List.cons.injEq] at h2
      rw [chB_inj x y h2.1, ih (congrArg List.toArray h2.2) h2.2]
theorem txt_take (l : List Bool) (n : Nat) : (txt l).extract 0 n = txt (l.take n) := by
  apply ByteArray.ext
  rw [ByteArray.data_extract]
  unfold txt
  apply Array.ext'
  simp [List.extract_eq_take_drop, List.map_take]
theorem list_inj {a b : ByteArray} (h : a.toList = b.toList) : a = b := by
  rw [Go.ByteArray.toList_eq, Go.ByteArray.toList_eq] at h
  exact ByteArray.ext (Array.toList_inj.1 h)
theorem str_no {a b : ByteArray} (h : a ≠ b) : (a.toList == b.toList) = false := by
  simp only [beq_eq_false_iff_ne, ne_eq]
  exact fun e => h (list_inj e)
theorem str_yes {a b : ByteArray} (h : a = b) : (a.toList == b.toList) = true := by subst h; simp
theorem str_some {c : ByteArray} (h : 0 < c.size) : c.toList.isEmpty = false := by
  rw [Go.ByteArray.toList_eq]
  cases hc : c.data.toList with
  | nil =>
    have : c.size = 0 := by
      have h2 := congrArg List.length hc
      rw [Array.length_toList] at h2
      exact h2
    omega
  | cons x t => rfl
theorem lows_eq_iff (n a b : Nat) : lows n a = lows n b ↔ a % 2 ^ n = b % 2 ^ n := by
  constructor
  · intro h; rw [← num_lows, h, num_lows]
  · exact lows_eq_of_mod
theorem lows_take (n m v : Nat) (h : n ≤ m) : (lows m v).take n = lows n v := by
  rw [show m = n + (m - n) from by omega, lows_add, List.take_append_of_le_length (by rw [lows_len]; omega), List.take_of_length_le (by rw [lows_len]; omega)]

/-- None of the first k codes stands in front. -/
def Nf (ls : List Nat) (v m k : Nat) : Prop := ∀ j, j < k → ¬ (ln ls j ≤ m ∧ Has ls (v % 2 ^ m) j)
/-- One of the first k codes begins with all bits that are there. -/
def Mo (ls : List Nat) (v m k : Nat) : Prop := ∃ j, j < k ∧ m < ln ls j ∧ wd ls j % 2 ^ m = v % 2 ^ m
theorem Nf.step {ls : List Nat} {v m k : Nat} (h : Nf ls v m k) (hk : ¬ (ln ls k ≤ m ∧ Has ls (v % 2 ^ m) k)) : Nf ls v m (k + 1) := by
  intro j hj
  by_cases he : j = k
  · subst he; exact hk
  · exact h j (by omega)
theorem Mo.step {ls : List Nat} {v m k : Nat} (hk : ¬ (m < ln ls k ∧ wd ls k % 2 ^ m = v % 2 ^ m)) : Mo ls v m (k + 1) ↔ Mo ls v m k := by
  constructor
  · rintro ⟨j, h1, h2, h3⟩
    by_cases he : j = k
    · subst he; exact absurd ⟨h2, h3⟩ hk
    · exact ⟨j, by omega, h2, h3⟩
  · rintro ⟨j, h1, h2⟩
    exact ⟨j, by omega, h2⟩
theorem Mo.more {ls : List Nat} {v m k : Nat} (h : Mo ls v m k) : Mo ls v m (k + 1) := by
  obtain ⟨j, h1, h2⟩ := h
  exact ⟨j, by omega, h2⟩
section
variable {ls : List Nat} (hall : ∀ x ∈ ls, x ≤ 15) (hk : kr ls ≤ 32768)
include hall hk
theorem ref_found {v m i : Nat} (hn : ln ls i ≤ m) (h1 : 1 ≤ ln ls i) (h : v % 2 ^ ln ls i = wd ls i) :
    ansV (who ls (v % 2 ^ m)) m = .tuple #[.int .i64 (i : Int), .int .i64 ((ln ls i : Nat) : Int), .int .i64 0] := by
  have hh : Has ls (v % 2 ^ m) i := ⟨h1, by rw [mod_mod_pow v hn]; exact h⟩
  rw [who_some hall hk hh]
  unfold ansV
  rw [if_neg (by dsimp only; omega), if_neg (by dsimp only; omega)]
theorem ref_more {v m : Nat} (hf : Nf ls v m ls.length) (h : Mo ls v m ls.length) : ansV (who ls (v % 2 ^ m)) m = .tuple #[.int .i64 0, .int .i64 0, .int .i64 5] := by
  obtain ⟨j, _, h2, h3⟩ := h
  obtain ⟨k, hk'⟩ := has_fill hall hk h2 h3
  rw [who_some hall hk hk']
  have hlt : m < ln ls k := by
    by_cases hle : ln ls k ≤ m
    · exact absurd ⟨hle, hk'⟩ (hf k (ln_lt hk'.1))
    · omega
  unfold ansV
  rw [if_neg (by dsimp only; omega), if_pos hlt]
omit hall hk in
theorem ref_none {v m : Nat} (hf : Nf ls v m ls.length) (h : ¬ Mo ls v m ls.length) : ansV (who ls (v % 2 ^ m)) m = .tuple #[.int .i64 0, .int .i64 0, .int .i64 2] := by
  have hn : ∀ k, ¬ Has ls (v % 2 ^ m) k := by
    intro k hk'
    have hkl := ln_lt hk'.1
    by_cases hle : ln ls k ≤ m
    · exact hf k hkl ⟨hle, hk'⟩
    · apply h
      refine ⟨k, hkl, by omega, ?_⟩
      rw [← hk'.2, mod_mod_pow _ (by omega), Nat.mod_mod]
  rw [who_none hn]; rfl
end

section
variable {gc len : Nat} {zs : List Int} {w : World}
set_option maxRecDepth 100000 in
set_option maxHeartbeats 8000000 in
theorem reffind_any (v m : Nat) (t : ByteArray) (h : RowIn w (some ⟨gc, 0, none⟩) len len (texts (nat zs))) (ht : t = txt (lows m v)) (hm : m ≤ 15) (hg : CanC.Good zs) (hk : kr (nat zs) ≤ 32768) (hlen : (nat zs).length = len) :
    Calls Tryz.prog 67 #[.slice (some ⟨gc, 0, none⟩) len len, .string t] w fun e w' => e = .returned (ansV (who (nat zs) (v % 2 ^ m)) m) ∧ w = w' := by
  have HR := Lib.hid h
  have HG := Lib.hid hg
  have HK := Lib.hid hk
  have HT := Lib.hid ht
  have hts : t.size = m := by rw [ht, txt_len, lows_len]
  have HLS := Lib.hid hlen
  have hl6 : len ≤ 65536 := by rw [← hlen, nat_len]; exact hg.1
  clear h hg hk ht hlen
  go_enter Tryz.func67, Tryz.ntmps67
  go_wp2_with fail
  go_loop [7, 8, 9] (fun mo i _ => ∃ (k : Nat) (b : Bool), k ≤ len ∧ i = .int .i64 (k : Int) ∧ mo = .bool b ∧ Hid (b = true ↔ Mo (nat zs) v m k) ∧ Hid (Nf (nat zs) v m k)) (fun _ i _ => len - (intOf i).toNat)
  case atStart => exact ⟨0, false, Nat.zero_le _, rfl, rfl, Lib.hid ⟨fun h => (by cases h), fun h => (by obtain ⟨j, hj, _⟩ := h; omega)⟩, Lib.hid (fun j hj => by omega)⟩
  case round =>
    obtain ⟨k, b, hk, rfl, rfl, HM, HN⟩ := hrel
    by_cases hlt : k < len
    · have hkn : k < (nat zs).length := by rw [HLS.out]; exact hlt
      obtain ⟨n, hn⟩ : ∃ n, n = ln (nat zs) k := ⟨_, rfl⟩
      have hn15 : n ≤ 15 := by rw [hn]; exact ln_le HG.out.all k
      obtain ⟨c, hc⟩ : ∃ c, c = txt (lows n (wd (nat zs) k)) := ⟨_, rfl⟩
      have hcs : c.size = n := by rw [hc, txt_len, lows_len]
      have hcc : w.cell? ⟨gc, k, none⟩ = some (.string c) := by
        have h1 := HR.out.get k (by rw [texts_len]; exact hkn)
        rw [texts_get _ k hkn, Nat.zero_add] at h1
        rw [h1, hc, hn]
        unfold sv
        rw [bitsAt_wd _ k hkn]
      have HLN := Lib.hid hn
      have HC := Lib.hid hc
      clear hn hc
      by_cases hn0 : n = 0
      · subst hn0
        have hce : c = ⟨#[]⟩ := by rw [HC.out]; rfl
        subst hce
        have HM2 : Hid (b = true ↔ Mo (nat zs) v m (k + 1)) := Lib.hid (by rw [Mo.step (by rw [← HLN.out]; omega)]; exact HM.out)
        have HN2 : Hid (Nf (nat zs) v m (k + 1)) := Lib.hid (HN.out.step (fun hc => by have := hc.2.1; rw [← HLN.out] at this; omega))
        clear HC HM HN
        go_wp2_with fail
        go_round
        case rel => exact ⟨k + 1, b, by omega, by go_num, rfl, HM2, HN2⟩
        case measure => simp [intOf]; omega
      · have hne : c ≠ ⟨#[]⟩ := by
          intro h
          rw [h] at hcs
          exact hn0 hcs.symm
        have hne1 := str_some (c := c) (by omega)
        clear hne
        by_cases hnm : n ≤ m
        · have hd1 : decide (n ≤ m) = true := by simp; omega
          have hd2 : decide (n > m) = false := by simp; omega
          by_cases heq : v % 2 ^ n = wd (nat zs) k
          · have e1 : ((t.extract 0 n).toList == c.toList) = true := str_yes (by
              rw [HT.out, HC.out, txt_take, lows_take n m v hnm, (lows_eq_iff n v (wd (nat zs) k)).2 (by rw [← heq, Nat.mod_mod])])
            have HE : Hid (ansV (who (nat zs) (v % 2 ^ m)) m = .tuple #[.int .i64 (k : Int), .int .i64 (n : Int), .int .i64 0]) := Lib.hid (by
              have h1 := ref_found HG.out.all HK.out (v := v) (m := m) (i := k) (by rw [← HLN.out]; exact hnm) (by rw [← HLN.out]; omega) (by rw [← HLN.out]; exact heq)
              rw [← HLN.out] at h1
              exact h1)
            clear heq HM HN HC
            go_wp2_with fail
            go_ret3
            exact ⟨by rw [HE.out]; rfl, rfl⟩
          · have e1 : ((t.extract 0 n).toList == c.toList) = false := str_no (by
              rw [HT.out, HC.out, txt_take, lows_take n m v hnm]
              intro h
              have h1 := (lows_eq_iff n v _).1 (txt_inj h)
              have h2 := wd_lt (nat zs) k
              rw [← HLN.out] at h2
              rw [Nat.mod_eq_of_lt h2] at h1
              exact heq h1)
            have HM2 : Hid (b = true ↔ Mo (nat zs) v m (k + 1)) := Lib.hid (by rw [Mo.step (by rw [← HLN.out]; omega)]; exact HM.out)
            have HN2 : Hid (Nf (nat zs) v m (k + 1)) := Lib.hid (HN.out.step (fun hc => by
              have h1 := hc.2.2
              rw [← HLN.out, mod_mod_pow v hnm] at h1
              exact heq h1))
            clear HC HM HN heq
            rcases b with _ | _
            · go_wp2_with fail
              go_round
              case rel => exact ⟨k + 1, false, by omega, by go_num, rfl, HM2, HN2⟩
              case measure => simp [intOf]; omega
            · go_wp2_with fail
              go_round
              case rel => exact ⟨k + 1, true, by omega, by go_num, rfl, HM2, HN2⟩
              case measure => simp [intOf]; omega
        · have hd1 : decide (n ≤ m) = false := by simp; omega
          have hd2 : decide (n > m) = true := by simp; omega
          have HN2 : Hid (Nf (nat zs) v m (k + 1)) := Lib.hid (HN.out.step (fun hc => by have := hc.1; rw [← HLN.out] at this; omega))
          rcases b with _ | _
          · by_cases heq : wd (nat zs) k % 2 ^ m = v % 2 ^ m
            · have e1 : ((c.extract 0 m).toList == t.toList) = true := str_yes (by
                rw [HT.out, HC.out, txt_take, lows_take m n _ (by omega), (lows_eq_iff m _ v).2 heq])
              have HM2 : Hid (true = true ↔ Mo (nat zs) v m (k + 1)) := Lib.hid ⟨fun _ => ⟨k, by omega, by rw [← HLN.out]; omega, heq⟩, fun _ => rfl⟩
              clear HC HM HN heq
              go_wp2_with fail
              go_round
              case rel => exact ⟨k + 1, true, by omega, by go_num, rfl, HM2, HN2⟩
              case measure => simp [intOf]; omega
            · have e1 : ((c.extract 0 m).toList == t.toList) = false := str_no (by
                rw [HT.out, HC.out, txt_take, lows_take m n _ (by omega)]
                intro h
                exact heq ((lows_eq_iff m _ v).1 (txt_inj h)))
              have HM2 : Hid (false = true ↔ Mo (nat zs) v m (k + 1)) := Lib.hid (by rw [Mo.step (fun hc => heq hc.2)]; exact HM.out)
              clear HC HM HN heq
              go_wp2_with fail
              go_round
              case rel => exact ⟨k + 1, false, by omega, by go_num, rfl, HM2, HN2⟩
              case measure => simp [intOf]; omega
          · have HM2 : Hid (true = true ↔ Mo (nat zs) v m (k + 1)) := Lib.hid ⟨fun _ => (HM.out.1 rfl).more, fun _ => rfl⟩
            clear HC HM HN
            go_wp2_with fail
            go_round
            case rel => exact ⟨k + 1, true, by omega, by go_num, rfl, HM2, HN2⟩
            case measure => simp [intOf]; omega
    · obtain rfl : k = len := by omega
      rcases b with _ | _
      · have HE : Hid (ansV (who (nat zs) (v % 2 ^ m)) m = .tuple #[.int .i64 0, .int .i64 0, .int .i64 2]) := Lib.hid (ref_none (by rw [HLS.out]; exact HN.out) (by rw [HLS.out]; exact fun h => by have := HM.out.2 h; cases this))
        go_wp2_with fail
        go_ret3
        exact ⟨by rw [HE.out]; rfl, rfl⟩
      · have HE : Hid (ansV (who (nat zs) (v % 2 ^ m)) m = .tuple #[.int .i64 0, .int .i64 0, .int .i64 5]) := Lib.hid (ref_more HG.out.all HK.out (by rw [HLS.out]; exact HN.out) (by rw [HLS.out]; exact HM.out.1 rfl))
        go_wp2_with fail
        go_ret3
        exact ⟨by rw [HE.out]; rfl, rfl⟩
end
end Go.Proofs.YtdbcendnibgcaaaGreatDoor.TabC
end

section
/-
  The document's Find over a row of codes, as the machine's symbol.
-/
namespace Go.Proofs.YtdbcendnibgcaaaGreatDoor.RfC
open Go.RowKit Go.My BitMath CanMath TabMath CanC TabC

/-- A row of codes in memory. -/
structure CodeRow (w : World) (gl : Nat) (ls : List Nat) : Prop where
  blk : Blk w gl 9 (texts ls).toArray
  ok : InfMath.CodeOk ls
def zs (ls : List Nat) : List Int := ls.map fun n : Nat => (n : Int)
theorem nat_zs (ls : List Nat) : CanC.nat (zs ls) = ls := by
  unfold CanC.nat zs
  rw [List.map_map]
  conv => rhs; rw [← List.map_id ls]
  apply List.map_congr_left
  intro n _
  simp
theorem good_zs {ls : List Nat} (h : InfMath.CodeOk ls) : CanC.Good (zs ls) := by
  refine ⟨by unfold zs; rw [List.length_map]; have := h.len; omega, ?_⟩
  intro x hx
  unfold zs at hx
  obtain ⟨n, hn, rfl⟩ := List.mem_map.1 hx
  have := h.all n hn
  omega
theorem CodeRow.row {w : World} {gl : Nat} {ls : List Nat} (h : CodeRow w gl ls) : RowIn w (some ⟨gl, 0, none⟩) ls.length ls.length (texts ls) :=
  ⟨texts_len ls, Nat.le_refl _, by have := h.ok.len; omega, (fun e => by cases e), .inr ⟨gl, 0, rfl, h.blk.lt, fun i hi => by rw [h.blk.cell, Nat.zero_add]; simp [hi]⟩⟩
theorem sym_ans (ls : List Nat) (bs : List Bool) : ansV (who ls (num (bs.take 15) % 2 ^ (min bs.length 15))) (min bs.length 15) = .tuple #[.int .i64 (((InfMath.sym ls bs).1 : Nat) : Int), .int .i64 (((InfMath.sym ls bs).2.1 : Nat) : Int), .int .i64 (((InfMath.sym ls bs).2.2 : Nat) : Int)] := by
  have hl : (bs.take 15).length = min bs.length 15 := by rw [List.length_take, Nat.min_comm]
  rw [Nat.mod_eq_of_lt (by have := num_lt (bs.take 15); rwa [hl] at this)]
  unfold ansV InfMath.sym
  by_cases h1 : (who ls (num (bs.take 15))).l = 0
  · rw [if_pos h1, if_pos h1]; rfl
  · rw [if_neg h1, if_neg h1]
    by_cases h2 : min bs.length 15 < (who ls (num (bs.take 15))).l
    · rw [if_pos h2, if_pos h2]; rfl
    · rw [if_neg h2, if_neg h2]; rfl
theorem find_sym {w : World} {gl : Nat} {ls : List Nat} (h : CodeRow w gl ls) (bs : List Bool) :
    Calls Tryz.prog 67 #[.slice (some ⟨gl, 0, none⟩) ls.length ls.length, .string (txt (bs.take 15))] w fun e w' => e = .returned (.tuple #[.int .i64 (((InfMath.sym ls bs).1 : Nat) : Int), .int .i64 (((InfMath.sym ls bs).2.1 : Nat) : Int), .int .i64 (((InfMath.sym ls bs).2.2 : Nat) : Int)]) ∧ w = w' := by
  have hr := h.row
  have hk := h.ok.kr
  rw [← nat_zs ls] at hr hk
  have hl : (bs.take 15).length = min bs.length 15 := by rw [List.length_take, Nat.min_comm]
  have := reffind_any (num (bs.take 15)) (min bs.length 15) (txt (bs.take 15)) (by rw [nat_zs ls] at hr ⊢; exact hr) (by rw [lows_num_of _ _ hl]) (by omega) (good_zs h.ok) hk (by rw [nat_zs])
  rw [nat_zs, sym_ans] at this
  exact this
end Go.Proofs.YtdbcendnibgcaaaGreatDoor.RfC
end
