/-
  The document's own answer for canon: Codes.
-/
import Derived.Test.YtgmdbcmfncapdaaCanF
namespace Go.Proofs.Ytgmdbcmfncapdaa.CanC
open Go.RowKit Go.My BitMath CanMath RefC

def sv (ls : List Nat) (j : Nat) : Value := .string (txt (bitsAt ls j))
/-- What ref Codes has laid in the round of length n ahead of place i. -/
def outAt (ls : List Nat) (n i : Nat) : List Value := (List.range ls.length).map fun j => if ls.getD j 0 < n ∨ (ls.getD j 0 = n ∧ j < i) then sv ls j else .string ⟨#[]⟩
theorem outAt_len (ls : List Nat) (n i : Nat) : (outAt ls n i).length = ls.length := by simp [outAt]
theorem bitsAt_zero (ls : List Nat) (j : Nat) (h : ls.getD j 0 = 0) : bitsAt ls j = [] := by
  unfold bitsAt
  split
  · next hj =>
    have : ls[j] = 0 := by simpa [List.getD_eq_getElem?_getD, List.getElem?_eq_getElem hj] using h
    rw [this]; rfl
  · rfl
theorem outAt_zero (ls : List Nat) : outAt ls 1 0 = List.replicate ls.length (.string ⟨#[]⟩) := by
  unfold outAt
  apply List.ext_getElem
  · simp
  · intro i h1 h2
    simp only [List.getElem_map, List.getElem_range, List.getElem_replicate]
    split
    · next h => unfold sv; rw [bitsAt_zero ls i (by omega)]; rfl
    · rfl
theorem getD_get (ls : List Nat) (i : Nat) (h : i < ls.length) : ls.getD i 0 = ls[i] := by
  rw [List.getD_eq_getElem?_getD, List.getElem?_eq_getElem h]; rfl
theorem outAt_hit (ls : List Nat) (n i : Nat) (h : i < ls.length) (hn : ls[i] = n) : (outAt ls n i).set i (sv ls i) = outAt ls n (i + 1) := by
  unfold outAt
  apply List.ext_getElem
  · simp
  · intro j h1 h2
    rw [List.getElem_set]
    simp only [List.getElem_map, List.getElem_range]
    by_cases he : i = j
    · subst he
      rw [if_pos rfl, if_pos (.inr ⟨by rw [getD_get ls i h]; exact hn, by omega⟩)]
    · rw [if_neg he]
      have : (j < i) ↔ (j < i + 1) := by omega
      simp only [this]
theorem outAt_miss (ls : List Nat) (n i : Nat) (h : i < ls.length) (hn : ls[i] ≠ n) : outAt ls n i = outAt ls n (i + 1) := by
  unfold outAt
  apply List.map_congr_left
  intro j _
  by_cases he : j = i
  · subst he
    rw [getD_get ls j h]
    have e : ∀ k, (ls[j] < n ∨ (ls[j] = n ∧ j < k)) ↔ ls[j] < n := fun k => ⟨fun hh => by rcases hh with hh | hh; exact hh; exact absurd hh.1 hn, .inl⟩
    simp only [e]
  · have : (j < i) ↔ (j < i + 1) := by omega
    simp only [this]
theorem outAt_next (ls : List Nat) (n : Nat) : outAt ls n ls.length = outAt ls (n + 1) 0 := by
  unfold outAt
  apply List.map_congr_left
  intro j hj
  have hj' : j < ls.length := List.mem_range.1 hj
  have : (ls.getD j 0 < n ∨ (ls.getD j 0 = n ∧ j < ls.length)) ↔ (ls.getD j 0 < n + 1 ∨ (ls.getD j 0 = n + 1 ∧ j < 0)) := by omega
  simp only [this]
/-- All codes as texts. -/
def texts (ls : List Nat) : List Value := (List.range ls.length).map (sv ls)
theorem texts_len (ls : List Nat) : (texts ls).length = ls.length := by simp [texts]
theorem texts_get (ls : List Nat) (i : Nat) (h : i < ls.length) : (texts ls)[i]'(by rw [texts_len]; exact h) = sv ls i := by simp [texts]
theorem outAt_all (ls : List Nat) (h : ∀ x ∈ ls, x ≤ 15) : outAt ls 16 0 = texts ls := by
  unfold outAt texts
  apply List.map_congr_left
  intro j hj
  have hj' : j < ls.length := List.mem_range.1 hj
  have h1 := h _ (List.getElem_mem hj')
  have h2 : ls.getD j 0 < 16 := by rw [getD_get ls j hj']; omega
  rw [if_pos (.inl h2)]
/-- Half of the first code. -/
def nx (ls : List Nat) (n : Nat) : Nat := first ls n / 2
theorem nx_one (ls : List Nat) : nx ls 1 = 0 := by simp [nx, first]
theorem nx_two (ls : List Nat) (n : Nat) (h : 1 ≤ n) : nx ls n * 2 = codeN ls n 0 := by
  have e : codeN ls n 0 = first ls n := by unfold codeN; simp
  rw [e]
  unfold nx
  cases n with
  | zero => omega
  | succ n =>
    cases n with
    | zero => simp [first]
    | succ n => rw [first]; omega
theorem nx_succ (ls : List Nat) (n : Nat) (h : 1 ≤ n) : codeN ls n ls.length = nx ls (n + 1) := by
  unfold nx codeN
  obtain ⟨m, rfl⟩ : ∃ m, n = m + 1 := ⟨n - 1, by omega⟩
  rw [first, List.take_length]; omega
theorem codeN_le (ls : List Nat) (hall : ∀ x ∈ ls, x ≤ 15) (hk : kr ls ≤ 32768) (hl : ls.length ≤ 65536) (k n : Nat) (h1 : 1 ≤ n) (hn : n ≤ 15) : codeN ls n k ≤ 98304 := by
  have := nf_le ls hall hk hl k n hn
  unfold nf at this
  rwa [if_neg (by omega)] at this
theorem codeN_hit (ls : List Nat) (n i : Nat) (h : i < ls.length) (hn : ls[i] = n) : codeN ls n (i + 1) = codeN ls n i + 1 := by
  unfold codeN; rw [count_take_succ ls i n h, if_pos hn]; omega
theorem codeN_miss (ls : List Nat) (n i : Nat) (h : i < ls.length) (hn : ls[i] ≠ n) : codeN ls n (i + 1) = codeN ls n i := by
  unfold codeN; rw [count_take_succ ls i n h, if_neg hn]; rfl
theorem info_str : (Try.prog.info? 9).map (fun i => (i.zero, i.size, i.bytes)) = some (some (.string ⟨#[]⟩), 1, 16) := by kernel_rfl

section
variable {a : Option Addr} {len cap : Nat} {zs : List Int} {w : World}
set_option maxRecDepth 100000 in
set_option maxHeartbeats 2000000 in
theorem refcodes_bad (h : RowIn w a len cap (zs.map iv)) (hg : ¬ Good zs) :
    Calls Try.prog 8 #[.slice a len cap] w fun e w' => e = .returned (.tuple #[.slice none 0 0, .int .i64 7]) ∧ w = w' := by
  have HG := Lib.hid hg
  have HR := Lib.hid h
  clear hg h
  go_enter Try.func8, Try.ntmps8
  go_wp2_with fail
  refine (refkraft_any HR.out).mono ?_
  rintro e w' ⟨he, rfl⟩
  obtain rfl := he.2 HG.out
  clear he
  go_wp2_with fail
  go_ret2
  exact ⟨rfl, rfl⟩
set_option maxRecDepth 100000 in
set_option maxHeartbeats 2000000 in
theorem refcodes_over (h : RowIn w a len cap (zs.map iv)) (hg : Good zs) (hk : 32768 < kr (nat zs)) :
    Calls Try.prog 8 #[.slice a len cap] w fun e w' => e = .returned (.tuple #[.slice none 0 0, .int .i64 2]) ∧ w = w' := by
  have HG := Lib.hid hg
  have HR := Lib.hid h
  have HK : Hid (kindN (nat zs) = 4) := Lib.hid (by unfold kindN; rw [if_pos hk])
  clear hg h hk
  go_enter Try.func8, Try.ntmps8
  go_wp2_with fail
  refine (refkraft_any HR.out).mono ?_
  rintro e w' ⟨he, rfl⟩
  obtain rfl := he.1 HG.out
  clear he
  generalize kr (nat zs) = K at *
  go_wp2_with fail
  refine (refkind_good HR.out HG.out).mono ?_
  rw [HK.out]
  rintro e w' ⟨rfl, rfl⟩
  go_wp2_with fail
  go_ret2
  exact ⟨rfl, rfl⟩

def TextsOk (zs : List Int) (w : World) (e : Ending) (w' : World) : Prop := ∃ g, e = .returned (.tuple #[.slice (some ⟨g, 0, none⟩) zs.length zs.length, .int .i64 0]) ∧ w.heap.size ≤ g ∧ OwnV 9 w.heap.size w' (.slice (some ⟨g, 0, none⟩) zs.length zs.length) (texts (nat zs)) ∧ Below w.heap.size w w'

set_option maxRecDepth 100000 in
set_option maxHeartbeats 4000000 in
theorem refcodes_ok (h : RowIn w a len cap (zs.map iv)) (hg : Good zs) (hk : kr (nat zs) ≤ 32768) :
    Calls Try.prog 8 #[.slice a len cap] w (TextsOk zs w) := by
  have hzl : zs.length = len := by have := h.len_eq; simpa using this
  have hlen : len ≤ 65536 := by rw [← hzl]; exact hg.1
  have HZ := Lib.hid hzl
  have HG := Lib.hid hg
  have HR := Lib.hid h
  have HKR := Lib.hid hk
  have HLS : Hid ((nat zs).length = len) := Lib.hid (by rw [nat_len]; exact hzl)
  have HK : Hid ((kindN (nat zs) == 4) = false) := Lib.hid (by
    unfold kindN
    rw [if_neg (by omega)]
    split
    · rfl
    · split
      · rfl
      · split <;> rfl)
  clear hg h hk hzl
  go_enter Try.func8, Try.ntmps8
  go_wp2_with fail
  refine (refkraft_any HR.out).mono ?_
  rintro e w' ⟨he, rfl⟩
  obtain rfl := he.1 HG.out
  clear he
  have HKQ := Lib.hid (show kr (nat zs) ≤ 32768 from HKR.out)
  generalize hKK : kr (nat zs) = K
  clear hKK
  go_wp2_with fail
  refine (refkind_good HR.out HG.out).mono ?_
  rintro e w' ⟨rfl, rfl⟩
  have hkn := HK.out
  generalize kindN (nat zs) = X at *
  go_wp2_with (at_make; refine wpList_make_row _ rfl (.tmp 15) (.tmp 15) 29 rfl w.heap.size 9 (.string ⟨#[]⟩) 16 Try.underlying29 info_str rfl .i64 .i64 len rfl rfl (by omega) (by omega) (Nat.le_refl _) ?_)
  clear hkn HK
  intro w1 hown hg1
  have HO : Hid (OwnV 9 w.heap.size w1 (.slice (some ⟨w.heap.size, 0, none⟩) len len) (outAt (nat zs) 1 0)) := Lib.hid (by rw [outAt_zero, HLS.out]; exact hown)
  have HB : Hid (Below w.heap.size w w1) := Lib.hid (grown_none_below (Below.refl _ w) hg1 (Nat.le_refl _))
  clear hown hg1
  go_wp2_with fail
  go_loopw [5, 6, 7] (fun x nv _ wr => ∃ n : Nat, 1 ≤ n ∧ n ≤ 16 ∧ nv = .int .i64 (n : Int) ∧ x = .int .u32 ((nx (nat zs) n : Nat) : Int) ∧ Hid (OwnV 9 w.heap.size wr (.slice (some ⟨w.heap.size, 0, none⟩) len len) (outAt (nat zs) n 0)) ∧ Hid (Below w.heap.size w wr)) (fun _ nv _ _ => 16 - (intOf nv).toNat)
  case atStart => exact ⟨1, by omega, by omega, rfl, by rw [nx_one]; rfl, HO, HB⟩
  case round =>
    clear HO HB
    obtain ⟨n, hn1, hn16, rfl, rfl, HO, HB⟩ := hrel
    by_cases hlt : n < 16
    · have HC0 : Hid (nx (nat zs) n * 2 = codeN (nat zs) n 0) := Lib.hid (nx_two _ n hn1)
      have hxl : nx (nat zs) n * 2 ≤ 98304 := by rw [HC0.out]; exact codeN_le _ HG.out.all HKR.out (by rw [HLS.out]; exact hlen) 0 n hn1 (by omega)
      have HCE : Hid (codeN (nat zs) n len = nx (nat zs) (n + 1)) := Lib.hid (by rw [← HLS.out]; exact nx_succ _ n hn1)
      have HOE : Hid (outAt (nat zs) n len = outAt (nat zs) (n + 1) 0) := Lib.hid (by rw [← HLS.out]; exact outAt_next _ n)
      generalize nx (nat zs) n = x0 at *
      have hd15 : decide ((n : Int) ≤ 15) = true := by simp; omega
      go_wp2_with fail
      go_loopw [5, 7] (fun x i wr => ∃ k : Nat, k ≤ len ∧ i = .int .i64 (k : Int) ∧ x = .int .u32 ((codeN (nat zs) n k : Nat) : Int) ∧ Hid (OwnV 9 w.heap.size wr (.slice (some ⟨w.heap.size, 0, none⟩) len len) (outAt (nat zs) n k)) ∧ Hid (Below w.heap.size w wr)) (fun _ i _ => len - (intOf i).toNat)
      case atStart => exact ⟨0, Nat.zero_le _, rfl, by rw [← HC0.out]; go_num, HO, HB⟩
      case round =>
        clear HO HB
        obtain ⟨k, hk, rfl, rfl, HO, HB⟩ := hrel
        by_cases hkl : k < len
        · obtain ⟨b, off, rfl⟩ := HR.out.some_ (by omega)
          have hkz : k < zs.length := by rw [HZ.out]; exact hkl
          have hkn : k < (nat zs).length := by rw [HLS.out]; exact hkl
          obtain ⟨m, hm⟩ : ∃ m : Nat, zs[k] = (m : Int) := ⟨zs[k].toNat, by have := HG.out.2 _ (List.getElem_mem hkz); omega⟩
          have hm2 : (nat zs)[k] = m := by rw [nat_get zs k hkz, hm]; rfl
          have hcz : wr.cell? ⟨b, off + k, none⟩ = some (.int .i64 (m : Int)) := by
            rw [HB.out.cell (p := ⟨b, off + k, none⟩) (HR.out.lt (by omega)), HR.out.get k (by simpa using hkz)]
            simp [iv, hm]
          have hcl : codeN (nat zs) n k ≤ 98304 := codeN_le _ HG.out.all HKR.out (by rw [HLS.out]; exact hlen) k n hn1 (by omega)
          by_cases he : m = n
          · subst he
            have HC1 : Hid (codeN (nat zs) m (k + 1) = codeN (nat zs) m k + 1) := Lib.hid (codeN_hit _ m k hkn hm2)
            have hwl : (outAt (nat zs) m k).length = len := by rw [outAt_len, HLS.out]
            obtain ⟨old, hc2⟩ : ∃ old, wr.cell? ⟨w.heap.size, k, none⟩ = some old := ⟨_, HO.out.cell hwl k (by rw [hwl]; exact hkl)⟩
            have hf2 : wr.frozen? ⟨w.heap.size, k, none⟩ = false := HO.out.free hwl k
            have HST := Lib.hid (HO.out.store hwl k (sv (nat zs) k))
            have HST2 : Hid (OwnV 9 w.heap.size (wr.setCell ⟨w.heap.size, k, none⟩ (sv (nat zs) k)) (.slice (some ⟨w.heap.size, 0, none⟩) len len) (outAt (nat zs) m (k + 1))) := Lib.hid (by rw [← outAt_hit _ m k hkn hm2]; exact HST.out)
            have HSV : Hid (sv (nat zs) k = .string (txt (lows m (codeN (nat zs) m k)).reverse)) := Lib.hid (by unfold sv; rw [bitsAt_eq _ k hkn, hm2])
            clear HST hwl hm hm2
            generalize codeN (nat zs) m k = x at *
            go_wp2_with fail
            refine (refcode_any x m wr hn1 (by omega) (by omega)).mono ?_
            rw [HSV.out] at HST2
            clear HSV
            generalize txt (lows m x).reverse = t at *
            rintro e w' ⟨rfl, rfl⟩
            go_wp2_with fail
            go_roundw
            case rel => exact ⟨k + 1, by omega, by go_num, by rw [HC1.out]; go_num, HST2, Lib.hid (HB.out.setCell (p := ⟨w.heap.size, k, none⟩) (Nat.le_refl _) _)⟩
            case measure => simp [intOf]; omega
          · have HC1 : Hid (codeN (nat zs) n (k + 1) = codeN (nat zs) n k) := Lib.hid (codeN_miss _ n k hkn (by rw [hm2]; exact he))
            have HO1 : Hid (OwnV 9 w.heap.size wr (.slice (some ⟨w.heap.size, 0, none⟩) len len) (outAt (nat zs) n (k + 1))) := Lib.hid (by rw [← outAt_miss _ n k hkn (by rw [hm2]; exact he)]; exact HO.out)
            have hne : ((m : Int) == (n : Int)) = false := by simp; omega
            clear hm hm2 he
            generalize codeN (nat zs) n k = x at *
            go_wp2_with fail
            go_roundw
            case rel => exact ⟨k + 1, by omega, by go_num, by rw [HC1.out], HO1, HB⟩
            case measure => simp [intOf]; omega
        · obtain rfl : k = len := by omega
          rw [HCE.out]
          rw [HOE.out] at HO
          go_wp2_with fail
          go_roundw
          case rel => exact ⟨n + 1, by omega, by omega, by go_num, rfl, HO, HB⟩
          case measure => simp [intOf]; omega
    · obtain rfl : n = 16 := by omega
      rw [outAt_all _ HG.out.all] at HO
      go_wp2_with fail
      go_ret2
      exact ⟨w.heap.size, by rw [HZ.out]; rfl, Nat.le_refl _, by rw [HZ.out]; exact HO.out, HB.out⟩
end
end Go.Proofs.Ytgmdbcmfncapdaa.CanC
