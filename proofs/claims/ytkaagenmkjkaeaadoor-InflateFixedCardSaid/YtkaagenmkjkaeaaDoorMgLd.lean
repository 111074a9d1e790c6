import Derived.Test.YtkaagenmkjkaeaaDoorMgA
import Derived.Test.YtkaagenmkjkaeaaDoorRows
import Derived.Laws.Pointers
import Derived.Deep.QuietTactic
import Derived.BigQuiet
import Derived.StillTailTactics
import Derived.Test.YtkaagenmkjkaeaaDoorMgV
import Derived.Deep.RegionHeld3

section
/-
  The document's own answer for bits (stevedoreref5): Bytes alone (R5's, for seats without Of and Number).
-/
namespace Go.Proofs.YtkaagenmkjkaeaaDoor.RefC
open Go.RowKit Go.My BitMath

/-! ### bits as bytes -/
/-- What Bytes has laid behind k rounds, of n bytes. -/
def packAt (L : List Bool) (n k : Nat) : List UInt8 := (List.range n).map fun j => UInt8.ofNat (num (((L.take k).drop (8 * j)).take 8))
theorem packAt_len (L : List Bool) (n k : Nat) : (packAt L n k).length = n := by simp [packAt]
theorem packAt_full (L : List Bool) : packAt L ((L.length + 7) / 8) L.length = pack L := by unfold packAt pack; rw [List.take_length]
theorem packAt_zero (L : List Bool) (n : Nat) : packAt L n 0 = List.replicate n 0 := by
  unfold packAt
  apply List.ext_getElem
  · simp
  · intro i h1 h2; simp [num]
theorem packAt_get (L : List Bool) (n k : Nat) (h : k / 8 < n) (hk : k < L.length) : (packAt L n k)[k / 8]'(by rw [packAt_len]; exact h) = UInt8.ofNat (num (((L.take k).drop (8 * (k / 8))))) := by
  unfold packAt
  simp only [List.getElem_map, List.getElem_range]
  rw [List.take_of_length_le (by simp; omega)]
theorem cur_lt (L : List Bool) (k : Nat) (hk : k < L.length) : num ((L.take k).drop (8 * (k / 8))) < 2 ^ (k % 8) := by
  have := num_lt ((L.take k).drop (8 * (k / 8)))
  rwa [List.length_drop, List.length_take, show min k L.length - 8 * (k / 8) = k % 8 from by omega] at this
theorem packAt_at (L : List Bool) (n k j : Nat) (h : j < (packAt L n k).length) : (packAt L n k)[j] = UInt8.ofNat (num (((L.take k).drop (8 * j)).take 8)) := by simp [packAt]
theorem packAt_set (L : List Bool) (n k : Nat) (hk : k < L.length) :
    (packAt L n k).set (k / 8) (UInt8.ofNat (num ((L.take k).drop (8 * (k / 8))) + 2 ^ (k % 8) * (L[k]).toNat)) = packAt L n (k + 1) := by
  apply List.ext_getElem
  · simp [packAt]
  · intro j h1 h2
    rw [List.getElem_set, packAt_at, packAt_at]
    rw [packAt_len] at h2
    by_cases hj : k / 8 = j
    · subst hj
      rw [if_pos rfl, List.take_succ_eq_append_getElem hk, List.drop_append_of_le_length (by simp; omega), List.take_of_length_le (l := (L.take k).drop (8 * (k / 8)) ++ [L[k]]) (by simp; omega), num_snoc]
      congr 3
      simp only [List.length_drop, List.length_take]
      congr 1
      omega
    · rw [if_neg hj]
      by_cases hlt : k < 8 * j
      · rw [List.drop_of_length_le (by simp; omega), List.drop_of_length_le (by simp; omega)]
      · rw [List.take_succ_eq_append_getElem hk, List.drop_append_of_le_length (by simp; omega), List.take_append_of_le_length (by simp; omega)]
theorem u8_put (c m b : Nat) (hm : m < 8) (hc : c < 2 ^ m) (hb : b ≤ 1) : bits .or .u8 (c : Int) ((b : Int) * 2 ^ m) = ((c + 2 ^ m * b : Nat) : Int) := by
  have h7 : 2 ^ m ≤ 2 ^ 7 := Nat.pow_le_pow_right (by omega) (by omega)
  have e : (b : Int) * 2 ^ m = ((b * 2 ^ m : Nat) : Int) := by push_cast; rfl
  have hbm : b * 2 ^ m ≤ 1 * 2 ^ m := Nat.mul_le_mul_right _ hb
  rw [e, u8_or_nat _ _ (by omega) (by omega), or_join m c b hc]

set_option maxRecDepth 100000 in
set_option maxHeartbeats 2000000 in
theorem refbytes_any (L : List Bool) (w : World) (hl : L.length ≤ 1000000000) :
    Calls Tryd.prog 22 #[.string (txt L)] w fun e w' => e = .returned (.slice (some ⟨w.heap.size, 0, none⟩) ((L.length + 7) / 8) ((L.length + 7) / 8)) ∧ Hid (Own 5 w.heap.size w' (.slice (some ⟨w.heap.size, 0, none⟩) ((L.length + 7) / 8) ((L.length + 7) / 8)) (pack L)) ∧ Below w.heap.size w w' := by
  have htl := txt_len L
  obtain ⟨s, hs⟩ : ∃ s, s = txt L := ⟨_, rfl⟩
  have hg : ∀ k (h : k < L.length) (h2 : k < s.size), s[k] = chB L[k] := by
    subst hs; intro k h h2; exact txt_get L k h2
  rw [← hs] at htl ⊢
  have HG := Lib.hid hg
  have HTL := Lib.hid htl
  have hsz : s.size ≤ 1000000000 := by omega
  obtain ⟨n, hn⟩ : ∃ n, n = (L.length + 7) / 8 := ⟨_, rfl⟩
  rw [← hn]
  have HN : Hid (n = (s.size + 7) / 8) := Lib.hid (by rw [hn, htl])
  have HW := Lib.hid (Below.refl w.heap.size w)
  have hn2 : n ≤ 1000000000 := by omega
  have HF : Hid (packAt L n s.size = pack L) := Lib.hid (by rw [hn, htl, packAt_full])
  have HNL := Lib.hid hn
  clear hg hs htl hn
  go_enter Tryd.func22, Tryd.ntmps22
  go_wp2_with (at_make; refine wpList_make_bytes _ rfl (.tmp 8) (.tmp 8) 26 rfl w.heap.size 5 Tryd.underlying26 info5 .i64 .i64 ((s.size + 7) / 8) (by rfl) (by rfl) (by omega) (Nat.le_refl _) ?_)
  intro w1 hown hg
  rw [← HN.out] at hown ⊢
  have HB := Lib.hid (grown_none_below (Below.refl w.heap.size w) hg (Nat.le_refl _))
  have HO : Hid (Own 5 w.heap.size w1 (.slice (some ⟨w.heap.size, 0, none⟩) n n) (packAt L n 0)) := Lib.hid (by rw [packAt_zero]; exact hown)
  clear hown hg
  go_wp2_with fail
  generalize hB : w.heap.size = g at *
  go_loopw [4] (fun i wr => ∃ k : Nat, k ≤ s.size ∧ i = .int .i64 (k : Int) ∧ Hid (Own 5 g wr (.slice (some ⟨g, 0, none⟩) n n) (packAt L n k)) ∧ Hid (Below g w wr)) (fun i _ => s.size - (intOf i).toNat)
  case atStart => exact ⟨0, Nat.zero_le _, rfl, HO, HB⟩
  case round =>
    clear HO HB
    obtain ⟨k, hk, rfl, HO, HB⟩ := hrel
    by_cases hlt : k < s.size
    · have hkn : k / 8 < n := by have := HN.out; omega
      have hkL : k < L.length := by have := HTL.out; omega
      have hcell := own_cell HO.out (packAt_len _ _ _) (k / 8) (by rw [packAt_len]; exact hkn)
      rw [packAt_get L n k hkn hkL] at hcell
      have hfree := own_free HO.out (packAt_len _ _ _) (k / 8)
      have hcur := cur_lt L k hkL
      have hset := packAt_set L n k hkL
      have hs1 := HG.out k hkL hlt
      generalize num ((L.take k).drop (8 * (k / 8))) = c at *
      have hq1 : (0 : Int) ≤ (k : Int) / 8 := by omega
      have hq2 : (k : Int) / 8 < (n : Int) := by omega
      have hk1 : (k : Int) < (s.size : Int) := by omega
      have hm1 : (0 : Int) ≤ (k : Int) % 8 := by omega
      have ht1 : ((k : Int) / 8).toNat = k / 8 := by omega
      obtain ⟨b, hb⟩ : ∃ b, b = L[k] := ⟨_, rfl⟩
      rw [← hb] at hset hs1
      have hb1 : b.toNat ≤ 1 := Bool.toNat_le b
      have hcb := chB_nat b
      have h7 : 2 ^ (k % 8) ≤ 2 ^ 7 := Nat.pow_le_pow_right (by omega) (by omega)
      have hp0 : 0 < 2 ^ (k % 8) := Nat.two_pow_pos _
      have hbm : b.toNat * 2 ^ (k % 8) ≤ 1 * 2 ^ (k % 8) := Nat.mul_le_mul_right _ hb1
      have hcc : c < 256 := by omega
      have hcell' : wr.cell? ⟨g, k / 8, none⟩ = some (.int .u8 (c : Int)) := by
        rw [hcell]; unfold bv; rw [UInt8.toNat_ofNat', Nat.mod_eq_of_lt hcc]
      have hput := u8_put c (k % 8) b.toNat (Nat.mod_lt _ (by omega)) hcur hb1
      have hsub : IntKind.u8.wrap (((chB b).toNat : Int) - 48) = (b.toNat : Int) := by
        rw [hcb, IntWalk.u8_in _ (by omega)]; omega
      have hmod : (k : Int).tmod 8 = (k : Int) % 8 := Int.tmod_eq_emod_of_nonneg (by omega)
      have hw2 : IntKind.u64.wrap ((k : Int) % 8) = (k : Int) % 8 := IntWalk.u64_in _ (by omega)
      have ht2 : ((k : Int) % 8).toNat = k % 8 := by omega
      have hw4 : min (k % 8) 8 = k % 8 := by omega
      have hw3 : IntKind.u8.wrap ((b.toNat : Int) * 2 ^ (k % 8)) = (b.toNat : Int) * 2 ^ (k % 8) := IntWalk.u8_in _ (by
        have e : (b.toNat : Int) * 2 ^ (k % 8) = ((b.toNat * 2 ^ (k % 8) : Nat) : Int) := by push_cast; rfl
        rw [e]; omega)
      have hsum : c + 2 ^ (k % 8) * b.toNat < 256 := by rw [Nat.mul_comm]; omega
      have hw1 : IntKind.i64.wrap ((k : Int) / 8) = (k : Int) / 8 := IntWalk.i64_in _ (by omega)
      have HSET := Lib.hid hset
      have HSUM := Lib.hid hsum
      have HB1 := Lib.hid hb
      clear hset hsum hb hcell hcur hcc h7 hp0 hbm hcb hb1
      go_wp2_with fail
      go_still_tail 18, (by kernel_rfl)
      change wpList _ _ _ _ _ wr.drew
      have HO2 : Hid (Own 5 g wr.drew (.slice (some ⟨g, 0, none⟩) n n) (packAt L n k)) := HO
      have HB2 : Hid (Below g w wr.drew) := Lib.hid HB.out.drew
      have hfree2 : wr.drew.frozen? ⟨g, k / 8, none⟩ = false := hfree
      have hcell2 : wr.drew.cell? ⟨g, k / 8, none⟩ = some (.int .u8 (c : Int)) := hcell'
      clear HO HB hfree hcell'
      generalize wr.drew = w2 at *
      clear hw1 hw2 ht2 hw4 hw3 hmod hsub ht1 hs1
      go_wp2_with fail
      have HO1 := own_store HO2.out (packAt_len _ _ _) (k / 8) (UInt8.ofNat (c + 2 ^ (k % 8) * b.toNat))
      rw [HSET.out] at HO1
      unfold bv at HO1
      rw [UInt8.toNat_ofNat', Nat.mod_eq_of_lt (HSUM.out)] at HO1
      go_roundw
      case rel => exact ⟨k + 1, by omega, by go_num, Lib.hid HO1, Lib.hid (HB2.out.setCell (p := ⟨g, k / 8, none⟩) (Nat.le_refl _) _)⟩
      case measure => simp [intOf]; omega
    · obtain rfl : k = s.size := by omega
      rw [HF.out] at HO
      go_wp2_with fail
      go_ret
      subst hB
      exact ⟨rfl, HO, HB.out⟩

end Go.Proofs.YtkaagenmkjkaeaaDoor.RefC
end

section
/-
  InflateKnown's streams: how the machine ends, what comes out.
-/
namespace Go.Proofs.YtkaagenmkjkaeaaDoor.InfC
open Go.RowKit Go.My BitMath CanMath TabMath WinMath FeedC TabC CanC

/-- The known streams, as bits. -/
def knownBits : List (List Bool) := ([
  "1100000000",
  "110011100010000000",
  "110011100010000010000000000000",
  "1100000010000000000000",
  "110011100010000010000010000000",
  "110011100010000010111100000000",
  "11011000110",
  "111",
  "100000001000000000000000011111111111111110000110",
  "100000001000000000000000111111111111111110000110",
  "0100000000110011100010000000",
  "10101111000000000",
  "10100000011110000",
  "10100000000000000000000000000",
  "1100111000111000101000000000000"] : List String).map fun s => s.toList.map (· == '1')
def knownBytes (n : Nat) : List UInt8 := pack (knownBits.getD n [])
def knownCode (n : Nat) : Nat := if n ∈ [3, 4, 5, 6, 7, 9, 11, 12, 13] then 2 else 0
def knownOut (n : Nat) : List UInt8 := if n = 14 then List.replicate 259 65 else ([[], [65], [65, 65, 65, 65, 65], [], [], [], [], [], [97], [], [65], [], [], [], []] : List (List UInt8)).getD n []
def knownIs (n : Nat) (r : InfMath.M × Option Nat) : Bool := r.2 == some (knownCode n) && (knownCode n == 2 || r.1.out == knownOut n)
theorem known_is : ∀ n : Fin 15, knownIs n (InfMath.run 400 (began false 32768 300 (knownBytes n))) = true := by decide +kernel
theorem known_ends (n : Nat) (h : n < 15) : ∃ t, InfMath.Ends (began false 32768 300 (knownBytes n)) t (knownCode n) ∧ (knownCode n = 0 → t.out = knownOut n) := by
  have hk := known_is ⟨n, h⟩
  unfold knownIs at hk
  simp only [Bool.and_eq_true, beq_iff_eq, Bool.or_eq_true] at hk
  refine ⟨_, ends_run hk.1, fun h0 => ?_⟩
  rcases hk.2 with h2 | h2
  · rw [h0] at h2; cases h2
  · exact h2
end Go.Proofs.YtkaagenmkjkaeaaDoor.InfC
end

section
/-
  InflateKnown's law.
-/
namespace Go.Proofs.YtkaagenmkjkaeaaDoor.InfC
open Go.RowKit Go.My BitMath CanMath TabMath WinMath FeedC TabC CanC RefC

theorem place_len (z : Int) (h1 : -9223372036854775808 ≤ z) (h2 : z ≤ 9223372036854775807) : ∃ n : Nat, n < 15 ∧ (wrap64 (z.tmod 15 + 15)).tmod 15 = (n : Int) ∧ (z.tmod 15 + 15).tmod 15 = (n : Int) := place_in z 15 (by omega) (by omega) h1 h2
/-- What is wanted: '!' where it is refused. -/
def knownWant (n : Nat) : List UInt8 := if n = 14 then [] else if knownCode n = 2 then [33] else knownOut n
theorem known_row (n : Nat) (h : n < 15) : (#[.string ⟨#[49, 49, 48, 48, 48, 48, 48, 48, 48, 48]⟩, .string ⟨#[49, 49, 48, 48, 49, 49, 49, 48, 48, 48, 49, 48, 48, 48, 48, 48, 48, 48]⟩, .string ⟨#[49, 49, 48, 48, 49, 49, 49, 48, 48, 48, 49, 48, 48, 48, 48, 48, 49, 48, 48, 48, 48, 48, 48, 48, 48, 48, 48, 48, 48, 48]⟩, .string ⟨#[49, 49, 48, 48, 48, 48, 48, 48, 49, 48, 48, 48, 48, 48, 48, 48, 48, 48, 48, 48, 48, 48]⟩, .string ⟨#[49, 49, 48, 48, 49, 49, 49, 48, 48, 48, 49, 48, 48, 48, 48, 48, 49, 48, 48, 48, 48, 48, 49, 48, 48, 48, 48, 48, 48, 48]⟩, .string ⟨#[49, 49, 48, 48, 49, 49, 49, 48, 48, 48, 49, 48, 48, 48, 48, 48, 49, 48, 49, 49, 49, 49, 48, 48, 48, 48, 48, 48, 48, 48]⟩, .string ⟨#[49, 49, 48, 49, 49, 48, 48, 48, 49, 49, 48]⟩, .string ⟨#[49, 49, 49]⟩, .string ⟨#[49, 48, 48, 48, 48, 48, 48, 48, 49, 48, 48, 48, 48, 48, 48, 48, 48, 48, 48, 48, 48, 48, 48, 48, 48, 49, 49, 49, 49, 49, 49, 49, 49, 49, 49, 49, 49, 49, 49, 49, 49, 48, 48, 48, 48, 49, 49, 48]⟩, .string ⟨#[49, 48, 48, 48, 48, 48, 48, 48, 49, 48, 48, 48, 48, 48, 48, 48, 48, 48, 48, 48, 48, 48, 48, 48, 49, 49, 49, 49, 49, 49, 49, 49, 49, 49, 49, 49, 49, 49, 49, 49, 49, 48, 48, 48, 48, 49, 49, 48]⟩, .string ⟨#[48, 49, 48, 48, 48, 48, 48, 48, 48, 48, 49, 49, 48, 48, 49, 49, 49, 48, 48, 48, 49, 48, 48, 48, 48, 48, 48, 48]⟩, .string ⟨#[49, 48, 49, 48, 49, 49, 49, 49, 48, 48, 48, 48, 48, 48, 48, 48, 48]⟩, .string ⟨#[49, 48, 49, 48, 48, 48, 48, 48, 48, 49, 49, 49, 49, 48, 48, 48, 48]⟩, .string ⟨#[49, 48, 49, 48, 48, 48, 48, 48, 48, 48, 48, 48, 48, 48, 48, 48, 48, 48, 48, 48, 48, 48, 48, 48, 48, 48, 48, 48, 48]⟩, .string ⟨#[49, 49, 48, 48, 49, 49, 49, 48, 48, 48, 49, 49, 49, 48, 48, 48, 49, 48, 49, 48, 48, 48, 48, 48, 48, 48, 48, 48, 48, 48, 48]⟩] : Array Value)[n]? = some (.string (txt (knownBits.getD n []))) := by
  have : n = 0 ∨ n = 1 ∨ n = 2 ∨ n = 3 ∨ n = 4 ∨ n = 5 ∨ n = 6 ∨ n = 7 ∨ n = 8 ∨ n = 9 ∨ n = 10 ∨ n = 11 ∨ n = 12 ∨ n = 13 ∨ n = 14 := by omega
  rcases this with rfl | rfl | rfl | rfl | rfl | rfl | rfl | rfl | rfl | rfl | rfl | rfl | rfl | rfl | rfl <;> rfl
theorem want_row (n : Nat) (h : n < 15) : (#[.string ⟨#[]⟩, .string ⟨#[65]⟩, .string ⟨#[65, 65, 65, 65, 65]⟩, .string ⟨#[33]⟩, .string ⟨#[33]⟩, .string ⟨#[33]⟩, .string ⟨#[33]⟩, .string ⟨#[33]⟩, .string ⟨#[97]⟩, .string ⟨#[33]⟩, .string ⟨#[65]⟩, .string ⟨#[33]⟩, .string ⟨#[33]⟩, .string ⟨#[33]⟩, .string ⟨#[]⟩] : Array Value)[n]? = some (.string ⟨(knownWant n).toArray⟩) := by
  have : n = 0 ∨ n = 1 ∨ n = 2 ∨ n = 3 ∨ n = 4 ∨ n = 5 ∨ n = 6 ∨ n = 7 ∨ n = 8 ∨ n = 9 ∨ n = 10 ∨ n = 11 ∨ n = 12 ∨ n = 13 ∨ n = 14 := by omega
  rcases this with rfl | rfl | rfl | rfl | rfl | rfl | rfl | rfl | rfl | rfl | rfl | rfl | rfl | rfl | rfl <;> rfl
theorem known_len : ∀ n : Fin 15, (knownBits.getD n.val []).length ≤ 100 := by decide +kernel
theorem known_cases : ∀ n : Fin 15, (n.val = 14 ∧ knownCode n.val = 0 ∧ (knownOut n.val).length = 259) ∨ (n.val ≠ 14 ∧ knownCode n.val = 2 ∧ knownWant n.val = [33]) ∨ (n.val ≠ 14 ∧ knownCode n.val = 0 ∧ knownWant n.val = knownOut n.val ∧ knownOut n.val ∈ ([[], [65], [65, 65, 65, 65, 65], [97]] : List (List UInt8))) := by decide +kernel

section
variable {w : World} {B n x m oc : Nat} {oa : Option Addr} {l : List UInt8} {C : Array UInt8}
/-- What stays while told is asked. -/
def KnS (w : World) (B x n m : Nat) (oa : Option Addr) (oc : Nat) (l : List UInt8) (C : Array UInt8) (w' : World) : Prop :=
  Hid (Below w.heap.size w w' ∧ x < w'.heap.size ∧ Own 5 B w' (.slice oa m oc) l ∧ l.toArray = C) ∧ w'.cell? ⟨x, n, none⟩ = some (.string ⟨C⟩) ∧ (convert 26 9 (.slice oa m oc)).run Tryd.prog w' = .ok (.string ⟨C⟩) w'
theorem conv_c {W : World} (h2 : Own 5 B W (.slice oa m oc) l) (hC : l.toArray = C) : (convert 26 9 (.slice oa m oc)).run Tryd.prog W = .ok (.string ⟨C⟩) W := by
  rw [← hC]; exact conv_own h2
theorem known_keep {w2 : World} (h1 : Below w.heap.size w w2) (h2 : Own 5 B w2 (.slice oa m oc) l) (hC : l.toArray = C) (h3 : w2.cell? ⟨x, n, none⟩ = some (.string ⟨C⟩)) (h4 : x < w2.heap.size) : KnS w B x n m oa oc l C w2 :=
  ⟨Lib.hid ⟨h1, h4, h2, hC⟩, h3, conv_c h2 hC⟩
theorem known_drew {w2 : World} (h : KnS w B x n m oa oc l C w2) : KnS w B x n m oa oc l C w2.drew :=
  ⟨Lib.hid ⟨h.1.out.1.drew, h.1.out.2.1, h.1.out.2.2⟩, h.2.1, conv_c (W := w2.drew) h.1.out.2.2.1 h.1.out.2.2.2⟩
theorem known_told (hO : Ordr w.heap.size w) (W : World) (h : KnS w B x n m oa oc l C W) : Calls Tryd.prog 12 #[] W fun e w' => e = .returned (.bool true) ∧ KnS w B x n m oa oc l C w' :=
  (told_any W (hO.up h.1.out.1)).mono fun e w' ⟨he, hb⟩ => by
    have h2 := h.1.out.2.2.1.below (Nat.le_refl _) hb
    exact ⟨he, Lib.hid ⟨h.1.out.1.trans (hb.mono h.1.out.1.size), Nat.lt_of_lt_of_le h.1.out.2.1 hb.size, h2, h.1.out.2.2.2⟩, (hb.cell (p := ⟨x, n, none⟩) h.1.out.2.1).trans h.2.1, conv_c h2 h.1.out.2.2.2⟩
end
set_option maxRecDepth 100000 in
set_option maxHeartbeats 8000000 in
theorem known_law (z : Int) (w : World) (h1 : -9223372036854775808 ≤ z) (h2 : z ≤ 9223372036854775807) (hO : Ordr w.heap.size w) :
    Calls Tryd.prog 7 #[.int .i64 z] w fun e w' => e = .returned (.bool true) ∧ Below w.heap.size w w' := by
  obtain ⟨n, hn, eN, eN2⟩ := place_len z h1 h2
  have HO := Lib.hid hO
  clear hO
  go_enter Tryd.func7, Tryd.ntmps7
  go_upto_region 4 with (fail)
  have hc1 : ((w.alloc (.cells #[.string ⟨#[49, 49, 48, 48, 48, 48, 48, 48, 48, 48]⟩, .string ⟨#[49, 49, 48, 48, 49, 49, 49, 48, 48, 48, 49, 48, 48, 48, 48, 48, 48, 48]⟩, .string ⟨#[49, 49, 48, 48, 49, 49, 49, 48, 48, 48, 49, 48, 48, 48, 48, 48, 49, 48, 48, 48, 48, 48, 48, 48, 48, 48, 48, 48, 48, 48]⟩, .string ⟨#[49, 49, 48, 48, 48, 48, 48, 48, 49, 48, 48, 48, 48, 48, 48, 48, 48, 48, 48, 48, 48, 48]⟩, .string ⟨#[49, 49, 48, 48, 49, 49, 49, 48, 48, 48, 49, 48, 48, 48, 48, 48, 49, 48, 48, 48, 48, 48, 49, 48, 48, 48, 48, 48, 48, 48]⟩, .string ⟨#[49, 49, 48, 48, 49, 49, 49, 48, 48, 48, 49, 48, 48, 48, 48, 48, 49, 48, 49, 49, 49, 49, 48, 48, 48, 48, 48, 48, 48, 48]⟩, .string ⟨#[49, 49, 48, 49, 49, 48, 48, 48, 49, 49, 48]⟩, .string ⟨#[49, 49, 49]⟩, .string ⟨#[49, 48, 48, 48, 48, 48, 48, 48, 49, 48, 48, 48, 48, 48, 48, 48, 48, 48, 48, 48, 48, 48, 48, 48, 48, 49, 49, 49, 49, 49, 49, 49, 49, 49, 49, 49, 49, 49, 49, 49, 49, 48, 48, 48, 48, 49, 49, 48]⟩, .string ⟨#[49, 48, 48, 48, 48, 48, 48, 48, 49, 48, 48, 48, 48, 48, 48, 48, 48, 48, 48, 48, 48, 48, 48, 48, 49, 49, 49, 49, 49, 49, 49, 49, 49, 49, 49, 49, 49, 49, 49, 49, 49, 48, 48, 48, 48, 49, 49, 48]⟩, .string ⟨#[48, 49, 48, 48, 48, 48, 48, 48, 48, 48, 49, 49, 48, 48, 49, 49, 49, 48, 48, 48, 49, 48, 48, 48, 48, 48, 48, 48]⟩, .string ⟨#[49, 48, 49, 48, 49, 49, 49, 49, 48, 48, 48, 48, 48, 48, 48, 48, 48]⟩, .string ⟨#[49, 48, 49, 48, 48, 48, 48, 48, 48, 49, 49, 49, 49, 48, 48, 48, 48]⟩, .string ⟨#[49, 48, 49, 48, 48, 48, 48, 48, 48, 48, 48, 48, 48, 48, 48, 48, 48, 48, 48, 48, 48, 48, 48, 48, 48, 48, 48, 48, 48]⟩, .string ⟨#[49, 49, 48, 48, 49, 49, 49, 48, 48, 48, 49, 49, 49, 48, 48, 48, 49, 48, 49, 48, 48, 48, 48, 48, 48, 48, 48, 48, 48, 48, 48]⟩] 9)).alloc (.cells #[.string ⟨#[]⟩, .string ⟨#[65]⟩, .string ⟨#[65, 65, 65, 65, 65]⟩, .string ⟨#[33]⟩, .string ⟨#[33]⟩, .string ⟨#[33]⟩, .string ⟨#[33]⟩, .string ⟨#[33]⟩, .string ⟨#[97]⟩, .string ⟨#[33]⟩, .string ⟨#[65]⟩, .string ⟨#[33]⟩, .string ⟨#[33]⟩, .string ⟨#[33]⟩, .string ⟨#[]⟩] 9)).cell? ⟨w.heap.size, n, none⟩ = some (.string (txt (knownBits.getD n []))) := by
    rw [((Blk.new w 9 #[.string ⟨#[49, 49, 48, 48, 48, 48, 48, 48, 48, 48]⟩, .string ⟨#[49, 49, 48, 48, 49, 49, 49, 48, 48, 48, 49, 48, 48, 48, 48, 48, 48, 48]⟩, .string ⟨#[49, 49, 48, 48, 49, 49, 49, 48, 48, 48, 49, 48, 48, 48, 48, 48, 49, 48, 48, 48, 48, 48, 48, 48, 48, 48, 48, 48, 48, 48]⟩, .string ⟨#[49, 49, 48, 48, 48, 48, 48, 48, 49, 48, 48, 48, 48, 48, 48, 48, 48, 48, 48, 48, 48, 48]⟩, .string ⟨#[49, 49, 48, 48, 49, 49, 49, 48, 48, 48, 49, 48, 48, 48, 48, 48, 49, 48, 48, 48, 48, 48, 49, 48, 48, 48, 48, 48, 48, 48]⟩, .string ⟨#[49, 49, 48, 48, 49, 49, 49, 48, 48, 48, 49, 48, 48, 48, 48, 48, 49, 48, 49, 49, 49, 49, 48, 48, 48, 48, 48, 48, 48, 48]⟩, .string ⟨#[49, 49, 48, 49, 49, 48, 48, 48, 49, 49, 48]⟩, .string ⟨#[49, 49, 49]⟩, .string ⟨#[49, 48, 48, 48, 48, 48, 48, 48, 49, 48, 48, 48, 48, 48, 48, 48, 48, 48, 48, 48, 48, 48, 48, 48, 48, 49, 49, 49, 49, 49, 49, 49, 49, 49, 49, 49, 49, 49, 49, 49, 49, 48, 48, 48, 48, 49, 49, 48]⟩, .string ⟨#[49, 48, 48, 48, 48, 48, 48, 48, 49, 48, 48, 48, 48, 48, 48, 48, 48, 48, 48, 48, 48, 48, 48, 48, 49, 49, 49, 49, 49, 49, 49, 49, 49, 49, 49, 49, 49, 49, 49, 49, 49, 48, 48, 48, 48, 49, 49, 48]⟩, .string ⟨#[48, 49, 48, 48, 48, 48, 48, 48, 48, 48, 49, 49, 48, 48, 49, 49, 49, 48, 48, 48, 49, 48, 48, 48, 48, 48, 48, 48]⟩, .string ⟨#[49, 48, 49, 48, 49, 49, 49, 49, 48, 48, 48, 48, 48, 48, 48, 48, 48]⟩, .string ⟨#[49, 48, 49, 48, 48, 48, 48, 48, 48, 49, 49, 49, 49, 48, 48, 48, 48]⟩, .string ⟨#[49, 48, 49, 48, 48, 48, 48, 48, 48, 48, 48, 48, 48, 48, 48, 48, 48, 48, 48, 48, 48, 48, 48, 48, 48, 48, 48, 48, 48]⟩, .string ⟨#[49, 49, 48, 48, 49, 49, 49, 48, 48, 48, 49, 49, 49, 48, 48, 48, 49, 48, 49, 48, 48, 48, 48, 48, 48, 48, 48, 48, 48, 48, 48]⟩]).alloc (.cells #[.string ⟨#[]⟩, .string ⟨#[65]⟩, .string ⟨#[65, 65, 65, 65, 65]⟩, .string ⟨#[33]⟩, .string ⟨#[33]⟩, .string ⟨#[33]⟩, .string ⟨#[33]⟩, .string ⟨#[33]⟩, .string ⟨#[97]⟩, .string ⟨#[33]⟩, .string ⟨#[65]⟩, .string ⟨#[33]⟩, .string ⟨#[33]⟩, .string ⟨#[33]⟩, .string ⟨#[]⟩] 9)).cell n]; exact known_row n hn
  have hc2 : ((w.alloc (.cells #[.string ⟨#[49, 49, 48, 48, 48, 48, 48, 48, 48, 48]⟩, .string ⟨#[49, 49, 48, 48, 49, 49, 49, 48, 48, 48, 49, 48, 48, 48, 48, 48, 48, 48]⟩, .string ⟨#[49, 49, 48, 48, 49, 49, 49, 48, 48, 48, 49, 48, 48, 48, 48, 48, 49, 48, 48, 48, 48, 48, 48, 48, 48, 48, 48, 48, 48, 48]⟩, .string ⟨#[49, 49, 48, 48, 48, 48, 48, 48, 49, 48, 48, 48, 48, 48, 48, 48, 48, 48, 48, 48, 48, 48]⟩, .string ⟨#[49, 49, 48, 48, 49, 49, 49, 48, 48, 48, 49, 48, 48, 48, 48, 48, 49, 48, 48, 48, 48, 48, 49, 48, 48, 48, 48, 48, 48, 48]⟩, .string ⟨#[49, 49, 48, 48, 49, 49, 49, 48, 48, 48, 49, 48, 48, 48, 48, 48, 49, 48, 49, 49, 49, 49, 48, 48, 48, 48, 48, 48, 48, 48]⟩, .string ⟨#[49, 49, 48, 49, 49, 48, 48, 48, 49, 49, 48]⟩, .string ⟨#[49, 49, 49]⟩, .string ⟨#[49, 48, 48, 48, 48, 48, 48, 48, 49, 48, 48, 48, 48, 48, 48, 48, 48, 48, 48, 48, 48, 48, 48, 48, 48, 49, 49, 49, 49, 49, 49, 49, 49, 49, 49, 49, 49, 49, 49, 49, 49, 48, 48, 48, 48, 49, 49, 48]⟩, .string ⟨#[49, 48, 48, 48, 48, 48, 48, 48, 49, 48, 48, 48, 48, 48, 48, 48, 48, 48, 48, 48, 48, 48, 48, 48, 49, 49, 49, 49, 49, 49, 49, 49, 49, 49, 49, 49, 49, 49, 49, 49, 49, 48, 48, 48, 48, 49, 49, 48]⟩, .string ⟨#[48, 49, 48, 48, 48, 48, 48, 48, 48, 48, 49, 49, 48, 48, 49, 49, 49, 48, 48, 48, 49, 48, 48, 48, 48, 48, 48, 48]⟩, .string ⟨#[49, 48, 49, 48, 49, 49, 49, 49, 48, 48, 48, 48, 48, 48, 48, 48, 48]⟩, .string ⟨#[49, 48, 49, 48, 48, 48, 48, 48, 48, 49, 49, 49, 49, 48, 48, 48, 48]⟩, .string ⟨#[49, 48, 49, 48, 48, 48, 48, 48, 48, 48, 48, 48, 48, 48, 48, 48, 48, 48, 48, 48, 48, 48, 48, 48, 48, 48, 48, 48, 48]⟩, .string ⟨#[49, 49, 48, 48, 49, 49, 49, 48, 48, 48, 49, 49, 49, 48, 48, 48, 49, 48, 49, 48, 48, 48, 48, 48, 48, 48, 48, 48, 48, 48, 48]⟩] 9)).alloc (.cells #[.string ⟨#[]⟩, .string ⟨#[65]⟩, .string ⟨#[65, 65, 65, 65, 65]⟩, .string ⟨#[33]⟩, .string ⟨#[33]⟩, .string ⟨#[33]⟩, .string ⟨#[33]⟩, .string ⟨#[33]⟩, .string ⟨#[97]⟩, .string ⟨#[33]⟩, .string ⟨#[65]⟩, .string ⟨#[33]⟩, .string ⟨#[33]⟩, .string ⟨#[33]⟩, .string ⟨#[]⟩] 9)).cell? ⟨w.heap.size + 1, n, none⟩ = some (.string ⟨(knownWant n).toArray⟩) := by
    have := (Blk.new (w.alloc (.cells #[.string ⟨#[49, 49, 48, 48, 48, 48, 48, 48, 48, 48]⟩, .string ⟨#[49, 49, 48, 48, 49, 49, 49, 48, 48, 48, 49, 48, 48, 48, 48, 48, 48, 48]⟩, .string ⟨#[49, 49, 48, 48, 49, 49, 49, 48, 48, 48, 49, 48, 48, 48, 48, 48, 49, 48, 48, 48, 48, 48, 48, 48, 48, 48, 48, 48, 48, 48]⟩, .string ⟨#[49, 49, 48, 48, 48, 48, 48, 48, 49, 48, 48, 48, 48, 48, 48, 48, 48, 48, 48, 48, 48, 48]⟩, .string ⟨#[49, 49, 48, 48, 49, 49, 49, 48, 48, 48, 49, 48, 48, 48, 48, 48, 49, 48, 48, 48, 48, 48, 49, 48, 48, 48, 48, 48, 48, 48]⟩, .string ⟨#[49, 49, 48, 48, 49, 49, 49, 48, 48, 48, 49, 48, 48, 48, 48, 48, 49, 48, 49, 49, 49, 49, 48, 48, 48, 48, 48, 48, 48, 48]⟩, .string ⟨#[49, 49, 48, 49, 49, 48, 48, 48, 49, 49, 48]⟩, .string ⟨#[49, 49, 49]⟩, .string ⟨#[49, 48, 48, 48, 48, 48, 48, 48, 49, 48, 48, 48, 48, 48, 48, 48, 48, 48, 48, 48, 48, 48, 48, 48, 48, 49, 49, 49, 49, 49, 49, 49, 49, 49, 49, 49, 49, 49, 49, 49, 49, 48, 48, 48, 48, 49, 49, 48]⟩, .string ⟨#[49, 48, 48, 48, 48, 48, 48, 48, 49, 48, 48, 48, 48, 48, 48, 48, 48, 48, 48, 48, 48, 48, 48, 48, 49, 49, 49, 49, 49, 49, 49, 49, 49, 49, 49, 49, 49, 49, 49, 49, 49, 48, 48, 48, 48, 49, 49, 48]⟩, .string ⟨#[48, 49, 48, 48, 48, 48, 48, 48, 48, 48, 49, 49, 48, 48, 49, 49, 49, 48, 48, 48, 49, 48, 48, 48, 48, 48, 48, 48]⟩, .string ⟨#[49, 48, 49, 48, 49, 49, 49, 49, 48, 48, 48, 48, 48, 48, 48, 48, 48]⟩, .string ⟨#[49, 48, 49, 48, 48, 48, 48, 48, 48, 49, 49, 49, 49, 48, 48, 48, 48]⟩, .string ⟨#[49, 48, 49, 48, 48, 48, 48, 48, 48, 48, 48, 48, 48, 48, 48, 48, 48, 48, 48, 48, 48, 48, 48, 48, 48, 48, 48, 48, 48]⟩, .string ⟨#[49, 49, 48, 48, 49, 49, 49, 48, 48, 48, 49, 49, 49, 48, 48, 48, 49, 48, 49, 48, 48, 48, 48, 48, 48, 48, 48, 48, 48, 48, 48]⟩] 9)) 9 #[.string ⟨#[]⟩, .string ⟨#[65]⟩, .string ⟨#[65, 65, 65, 65, 65]⟩, .string ⟨#[33]⟩, .string ⟨#[33]⟩, .string ⟨#[33]⟩, .string ⟨#[33]⟩, .string ⟨#[33]⟩, .string ⟨#[97]⟩, .string ⟨#[33]⟩, .string ⟨#[65]⟩, .string ⟨#[33]⟩, .string ⟨#[33]⟩, .string ⟨#[33]⟩, .string ⟨#[]⟩]).cell n
    rw [World.size_alloc] at this
    rw [this]; exact want_row n hn
  have hB0 : Below w.heap.size w ((w.alloc (.cells #[.string ⟨#[49, 49, 48, 48, 48, 48, 48, 48, 48, 48]⟩, .string ⟨#[49, 49, 48, 48, 49, 49, 49, 48, 48, 48, 49, 48, 48, 48, 48, 48, 48, 48]⟩, .string ⟨#[49, 49, 48, 48, 49, 49, 49, 48, 48, 48, 49, 48, 48, 48, 48, 48, 49, 48, 48, 48, 48, 48, 48, 48, 48, 48, 48, 48, 48, 48]⟩, .string ⟨#[49, 49, 48, 48, 48, 48, 48, 48, 49, 48, 48, 48, 48, 48, 48, 48, 48, 48, 48, 48, 48, 48]⟩, .string ⟨#[49, 49, 48, 48, 49, 49, 49, 48, 48, 48, 49, 48, 48, 48, 48, 48, 49, 48, 48, 48, 48, 48, 49, 48, 48, 48, 48, 48, 48, 48]⟩, .string ⟨#[49, 49, 48, 48, 49, 49, 49, 48, 48, 48, 49, 48, 48, 48, 48, 48, 49, 48, 49, 49, 49, 49, 48, 48, 48, 48, 48, 48, 48, 48]⟩, .string ⟨#[49, 49, 48, 49, 49, 48, 48, 48, 49, 49, 48]⟩, .string ⟨#[49, 49, 49]⟩, .string ⟨#[49, 48, 48, 48, 48, 48, 48, 48, 49, 48, 48, 48, 48, 48, 48, 48, 48, 48, 48, 48, 48, 48, 48, 48, 48, 49, 49, 49, 49, 49, 49, 49, 49, 49, 49, 49, 49, 49, 49, 49, 49, 48, 48, 48, 48, 49, 49, 48]⟩, .string ⟨#[49, 48, 48, 48, 48, 48, 48, 48, 49, 48, 48, 48, 48, 48, 48, 48, 48, 48, 48, 48, 48, 48, 48, 48, 49, 49, 49, 49, 49, 49, 49, 49, 49, 49, 49, 49, 49, 49, 49, 49, 49, 48, 48, 48, 48, 49, 49, 48]⟩, .string ⟨#[48, 49, 48, 48, 48, 48, 48, 48, 48, 48, 49, 49, 48, 48, 49, 49, 49, 48, 48, 48, 49, 48, 48, 48, 48, 48, 48, 48]⟩, .string ⟨#[49, 48, 49, 48, 49, 49, 49, 49, 48, 48, 48, 48, 48, 48, 48, 48, 48]⟩, .string ⟨#[49, 48, 49, 48, 48, 48, 48, 48, 48, 49, 49, 49, 49, 48, 48, 48, 48]⟩, .string ⟨#[49, 48, 49, 48, 48, 48, 48, 48, 48, 48, 48, 48, 48, 48, 48, 48, 48, 48, 48, 48, 48, 48, 48, 48, 48, 48, 48, 48, 48]⟩, .string ⟨#[49, 49, 48, 48, 49, 49, 49, 48, 48, 48, 49, 49, 49, 48, 48, 48, 49, 48, 49, 48, 48, 48, 48, 48, 48, 48, 48, 48, 48, 48, 48]⟩] 9)).alloc (.cells #[.string ⟨#[]⟩, .string ⟨#[65]⟩, .string ⟨#[65, 65, 65, 65, 65]⟩, .string ⟨#[33]⟩, .string ⟨#[33]⟩, .string ⟨#[33]⟩, .string ⟨#[33]⟩, .string ⟨#[33]⟩, .string ⟨#[97]⟩, .string ⟨#[33]⟩, .string ⟨#[65]⟩, .string ⟨#[33]⟩, .string ⟨#[33]⟩, .string ⟨#[33]⟩, .string ⟨#[]⟩] 9)) := ((Below.refl _ w).alloc (Nat.le_refl _) _).alloc (by simp) _
  have hS0 : ((w.alloc (.cells #[.string ⟨#[49, 49, 48, 48, 48, 48, 48, 48, 48, 48]⟩, .string ⟨#[49, 49, 48, 48, 49, 49, 49, 48, 48, 48, 49, 48, 48, 48, 48, 48, 48, 48]⟩, .string ⟨#[49, 49, 48, 48, 49, 49, 49, 48, 48, 48, 49, 48, 48, 48, 48, 48, 49, 48, 48, 48, 48, 48, 48, 48, 48, 48, 48, 48, 48, 48]⟩, .string ⟨#[49, 49, 48, 48, 48, 48, 48, 48, 49, 48, 48, 48, 48, 48, 48, 48, 48, 48, 48, 48, 48, 48]⟩, .string ⟨#[49, 49, 48, 48, 49, 49, 49, 48, 48, 48, 49, 48, 48, 48, 48, 48, 49, 48, 48, 48, 48, 48, 49, 48, 48, 48, 48, 48, 48, 48]⟩, .string ⟨#[49, 49, 48, 48, 49, 49, 49, 48, 48, 48, 49, 48, 48, 48, 48, 48, 49, 48, 49, 49, 49, 49, 48, 48, 48, 48, 48, 48, 48, 48]⟩, .string ⟨#[49, 49, 48, 49, 49, 48, 48, 48, 49, 49, 48]⟩, .string ⟨#[49, 49, 49]⟩, .string ⟨#[49, 48, 48, 48, 48, 48, 48, 48, 49, 48, 48, 48, 48, 48, 48, 48, 48, 48, 48, 48, 48, 48, 48, 48, 48, 49, 49, 49, 49, 49, 49, 49, 49, 49, 49, 49, 49, 49, 49, 49, 49, 48, 48, 48, 48, 49, 49, 48]⟩, .string ⟨#[49, 48, 48, 48, 48, 48, 48, 48, 49, 48, 48, 48, 48, 48, 48, 48, 48, 48, 48, 48, 48, 48, 48, 48, 49, 49, 49, 49, 49, 49, 49, 49, 49, 49, 49, 49, 49, 49, 49, 49, 49, 48, 48, 48, 48, 49, 49, 48]⟩, .string ⟨#[48, 49, 48, 48, 48, 48, 48, 48, 48, 48, 49, 49, 48, 48, 49, 49, 49, 48, 48, 48, 49, 48, 48, 48, 48, 48, 48, 48]⟩, .string ⟨#[49, 48, 49, 48, 49, 49, 49, 49, 48, 48, 48, 48, 48, 48, 48, 48, 48]⟩, .string ⟨#[49, 48, 49, 48, 48, 48, 48, 48, 48, 49, 49, 49, 49, 48, 48, 48, 48]⟩, .string ⟨#[49, 48, 49, 48, 48, 48, 48, 48, 48, 48, 48, 48, 48, 48, 48, 48, 48, 48, 48, 48, 48, 48, 48, 48, 48, 48, 48, 48, 48]⟩, .string ⟨#[49, 49, 48, 48, 49, 49, 49, 48, 48, 48, 49, 49, 49, 48, 48, 48, 49, 48, 49, 48, 48, 48, 48, 48, 48, 48, 48, 48, 48, 48, 48]⟩] 9)).alloc (.cells #[.string ⟨#[]⟩, .string ⟨#[65]⟩, .string ⟨#[65, 65, 65, 65, 65]⟩, .string ⟨#[33]⟩, .string ⟨#[33]⟩, .string ⟨#[33]⟩, .string ⟨#[33]⟩, .string ⟨#[33]⟩, .string ⟨#[97]⟩, .string ⟨#[33]⟩, .string ⟨#[65]⟩, .string ⟨#[33]⟩, .string ⟨#[33]⟩, .string ⟨#[33]⟩, .string ⟨#[]⟩] 9)).heap.size = w.heap.size + 2 := by simp
  generalize (w.alloc (.cells #[.string ⟨#[49, 49, 48, 48, 48, 48, 48, 48, 48, 48]⟩, .string ⟨#[49, 49, 48, 48, 49, 49, 49, 48, 48, 48, 49, 48, 48, 48, 48, 48, 48, 48]⟩, .string ⟨#[49, 49, 48, 48, 49, 49, 49, 48, 48, 48, 49, 48, 48, 48, 48, 48, 49, 48, 48, 48, 48, 48, 48, 48, 48, 48, 48, 48, 48, 48]⟩, .string ⟨#[49, 49, 48, 48, 48, 48, 48, 48, 49, 48, 48, 48, 48, 48, 48, 48, 48, 48, 48, 48, 48, 48]⟩, .string ⟨#[49, 49, 48, 48, 49, 49, 49, 48, 48, 48, 49, 48, 48, 48, 48, 48, 49, 48, 48, 48, 48, 48, 49, 48, 48, 48, 48, 48, 48, 48]⟩, .string ⟨#[49, 49, 48, 48, 49, 49, 49, 48, 48, 48, 49, 48, 48, 48, 48, 48, 49, 48, 49, 49, 49, 49, 48, 48, 48, 48, 48, 48, 48, 48]⟩, .string ⟨#[49, 49, 48, 49, 49, 48, 48, 48, 49, 49, 48]⟩, .string ⟨#[49, 49, 49]⟩, .string ⟨#[49, 48, 48, 48, 48, 48, 48, 48, 49, 48, 48, 48, 48, 48, 48, 48, 48, 48, 48, 48, 48, 48, 48, 48, 48, 49, 49, 49, 49, 49, 49, 49, 49, 49, 49, 49, 49, 49, 49, 49, 49, 48, 48, 48, 48, 49, 49, 48]⟩, .string ⟨#[49, 48, 48, 48, 48, 48, 48, 48, 49, 48, 48, 48, 48, 48, 48, 48, 48, 48, 48, 48, 48, 48, 48, 48, 49, 49, 49, 49, 49, 49, 49, 49, 49, 49, 49, 49, 49, 49, 49, 49, 49, 48, 48, 48, 48, 49, 49, 48]⟩, .string ⟨#[48, 49, 48, 48, 48, 48, 48, 48, 48, 48, 49, 49, 48, 48, 49, 49, 49, 48, 48, 48, 49, 48, 48, 48, 48, 48, 48, 48]⟩, .string ⟨#[49, 48, 49, 48, 49, 49, 49, 49, 48, 48, 48, 48, 48, 48, 48, 48, 48]⟩, .string ⟨#[49, 48, 49, 48, 48, 48, 48, 48, 48, 49, 49, 49, 49, 48, 48, 48, 48]⟩, .string ⟨#[49, 48, 49, 48, 48, 48, 48, 48, 48, 48, 48, 48, 48, 48, 48, 48, 48, 48, 48, 48, 48, 48, 48, 48, 48, 48, 48, 48, 48]⟩, .string ⟨#[49, 49, 48, 48, 49, 49, 49, 48, 48, 48, 49, 49, 49, 48, 48, 48, 49, 48, 49, 48, 48, 48, 48, 48, 48, 48, 48, 48, 48, 48, 48]⟩] 9)).alloc (.cells #[.string ⟨#[]⟩, .string ⟨#[65]⟩, .string ⟨#[65, 65, 65, 65, 65]⟩, .string ⟨#[33]⟩, .string ⟨#[33]⟩, .string ⟨#[33]⟩, .string ⟨#[33]⟩, .string ⟨#[33]⟩, .string ⟨#[97]⟩, .string ⟨#[33]⟩, .string ⟨#[65]⟩, .string ⟨#[33]⟩, .string ⟨#[33]⟩, .string ⟨#[33]⟩, .string ⟨#[]⟩] 9) = W at *
  have HB0 := Lib.hid hB0
  have hLn := known_len ⟨n, hn⟩
  simp only at hLn
  have HBy := Lib.hid (refbytes_any (knownBits.getD n []) W (by omega))
  have HCs := Lib.hid (known_cases ⟨n, hn⟩)
  have hnI : (n : Int) < 15 := by omega
  have HK := Lib.hid (known_ends n hn)
  have hpl : (pack (knownBits.getD n [])).length = ((knownBits.getD n []).length + 7) / 8 := pack_len _
  have hkb : pack (knownBits.getD n []) = knownBytes n := rfl
  rw [hkb] at hpl HBy
  rw [← hpl] at HBy
  generalize txt (knownBits.getD n []) = s at *
  generalize knownBits.getD n [] = L at *
  have HPL : Hid ((knownBytes n).length ≤ 100) := Lib.hid (by omega)
  have HS0 := Lib.hid hS0
  clear hLn hpl hkb hB0 eN eN2 hS0
  go_wp2_with fail
  refine HBy.out.mono ?_
  rintro e w1 ⟨rfl, HOw, hb1⟩
  have HB1 := Lib.hid (HB0.out.trans (hb1.mono HB0.out.size))
  obtain ⟨ba, bc, hbv, hbb⟩ := HOw.out.bytes
  simp only [Value.slice.injEq, true_and] at hbv
  obtain ⟨rfl, rfl⟩ := hbv
  have HBB := Lib.hid hbb
  have hc2' : w1.cell? ⟨w.heap.size + 1, n, none⟩ = some (.string ⟨(knownWant n).toArray⟩) := by rw [hb1.cell (p := ⟨w.heap.size + 1, n, none⟩) (by have := HS0.out; simp only; omega)]; exact hc2
  have HC2 := Lib.hid hc2'
  have HS1 : Hid (w.heap.size + 2 ≤ w1.heap.size) := Lib.hid (by have := HS0.out; have := hb1.size; omega)
  clear hc1 hc2 hc2' HBy HOw hb1 hbb HB0 HS0
  obtain ⟨t, hE, hout⟩ := HK.out
  generalize hq : (knownBytes n).length = q at *
  rcases HCs.out with ⟨h14, hk0, hl⟩ | ⟨h14, hk2, hw⟩ | ⟨h14, hk0, hw, hm⟩
  · have ho := hout hk0
    rw [hk0] at hE
    have hA := all_ok (S := 32768) (most := 300) HBB.out (by have := HPL.out; omega) (by omega) (by omega) (by omega) (HO.out.up HB1.out) hE
    rw [ho, hl] at hA
    have HA := Lib.hid hA
    clear hA hE hout ho hk0 hl hq
    go_wp2_with fail
    refine HA.out.mono ?_
    rintro e w2 ⟨oa, oc, rfl, -, HBx⟩
    have HB2 := Lib.hid (HB1.out.trans (HBx.out.mono HB1.out.size))
    have HT := Lib.hid (told_any w2 (HO.out.up HB2.out))
    have h14I : ((n : Int) == 14) = true := by simp; omega
    clear HA HBx h14
    go_wp2_with fail
    refine HT.out.mono ?_
    rintro e w3 ⟨rfl, hb⟩
    have HB3 := Lib.hid (HB2.out.trans (hb.mono HB2.out.size))
    clear hb
    go_wp2_with fail
    go_ret
    exact ⟨rfl, HB3.out⟩
  · rw [hk2] at hE
    have HA := Lib.hid (all_err (S := 32768) (most := 300) HBB.out (by have := HPL.out; omega) (by omega) (by omega) (by omega) (HO.out.up HB1.out) hE (by decide))
    have h14I : ((n : Int) == 14) = false := by simp; omega
    clear hE hout hk2 hq h14
    go_wp2_with fail
    refine HA.out.mono ?_
    rintro e w2 ⟨rfl, HBx⟩
    have HB2 := Lib.hid (HB1.out.trans (HBx.out.mono HB1.out.size))
    have HT := Lib.hid (told_any w2 (HO.out.up HB2.out))
    have hc3 : w2.cell? ⟨w.heap.size + 1, n, none⟩ = some (.string ⟨#[33]⟩) := by
      rw [HBx.out.cell (p := ⟨w.heap.size + 1, n, none⟩) (by have := HS1.out; simp only; omega), HC2.out, hw]
    clear HA HBx hw
    go_wp2_with fail
    refine HT.out.mono ?_
    rintro e w3 ⟨rfl, hb⟩
    have HB3 := Lib.hid (HB2.out.trans (hb.mono HB2.out.size))
    clear hb
    go_wp2_with fail
    go_ret
    exact ⟨rfl, HB3.out⟩
  · have ho := hout hk0
    rw [hk0] at hE
    have hA := all_ok (S := 32768) (most := 300) HBB.out (by have := HPL.out; omega) (by omega) (by omega) (by omega) (HO.out.up HB1.out) hE
    rw [ho] at hA
    have HA := Lib.hid hA
    have h14I : ((n : Int) == 14) = false := by simp; omega
    clear hA hE hout ho hk0 hq h14
    go_wp2_with fail
    refine HA.out.mono ?_
    rintro e w2 ⟨oa, oc, rfl, HOx, HBx⟩
    have HB2 := Lib.hid (HB1.out.trans (HBx.out.mono HB1.out.size))
    have HT := Lib.hid (told_any w2 (HO.out.up HB2.out))
    have hc3 : w2.cell? ⟨w.heap.size + 1, n, none⟩ = some (.string ⟨(knownOut n).toArray⟩) := by
      rw [HBx.out.cell (p := ⟨w.heap.size + 1, n, none⟩) (by have := HS1.out; simp only; omega), HC2.out, hw]
    have HC3 := Lib.hid hc3
    clear HA HT hw hc3
    generalize knownOut n = O at *
    simp only [List.mem_cons, List.not_mem_nil, or_false] at hm
    rcases hm with rfl | rfl | rfl | rfl
    · have HK2 : Hid (KnS w w1.heap.size (w.heap.size + 1) n 0 oa oc [] #[] w2) := Lib.hid (known_keep HB2.out HOx.out rfl HC3.out (by have := HS1.out; have := HBx.out.size; omega))
      have HT := Lib.hid (fun W h => known_told (B := w1.heap.size) (oa := oa) (oc := oc) (m := 0) (l := []) (C := #[]) (x := w.heap.size + 1) (n := n) HO.out W h)
      have hc3 := HC3.out
      go_upto_region 9 with (fail)
      clear hc3
      go_region_held3 (fun w' => Hid (Below w.heap.size w w' ∧ w.heap.size + 1 < w'.heap.size ∧ Own 5 w1.heap.size w' (.slice oa 0 oc) [] ∧ ([] : List UInt8).toArray = #[]) ∧ w'.cell? ⟨w.heap.size + 1, n, none⟩ = some (.string ⟨#[]⟩) ∧ (convert 26 9 (.slice oa 0 oc)).run Tryd.prog w' = .ok (.string ⟨#[]⟩) w') (first | exact ⟨by assumption, by assumption, by assumption⟩ | exact HK2.out | exact known_drew HK2.out) (first | (go_at_call 12; refine (HT.out _ (by first | exact ⟨by assumption, by assumption, by assumption⟩ | exact known_drew HK2.out)).mono ?_; rintro e w3 ⟨rfl, hk1, hk2, hk3⟩))
      all_goals
        go_wp2_with fail
        go_ret
        exact ⟨rfl, hk1.out.1⟩
    · have HK2 : Hid (KnS w w1.heap.size (w.heap.size + 1) n 1 oa oc [65] #[65] w2) := Lib.hid (known_keep HB2.out HOx.out rfl HC3.out (by have := HS1.out; have := HBx.out.size; omega))
      have HT := Lib.hid (fun W h => known_told (B := w1.heap.size) (oa := oa) (oc := oc) (m := 1) (l := [65]) (C := #[65]) (x := w.heap.size + 1) (n := n) HO.out W h)
      have hc3 := HC3.out
      go_upto_region 9 with (fail)
      clear hc3
      go_region_held3 (fun w' => Hid (Below w.heap.size w w' ∧ w.heap.size + 1 < w'.heap.size ∧ Own 5 w1.heap.size w' (.slice oa 1 oc) [65] ∧ ([65] : List UInt8).toArray = #[65]) ∧ w'.cell? ⟨w.heap.size + 1, n, none⟩ = some (.string ⟨#[65]⟩) ∧ (convert 26 9 (.slice oa 1 oc)).run Tryd.prog w' = .ok (.string ⟨#[65]⟩) w') (first | exact ⟨by assumption, by assumption, by assumption⟩ | exact HK2.out | exact known_drew HK2.out) (first | (go_at_call 12; refine (HT.out _ (by first | exact ⟨by assumption, by assumption, by assumption⟩ | exact known_drew HK2.out)).mono ?_; rintro e w3 ⟨rfl, hk1, hk2, hk3⟩))
      all_goals
        go_wp2_with fail
        go_ret
        exact ⟨rfl, hk1.out.1⟩
    · have HK2 : Hid (KnS w w1.heap.size (w.heap.size + 1) n 5 oa oc [65, 65, 65, 65, 65] #[65, 65, 65, 65, 65] w2) := Lib.hid (known_keep HB2.out HOx.out rfl HC3.out (by have := HS1.out; have := HBx.out.size; omega))
      have HT := Lib.hid (fun W h => known_told (B := w1.heap.size) (oa := oa) (oc := oc) (m := 5) (l := [65, 65, 65, 65, 65]) (C := #[65, 65, 65, 65, 65]) (x := w.heap.size + 1) (n := n) HO.out W h)
      have hc3 := HC3.out
      go_upto_region 9 with (fail)
      clear hc3
      go_region_held3 (fun w' => Hid (Below w.heap.size w w' ∧ w.heap.size + 1 < w'.heap.size ∧ Own 5 w1.heap.size w' (.slice oa 5 oc) [65, 65, 65, 65, 65] ∧ ([65, 65, 65, 65, 65] : List UInt8).toArray = #[65, 65, 65, 65, 65]) ∧ w'.cell? ⟨w.heap.size + 1, n, none⟩ = some (.string ⟨#[65, 65, 65, 65, 65]⟩) ∧ (convert 26 9 (.slice oa 5 oc)).run Tryd.prog w' = .ok (.string ⟨#[65, 65, 65, 65, 65]⟩) w') (first | exact ⟨by assumption, by assumption, by assumption⟩ | exact HK2.out | exact known_drew HK2.out) (first | (go_at_call 12; refine (HT.out _ (by first | exact ⟨by assumption, by assumption, by assumption⟩ | exact known_drew HK2.out)).mono ?_; rintro e w3 ⟨rfl, hk1, hk2, hk3⟩))
      all_goals
        go_wp2_with fail
        go_ret
        exact ⟨rfl, hk1.out.1⟩
    · have HK2 : Hid (KnS w w1.heap.size (w.heap.size + 1) n 1 oa oc [97] #[97] w2) := Lib.hid (known_keep HB2.out HOx.out rfl HC3.out (by have := HS1.out; have := HBx.out.size; omega))
      have HT := Lib.hid (fun W h => known_told (B := w1.heap.size) (oa := oa) (oc := oc) (m := 1) (l := [97]) (C := #[97]) (x := w.heap.size + 1) (n := n) HO.out W h)
      have hc3 := HC3.out
      go_upto_region 9 with (fail)
      clear hc3
      go_region_held3 (fun w' => Hid (Below w.heap.size w w' ∧ w.heap.size + 1 < w'.heap.size ∧ Own 5 w1.heap.size w' (.slice oa 1 oc) [97] ∧ ([97] : List UInt8).toArray = #[97]) ∧ w'.cell? ⟨w.heap.size + 1, n, none⟩ = some (.string ⟨#[97]⟩) ∧ (convert 26 9 (.slice oa 1 oc)).run Tryd.prog w' = .ok (.string ⟨#[97]⟩) w') (first | exact ⟨by assumption, by assumption, by assumption⟩ | exact HK2.out | exact known_drew HK2.out) (first | (go_at_call 12; refine (HT.out _ (by first | exact ⟨by assumption, by assumption, by assumption⟩ | exact known_drew HK2.out)).mono ?_; rintro e w3 ⟨rfl, hk1, hk2, hk3⟩))
      all_goals
        go_wp2_with fail
        go_ret
        exact ⟨rfl, hk1.out.1⟩
end Go.Proofs.YtkaagenmkjkaeaaDoor.InfC
end
