/-
  The document's own answer for bits (stevedoreref5): Of, Bytes, Number. What bytes a call makes of its own. For every seat that calls them (without the functions of package bits: XBitA, XBitB are for those).
-/
import Derived.Test.YtihcebpkbkgmcaaRows
import Derived.Test.YtihcebpkbkgmcaaLib
import Derived.Test.YtihcebpkbkgmcaaBitMath
import Derived.Laws.Pointers
import Derived.Deep.QuietTactic
import Derived.BigQuiet
import Derived.StillTailTactics
namespace Go.Proofs.Ytihcebpkbkgmcaa.RefC
open Go.RowKit Go.My BitMath

theorem info5 : (Try.prog.info? 5).map (fun i => (i.zero, i.size, i.bytes)) = some (some (.int .u8 0), 1, 1) := by kernel_rfl

theorem ret_str {a b : ByteArray} (h : a = b) : Ending.returned (.string a) = .returned (.string b) := by rw [h]
/-! ### bytes written into a row of the call's own -/
theorem own_store {E : TypeId} {base : Nat} {w : World} {g n c : Nat} {l : List UInt8} (h : Own E base w (.slice (some ⟨g, 0, none⟩) n c) l) (hn : l.length = n) (i : Nat) (b : UInt8) :
    Own E base (w.setCell ⟨g, i, none⟩ (bv b)) (.slice (some ⟨g, 0, none⟩) n c) (l.set i b) := by
  subst hn
  have := (World.ownsRow.stored h i (bv b)).1
  unfold Own
  rw [List.length_set, List.map_set]
  exact this
theorem own_cell {E : TypeId} {base : Nat} {w : World} {g n c : Nat} {l : List UInt8} (h : Own E base w (.slice (some ⟨g, 0, none⟩) n c) l) (hn : l.length = n) (i : Nat) (hi : i < l.length) : w.cell? ⟨g, i, none⟩ = some (bv l[i]) := by
  subst hn
  have hl := h
  unfold Own at hl
  have hcell := World.ownsRow.cellAt hl i (by simpa using hi)
  rw [hcell, List.getElem?_map, List.getElem?_eq_getElem hi]
  rfl
theorem own_free {E : TypeId} {base : Nat} {w : World} {g n c : Nat} {l : List UInt8} (h : Own E base w (.slice (some ⟨g, 0, none⟩) n c) l) (hn : l.length = n) (i : Nat) : w.frozen? ⟨g, i, none⟩ = false := by
  subst hn
  exact World.ownsRow.frozenAt h i
theorem txt_extract (l : List Bool) (i : Nat) (h : i < l.length) : (txt l).extract i (i + 1) = txt [l[i]] := by
  apply ByteArray.ext
  rw [ByteArray.data_extract]
  unfold txt
  apply Array.ext'
  simp [List.extract_eq_take_drop]
  rw [List.drop_eq_getElem_cons (by simpa using h)]
  simp

/-- What Of has laid behind k rounds. -/
def ofAt (l : List UInt8) (k : Nat) : List UInt8 := ((bitsOf l).take k).map chB ++ List.replicate (8 * l.length - k) 0
theorem ofAt_len (l : List UInt8) (k : Nat) (h : k ≤ 8 * l.length) : (ofAt l k).length = 8 * l.length := by
  unfold ofAt; simp [bitsOf_len]; omega
theorem ofAt_set (l : List UInt8) (k : Nat) (h : k < 8 * l.length) : (ofAt l k).set k (chB ((l[k / 8]'(by omega)).toNat / 2 ^ (k % 8) % 2 == 1)) = ofAt l (k + 1) := by
  have hg := bitsOf_get l k h
  have hk : k < (bitsOf l).length := by rw [bitsOf_len]; exact h
  rw [List.getElem?_eq_getElem hk] at hg
  injection hg with hg
  unfold ofAt
  rw [List.set_append_right _ _ (by simp; omega), List.take_succ_eq_append_getElem hk, List.map_append]
  simp only [List.length_map, List.length_take, List.map_cons, List.map_nil, List.append_assoc]
  congr 1
  rw [show k - min k (bitsOf l).length = 0 from by omega, show 8 * l.length - k = (8 * l.length - (k + 1)) + 1 from by omega, List.replicate_succ, List.set_cons_zero, hg]
  rfl
theorem u8_bit (c : UInt8) (m : Nat) : bits .and .u8 ((c.toNat : Int) / 2 ^ m) 1 = (((c.toNat / 2 ^ m % 2 == 1).toNat : Nat) : Int) := by
  rw [bit_nat]
  have e : (c.toNat : Int) / 2 ^ m = ((c.toNat / 2 ^ m : Nat) : Int) := by push_cast; rfl
  have hd := Nat.div_le_self c.toNat (2 ^ m)
  have := c.toNat_lt
  rw [e, show (1 : Int) = ((1 : Nat) : Int) from rfl, u8_and_nat _ _ (by omega) (by omega), Nat.and_one_is_mod]

set_option maxRecDepth 100000 in
set_option maxHeartbeats 2000000 in
theorem refof_any (a : Option Addr) (len cap : Nat) (l : List UInt8) (w : World) (hb : Bytes w a len cap l) (hl : len ≤ 1000000000) :
    Calls Try.prog 8 #[.slice a len cap] w fun e w' => e = .returned (.string (txt (bitsOf l))) ∧ Below w.heap.size w w' := by
  obtain rfl := hb.len_eq
  have HBY := Lib.hid hb
  clear hb
  have HW := Lib.hid (Below.refl w.heap.size w)
  go_enter Try.func8, Try.ntmps8
  go_wp2_with (at_make; refine wpList_make_bytes _ rfl (.tmp 7) (.tmp 7) 25 rfl w.heap.size 5 Try.underlying25 info5 .i64 .i64 (8 * l.length) rfl rfl (by omega) (Nat.le_refl _) ?_)
  intro w1 hown hg
  have HB := Lib.hid (grown_none_below (Below.refl w.heap.size w) hg (Nat.le_refl _))
  have HO : Hid (Own 5 w.heap.size w1 (.slice (some ⟨w.heap.size, 0, none⟩) (8 * l.length) (8 * l.length)) (ofAt l 0)) := Lib.hid (by unfold ofAt; simpa using hown)
  clear hown hg
  go_wp2_with fail
  generalize hB : w.heap.size = g at *
  go_loopw [4] (fun i wr => ∃ k : Nat, k ≤ 8 * l.length ∧ i = .int .i64 (k : Int) ∧ Hid (Own 5 g wr (.slice (some ⟨g, 0, none⟩) (8 * l.length) (8 * l.length)) (ofAt l k)) ∧ Hid (Below g w wr)) (fun i _ => 8 * l.length - (intOf i).toNat)
  case atStart => exact ⟨0, Nat.zero_le _, rfl, HO, HB⟩
  case round =>
    clear HO HB
    obtain ⟨k, hk, rfl, HO, HB⟩ := hrel
    have HL : Hid ((ofAt l k).length = 8 * l.length) := Lib.hid (ofAt_len l k hk)
    by_cases hlt : k < 8 * l.length
    · have hcell := own_cell HO.out HL.out k (by rw [HL.out]; omega)
      have hfree := own_free HO.out HL.out k
      have h8 : k / 8 < l.length := by omega
      obtain ⟨b, off, rfl⟩ := HBY.out.some_ (by omega)
      have hc0 : wr.cell? ⟨b, off + k / 8, none⟩ = some (.int .u8 (l[k / 8].toNat : Int)) := by
        rcases HBY.out.at_ with h0 | ⟨b', off', ha, hs, hc⟩
        · omega
        · cases ha
          rw [HB.out.cell (p := ⟨b, off + k / 8, none⟩) (by rw [← hB]; exact hs)]
          exact hc (k / 8) h8
      have hq1 : (0 : Int) ≤ (k : Int) / 8 := by omega
      have hq2 : (k : Int) / 8 < l.length := by omega
      have hub := u8_bit l[k / 8] (k % 8)
      have hset := ofAt_set l k hlt
      have hv : (l[k / 8].toNat : Int) < 256 := by have := l[k / 8].toNat_lt; omega
      go_wp2_with fail
      have hbv : (48 + ((l[k / 8].toNat / 2 ^ (k % 8) % 2 == 1).toNat : Int)) % 256 = ((chB (l[k / 8].toNat / 2 ^ (k % 8) % 2 == 1)).toNat : Int) := by
        rw [chB_nat]; have : (l[k / 8].toNat / 2 ^ (k % 8) % 2 == 1).toNat ≤ 1 := Bool.toNat_le _; omega
      rw [hbv]
      have HO1 := own_store HO.out HL.out k (chB (l[k / 8].toNat / 2 ^ (k % 8) % 2 == 1))
      rw [hset] at HO1
      go_roundw
      case rel => exact ⟨k + 1, by omega, by go_num, Lib.hid HO1, Lib.hid (HB.out.setCell (p := ⟨g, k, none⟩) (Nat.le_refl _) _)⟩
      case measure => simp [intOf]; omega
    · obtain rfl : k = 8 * l.length := by omega
      have hol := HO.out
      have hfin : ofAt l (8 * l.length) = (bitsOf l).map chB := by
        unfold ofAt; rw [List.take_of_length_le (by rw [bitsOf_len]; omega)]; simp
      rw [hfin] at hol
      obtain ⟨a1, c1, hv1, hby⟩ := hol.bytes
      rw [show ((bitsOf l).map chB).length = 8 * l.length from by simp [bitsOf_len]] at hv1 hby
      simp only [Value.slice.injEq, true_and] at hv1
      obtain ⟨rfl, rfl⟩ := hv1
      have k1 := run_string_bytes (P := Try.prog) wr 25 9 5 Try.underlying25 Try.underlying5 Try.underlying9 hby
      rw [show (⟨((bitsOf l).map chB).toArray⟩ : ByteArray) = txt (bitsOf l) from rfl] at k1
      clear hol hby hfin
      go_wp2_with fail
      go_ret
      exact ⟨rfl, by rw [hB]; exact HB.out⟩

/-! ### bits as bytes -/
/-- What Bytes has laid behind k rounds, of n bytes. -/
def packAt (L : List Bool) (n k : Nat) : List UInt8 := (List.range n).map fun j => UInt8.ofNat (num (((L.take k).drop (8 * j)).take 8))
theorem packAt_len (L : List Bool) (n k : Nat) : (packAt L n k).length = n := by simp [packAt]
theorem packAt_full (L : List Bool) : packAt L ((L.length + 7) / 8) L.length = pack L := by unfold packAt pack; rw [List.take_length]
theorem packAt_zero (L : List Bool) (n : Nat) : packAt L n 0 = List.replicate n 0 := by
  unfold packAt
  apply List.ext_getElem
  · simp
  · intro i h1 h2; simp [num]
theorem packAt_get (L : List Bool) (n k : Nat) (h : k / 8 < n) (hk : k < L.length) : (packAt L n k)[k / 8]'(by rw [packAt_len]; exact h) = UInt8.ofNat (num (((L.take k).drop (8 * (k / 8))))) := by
  unfold packAt
  simp only [List.getElem_map, List.getElem_range]
  rw [List.take_of_length_le (by simp; omega)]
theorem cur_lt (L : List Bool) (k : Nat) (hk : k < L.length) : num ((L.take k).drop (8 * (k / 8))) < 2 ^ (k % 8) := by
  have := num_lt ((L.take k).drop (8 * (k / 8)))
  rwa [List.length_drop, List.length_take, show min k L.length - 8 * (k / 8) = k % 8 from by omega] at this
theorem packAt_at (L : List Bool) (n k j : Nat) (h : j < (packAt L n k).length) : (packAt L n k)[j] = UInt8.ofNat (num (((L.take k).drop (8 * j)).take 8)) := by simp [packAt]
theorem packAt_set (L : List Bool) (n k : Nat) (hk : k < L.length) :
    (packAt L n k).set (k / 8) (UInt8.ofNat (num ((L.take k).drop (8 * (k / 8))) + 2 ^ (k % 8) * (L[k]).toNat)) = packAt L n (k + 1) := by
  apply List.ext_getElem
  · simp [packAt]
  · intro j h1 h2
    rw [List.getElem_set, packAt_at, packAt_at]
    rw [packAt_len] at h2
    by_cases hj : k / 8 = j
    · subst hj
      rw [if_pos rfl, List.take_succ_eq_append_getElem hk, List.drop_append_of_le_length (by simp; omega), List.take_of_length_le (l := (L.take k).drop (8 * (k / 8)) ++ [L[k]]) (by simp; omega), num_snoc]
      congr 3
      simp only [List.length_drop, List.length_take]
      congr 1
      omega
    · rw [if_neg hj]
      by_cases hlt : k < 8 * j
      · rw [List.drop_of_length_le (by simp; omega), List.drop_of_length_le (by simp; omega)]
      · rw [List.take_succ_eq_append_getElem hk, List.drop_append_of_le_length (by simp; omega), List.take_append_of_le_length (by simp; omega)]
theorem u8_put (c m b : Nat) (hm : m < 8) (hc : c < 2 ^ m) (hb : b ≤ 1) : bits .or .u8 (c : Int) ((b : Int) * 2 ^ m) = ((c + 2 ^ m * b : Nat) : Int) := by
  have h7 : 2 ^ m ≤ 2 ^ 7 := Nat.pow_le_pow_right (by omega) (by omega)
  have e : (b : Int) * 2 ^ m = ((b * 2 ^ m : Nat) : Int) := by push_cast; rfl
  have hbm : b * 2 ^ m ≤ 1 * 2 ^ m := Nat.mul_le_mul_right _ hb
  rw [e, u8_or_nat _ _ (by omega) (by omega), or_join m c b hc]

set_option maxRecDepth 100000 in
set_option maxHeartbeats 2000000 in
theorem refbytes_any (L : List Bool) (w : World) (hl : L.length ≤ 1000000000) :
    Calls Try.prog 14 #[.string (txt L)] w fun e w' => e = .returned (.slice (some ⟨w.heap.size, 0, none⟩) ((L.length + 7) / 8) ((L.length + 7) / 8)) ∧ Hid (Own 5 w.heap.size w' (.slice (some ⟨w.heap.size, 0, none⟩) ((L.length + 7) / 8) ((L.length + 7) / 8)) (pack L)) ∧ Below w.heap.size w w' := by
  have htl := txt_len L
  obtain ⟨s, hs⟩ : ∃ s, s = txt L := ⟨_, rfl⟩
  have hg : ∀ k (h : k < L.length) (h2 : k < s.size), s[k] = chB L[k] := by
    subst hs; intro k h h2; exact txt_get L k h2
  rw [← hs] at htl ⊢
  have HG := Lib.hid hg
  have HTL := Lib.hid htl
  have hsz : s.size ≤ 1000000000 := by omega
  obtain ⟨n, hn⟩ : ∃ n, n = (L.length + 7) / 8 := ⟨_, rfl⟩
  rw [← hn]
  have HN : Hid (n = (s.size + 7) / 8) := Lib.hid (by rw [hn, htl])
  have HW := Lib.hid (Below.refl w.heap.size w)
  have hn2 : n ≤ 1000000000 := by omega
  have HF : Hid (packAt L n s.size = pack L) := Lib.hid (by rw [hn, htl, packAt_full])
  have HNL := Lib.hid hn
  clear hg hs htl hn
  go_enter Try.func14, Try.ntmps14
  go_wp2_with (at_make; refine wpList_make_bytes _ rfl (.tmp 8) (.tmp 8) 25 rfl w.heap.size 5 Try.underlying25 info5 .i64 .i64 ((s.size + 7) / 8) (by rfl) (by rfl) (by omega) (Nat.le_refl _) ?_)
  intro w1 hown hg
  rw [← HN.out] at hown ⊢
  have HB := Lib.hid (grown_none_below (Below.refl w.heap.size w) hg (Nat.le_refl _))
  have HO : Hid (Own 5 w.heap.size w1 (.slice (some ⟨w.heap.size, 0, none⟩) n n) (packAt L n 0)) := Lib.hid (by rw [packAt_zero]; exact hown)
  clear hown hg
  go_wp2_with fail
  generalize hB : w.heap.size = g at *
  go_loopw [4] (fun i wr => ∃ k : Nat, k ≤ s.size ∧ i = .int .i64 (k : Int) ∧ Hid (Own 5 g wr (.slice (some ⟨g, 0, none⟩) n n) (packAt L n k)) ∧ Hid (Below g w wr)) (fun i _ => s.size - (intOf i).toNat)
  case atStart => exact ⟨0, Nat.zero_le _, rfl, HO, HB⟩
  case round =>
    clear HO HB
    obtain ⟨k, hk, rfl, HO, HB⟩ := hrel
    by_cases hlt : k < s.size
    · have hkn : k / 8 < n := by have := HN.out; omega
      have hkL : k < L.length := by have := HTL.out; omega
      have hcell := own_cell HO.out (packAt_len _ _ _) (k / 8) (by rw [packAt_len]; exact hkn)
      rw [packAt_get L n k hkn hkL] at hcell
      have hfree := own_free HO.out (packAt_len _ _ _) (k / 8)
      have hcur := cur_lt L k hkL
      have hset := packAt_set L n k hkL
      have hs1 := HG.out k hkL hlt
      generalize num ((L.take k).drop (8 * (k / 8))) = c at *
      have hq1 : (0 : Int) ≤ (k : Int) / 8 := by omega
      have hq2 : (k : Int) / 8 < (n : Int) := by omega
      have hk1 : (k : Int) < (s.size : Int) := by omega
      have hm1 : (0 : Int) ≤ (k : Int) % 8 := by omega
      have ht1 : ((k : Int) / 8).toNat = k / 8 := by omega
      obtain ⟨b, hb⟩ : ∃ b, b = L[k] := ⟨_, rfl⟩
      rw [← hb] at hset hs1
      have hb1 : b.toNat ≤ 1 := Bool.toNat_le b
      have hcb := chB_nat b
      have h7 : 2 ^ (k % 8) ≤ 2 ^ 7 := Nat.pow_le_pow_right (by omega) (by omega)
      have hp0 : 0 < 2 ^ (k % 8) := Nat.two_pow_pos _
      have hbm : b.toNat * 2 ^ (k % 8) ≤ 1 * 2 ^ (k % 8) := Nat.mul_le_mul_right _ hb1
      have hcc : c < 256 := by omega
      have hcell' : wr.cell? ⟨g, k / 8, none⟩ = some (.int .u8 (c : Int)) := by
        rw [hcell]; unfold bv; rw [UInt8.toNat_ofNat', Nat.mod_eq_of_lt hcc]
      have hput := u8_put c (k % 8) b.toNat (Nat.mod_lt _ (by omega)) hcur hb1
      have hsub : IntKind.u8.wrap (((chB b).toNat : Int) - 48) = (b.toNat : Int) := by
        rw [hcb, IntWalk.u8_in _ (by omega)]; omega
      have hmod : (k : Int).tmod 8 = (k : Int) % 8 := Int.tmod_eq_emod_of_nonneg (by omega)
      have hw2 : IntKind.u64.wrap ((k : Int) % 8) = (k : Int) % 8 := IntWalk.u64_in _ (by omega)
      have ht2 : ((k : Int) % 8).toNat = k % 8 := by omega
      have hw4 : min (k % 8) 8 = k % 8 := by omega
      have hw3 : IntKind.u8.wrap ((b.toNat : Int) * 2 ^ (k % 8)) = (b.toNat : Int) * 2 ^ (k % 8) := IntWalk.u8_in _ (by
        have e : (b.toNat : Int) * 2 ^ (k % 8) = ((b.toNat * 2 ^ (k % 8) : Nat) : Int) := by push_cast; rfl
        rw [e]; omega)
      have hsum : c + 2 ^ (k % 8) * b.toNat < 256 := by rw [Nat.mul_comm]; omega
      have hw1 : IntKind.i64.wrap ((k : Int) / 8) = (k : Int) / 8 := IntWalk.i64_in _ (by omega)
      have HSET := Lib.hid hset
      have HSUM := Lib.hid hsum
      have HB1 := Lib.hid hb
      clear hset hsum hb hcell hcur hcc h7 hp0 hbm hcb hb1
      go_wp2_with fail
      go_still_tail 18, (by kernel_rfl)
      change wpList _ _ _ _ _ wr.drew
      have HO2 : Hid (Own 5 g wr.drew (.slice (some ⟨g, 0, none⟩) n n) (packAt L n k)) := HO
      have HB2 : Hid (Below g w wr.drew) := Lib.hid HB.out.drew
      have hfree2 : wr.drew.frozen? ⟨g, k / 8, none⟩ = false := hfree
      have hcell2 : wr.drew.cell? ⟨g, k / 8, none⟩ = some (.int .u8 (c : Int)) := hcell'
      clear HO HB hfree hcell'
      generalize wr.drew = w2 at *
      clear hw1 hw2 ht2 hw4 hw3 hmod hsub ht1 hs1
      go_wp2_with fail
      have HO1 := own_store HO2.out (packAt_len _ _ _) (k / 8) (UInt8.ofNat (c + 2 ^ (k % 8) * b.toNat))
      rw [HSET.out] at HO1
      unfold bv at HO1
      rw [UInt8.toNat_ofNat', Nat.mod_eq_of_lt (HSUM.out)] at HO1
      go_roundw
      case rel => exact ⟨k + 1, by omega, by go_num, Lib.hid HO1, Lib.hid (HB2.out.setCell (p := ⟨g, k / 8, none⟩) (Nat.le_refl _) _)⟩
      case measure => simp [intOf]; omega
    · obtain rfl : k = s.size := by omega
      rw [HF.out] at HO
      go_wp2_with fail
      go_ret
      subst hB
      exact ⟨rfl, HO, HB.out⟩

theorem num_drop (L : List Bool) (p : Nat) (h : p < L.length) : num (L.drop p) = (L[p]).toNat + 2 * num (L.drop (p + 1)) := by
  rw [List.drop_eq_getElem_cons h]; rfl
theorem u32_shl (x b : Nat) (hx : x < 2147483648) (hb : b ≤ 1) : bits .or .u32 ((x : Int) * 2) ((((48 + b : Nat) : Int) - 48) % 256) = ((b + 2 * x : Nat) : Int) := by
  have hb2 : b < 2 ^ 1 := by omega
  rw [show (x : Int) * 2 = ((x * 2 : Nat) : Int) from by omega, show (((48 + b : Nat) : Int) - 48) % 256 = (b : Int) from by omega, u32_or_nat _ _ (by omega) (by omega), Nat.or_comm, show x * 2 = x * 2 ^ 1 from rfl, or_join 1 b x hb2]

set_option maxHeartbeats 2000000 in
theorem refnumber_any (L : List Bool) (w : World) (hl : L.length ≤ 32) :
    Calls Try.prog 9 #[.string (txt L)] w fun e w' => e = .returned (.int .u32 ((num L : Nat) : Int)) ∧ w = w' := by
  have htl := txt_len L
  obtain ⟨s, hs⟩ : ∃ s, s = txt L := ⟨_, rfl⟩
  have hg : ∀ k (h : k < L.length) (h2 : k < s.size), s[k] = chB L[k] := by
    subst hs; intro k h h2; exact txt_get L k h2
  rw [← hs] at htl ⊢
  have HG := Lib.hid hg
  have HTL := Lib.hid htl
  have hsz : s.size ≤ 32 := by omega
  clear hg hs htl
  go_enter Try.func9, Try.ntmps9
  go_wp2_with fail
  go_loop [3, 4] (fun x i => ∃ (p : Nat), p ≤ s.size ∧ i = .int .i64 ((p : Int) - 1) ∧ x = .int .u32 ((num (L.drop p) : Nat) : Int)) (fun _ i => (intOf i + 1).toNat)
  case atStart => exact ⟨s.size, Nat.le_refl _, rfl, by rw [List.drop_of_length_le (by rw [HTL.out]; omega)]; rfl⟩
  case round =>
    obtain ⟨p, hp, rfl, rfl⟩ := hrel
    by_cases hlt : 0 < p
    · obtain ⟨q, rfl⟩ : ∃ q, p = q + 1 := ⟨p - 1, by omega⟩
      have hqL : q < L.length := by have := HTL.out; omega
      have hqs : q < s.size := by omega
      have hs1 := HG.out q hqL hqs
      have HD := Lib.hid (num_drop L q hqL)
      obtain ⟨b, hb⟩ : ∃ b, b = L[q] := ⟨_, rfl⟩
      rw [← hb] at hs1 HD
      have hb1 : b.toNat ≤ 1 := Bool.toNat_le b
      have hcb := chB_nat b
      have hx : num (L.drop (q + 1)) < 2147483648 := Nat.lt_of_lt_of_le (num_lt _) (by rw [show 2147483648 = 2 ^ 31 from rfl]; exact Nat.pow_le_pow_right (by omega) (by simp; omega))
      have hor := u32_shl _ b.toNat hx hb1
      rw [← hcb] at hor
      have HOR := Lib.hid hor
      generalize num (L.drop (q + 1)) = x at *
      clear hb hb1 hcb hor
      have hcv : ((chB b).toNat : Int) < 256 := by have := (chB b).toNat_lt; omega
      go_wp2_with fail
      go_round
      case rel => exact ⟨q, by omega, rfl, by rw [HOR.out, HD.out]⟩
      case measure => simp [intOf]
    · obtain rfl : p = 0 := by omega
      go_wp2_with fail
      go_ret
      exact ⟨rfl, rfl⟩
end Go.Proofs.Ytihcebpkbkgmcaa.RefC
