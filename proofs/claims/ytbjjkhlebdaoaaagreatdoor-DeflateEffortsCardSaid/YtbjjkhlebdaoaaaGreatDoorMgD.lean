import Derived.Test.YtbjjkhlebdaoaaaGreatDoorRows
import Derived.Test.YtbjjkhlebdaoaaaGreatDoorMgA
import Derived.Laws.Pointers
import Derived.Deep.QuietTactic
import Derived.BigQuiet
import Derived.Test.YtbjjkhlebdaoaaaGreatDoorMgC
import Derived.Test.YtbjjkhlebdaoaaaGreatDoorMgB

section
/-
  The document's own answer for bits (stevedoreref5): Put, Code alone: for seats that call Code and not Of, Bytes, Number.
-/
namespace Go.Proofs.YtbjjkhlebdaoaaaGreatDoor.RefC
open Go.RowKit Go.My BitMath

theorem u32_bit (v k : Nat) (hv : v < 4294967296) : bits .and .u32 ((v : Int) / 2 ^ k) 1 = ((v / 2 ^ k % 2 : Nat) : Int) := by
  have e : (v : Int) / 2 ^ k = ((v / 2 ^ k : Nat) : Int) := by push_cast; rfl
  have hd := Nat.div_le_self v (2 ^ k)
  rw [e, show (1 : Int) = ((1 : Nat) : Int) from rfl, u32_and_nat _ _ (by omega) (by omega), Nat.and_one_is_mod]
theorem txt_snoc (l : List Bool) (b : Bool) (q : ByteArray) (h : q = ⟨#[chB b]⟩) : txt l ++ q = txt (l ++ [b]) := by
  subst h
  rw [← txt_append]; rfl

set_option maxHeartbeats 1000000 in
theorem refput_any (v n : Nat) (w : World) (h1 : 1 ≤ n) (hn : n ≤ 32) (hv : v < 4294967296) :
    Calls Tryz.prog 96 #[.int .u32 (v : Int), .int .i64 (n : Int)] w fun e w' => e = .returned (.string (txt (lows n v))) ∧ w = w' := by
  have d8 : decide ((n : Int) > 32) = false := by simp; omega
  have d1 : decide ((n : Int) < 1) = false := by simp; omega
  go_enter Tryz.func96, Tryz.ntmps96
  go_wp2
  clear d8 d1
  go_loop [5, 6] (fun s i => ∃ (k : Nat) (t : ByteArray), k ≤ n ∧ i = .int .i64 k ∧ s = .string t ∧ Hid (t = txt (lows k v))) (fun _ i => n - (intOf i).toNat)
  case atStart => exact ⟨0, _, Nat.zero_le _, rfl, rfl, Lib.hid rfl⟩
  case round =>
    obtain ⟨k, t, hk, rfl, rfl, HT⟩ := hrel
    by_cases hlt : k < n
    · have hsz : t.size ≤ 1000 := by rw [HT.out, txt_len, lows_len]; omega
      have hb := u32_bit v k hv
      have hs := lows_snoc k v
      rcases Nat.mod_two_eq_zero_or_one (v / 2 ^ k) with h0 | h0
      · rw [h0] at hb hs
        have HS := Lib.hid hs
        clear hs h0
        go_wp2
        go_round
        case rel => exact ⟨k + 1, _, by omega, by go_num, rfl, Lib.hid (by rw [HT.out, txt_snoc _ false _ (by rfl), HS.out]; rfl)⟩
        case measure => simp [intOf]; omega
      · rw [h0] at hb hs
        have HS := Lib.hid hs
        clear hs h0
        go_wp2
        go_round
        case rel => exact ⟨k + 1, _, by omega, by go_num, rfl, Lib.hid (by rw [HT.out, txt_snoc _ true _ (by rfl), HS.out]; rfl)⟩
        case measure => simp [intOf]; omega
    · obtain rfl : k = n := by omega
      go_wp2
      go_ret
      exact ⟨ret_str HT.out, rfl⟩

theorem txt_extract (l : List Bool) (i : Nat) (h : i < l.length) : (txt l).extract i (i + 1) = txt [l[i]] := by
  apply ByteArray.ext
  rw [ByteArray.data_extract]
  unfold txt
  apply Array.ext'
  simp [List.extract_eq_take_drop]
  rw [List.drop_eq_getElem_cons (by simpa using h)]
  simp

theorem rev_drop (l : List Bool) (p : Nat) (h : p < l.length) : (l.drop p).reverse = (l.drop (p + 1)).reverse ++ [l[p]] := by
  rw [List.drop_eq_getElem_cons h, List.reverse_cons]

set_option maxHeartbeats 1000000 in
theorem refcode_any (v n : Nat) (w : World) (h1 : 1 ≤ n) (hn : n ≤ 32) (hv : v < 4294967296) :
    Calls Tryz.prog 81 #[.int .u32 (v : Int), .int .i64 (n : Int)] w fun e w' => e = .returned (.string (txt (lows n v).reverse)) ∧ w = w' := by
  go_enter Tryz.func81, Tryz.ntmps81
  go_wp2_with fail
  refine (refput_any v n w h1 hn hv).mono ?_
  rintro e w' ⟨rfl, rfl⟩
  obtain ⟨l, hl⟩ : ∃ l, l = lows n v := ⟨_, rfl⟩
  have hln : l.length = n := by rw [hl, lows_len]
  rw [← hl]
  have HLV := Lib.hid hl
  clear hl
  have HLN := Lib.hid hln
  have htl := txt_len l
  rw [hln] at htl
  have HTL := Lib.hid htl
  have hsz : (txt l).size ≤ 32 := by omega
  have hsz2 : n ≤ (txt l).size := by omega
  clear hln htl
  obtain ⟨s, hs⟩ : ∃ s, s = txt l := ⟨_, rfl⟩
  rw [← hs] at hsz hsz2 ⊢
  have HS : Hid (s = txt l) := Lib.hid hs
  have HN : Hid (s.size = n) := Lib.hid (by rw [hs]; exact HTL.out)
  clear hs
  go_wp2_with fail
  go_loop [6, 7] (fun s i => ∃ (p : Nat) (t : ByteArray), p ≤ n ∧ i = .int .i64 ((p : Int) - 1) ∧ s = .string t ∧ Hid (t = txt (l.drop p).reverse)) (fun _ i => (intOf i + 1).toNat)
  case atStart => exact ⟨n, _, Nat.le_refl _, by rw [HN.out], rfl, Lib.hid (by rw [List.drop_of_length_le (by rw [HLN.out]; omega)]; rfl)⟩
  case round =>
    obtain ⟨p, t, hp, rfl, rfl, HT⟩ := hrel
    by_cases hlt : 0 < p
    · obtain ⟨q, rfl⟩ : ∃ q, p = q + 1 := ⟨p - 1, by omega⟩
      have hts : t.size ≤ 1000 := by rw [HT.out, txt_len]; simp; have := HLN.out; omega
      go_wp2
      go_round
      case rel => exact ⟨q, _, by omega, rfl, rfl, Lib.hid (by rw [HT.out, HS.out, txt_extract l q (by have := HLN.out; omega), txt_append, rev_drop l q (by have := HLN.out; omega)])⟩
      case measure => simp [intOf]
    · obtain rfl : p = 0 := by omega
      go_wp2
      go_ret
      exact ⟨ret_str (by rw [HT.out, List.drop_zero, HLV.out]), rfl⟩

end Go.Proofs.YtbjjkhlebdaoaaaGreatDoor.RefC
end

section
/-
  The document's own answer for canon: Kraft, Kind.
-/
namespace Go.Proofs.YtbjjkhlebdaoaaaGreatDoor.CanC
open Go.RowKit Go.My BitMath CanMath RefC

section
variable {a : Option Addr} {len cap : Nat} {zs : List Int} {w : World}
theorem good_take {zs : List Int} {k : Nat} (h : ∀ j (h : j < zs.length), j < k → 0 ≤ zs[j] ∧ zs[j] ≤ 15) (hl : zs.length = k) (h2 : k ≤ 65536) : Good zs :=
  ⟨by omega, fun z hz => by
    obtain ⟨j, hj, rfl⟩ := List.getElem_of_mem hz
    exact h j hj (by omega)⟩

/-- What ref Kraft hands back. -/
def KraftPost (zs : List Int) (e : Ending) : Prop := (Good zs → e = .returned (.int .i64 ((kr (nat zs) : Nat) : Int))) ∧ (¬ Good zs → e = .returned (.int .i64 (-1)))
set_option maxRecDepth 100000 in
set_option maxHeartbeats 2000000 in
theorem refkraft_any (h : RowIn w a len cap (zs.map iv)) :
    Calls Tryz.prog 80 #[.slice a len cap] w fun e w' => KraftPost zs e ∧ w = w' := by
  have hzl : zs.length = len := by have := h.len_eq; simpa using this
  have hlc := h.le_cap
  have hcl := h.cap_le
  have HZ := Lib.hid hzl
  have HR := Lib.hid h
  clear h hzl
  go_enter Tryz.func80, Tryz.ntmps80
  by_cases hbig : 65536 < len
  · go_wp2_with fail
    go_ret
    exact ⟨⟨fun hg => by have := hg.1; have := HZ.out; omega, fun _ => rfl⟩, rfl⟩
  go_wp2_with fail
  go_loop [3, 4] (fun s i => ∃ k : Nat, k ≤ len ∧ i = .int .i64 (k : Int) ∧ s = .int .i64 ((kr ((nat zs).take k) : Nat) : Int) ∧ Hid (∀ j (h : j < zs.length), j < k → 0 ≤ zs[j] ∧ zs[j] ≤ 15)) (fun _ i => len - (intOf i).toNat)
  case atStart => exact ⟨0, Nat.zero_le _, rfl, by simp [kr], Lib.hid (fun j _ h => by omega)⟩
  case round =>
    obtain ⟨k, hk, rfl, rfl, HG⟩ := hrel
    by_cases hlt : k < len
    · obtain ⟨b, off, rfl⟩ := HR.out.some_ (by omega)
      have hkz : k < zs.length := by rw [HZ.out]; exact hlt
      have hcz : w.cell? ⟨b, off + k, none⟩ = some (.int .i64 zs[k]) := by
        rw [HR.out.get k (by simpa using hkz)]
        simp [iv]
      obtain ⟨z, hz⟩ : ∃ z, z = zs[k] := ⟨_, rfl⟩
      rw [← hz] at hcz
      have HZK := Lib.hid hz
      clear hz
      by_cases hneg : z < 0
      · go_wp2_with fail
        go_ret
        exact ⟨⟨fun hg => by have := hg.2 z (by rw [HZK.out]; exact List.getElem_mem hkz); omega, fun _ => rfl⟩, rfl⟩
      · by_cases hgt : 15 < z
        · go_wp2_with fail
          go_ret
          exact ⟨⟨fun hg => by have := hg.2 z (by rw [HZK.out]; exact List.getElem_mem hkz); omega, fun _ => rfl⟩, rfl⟩
        · obtain ⟨n, rfl⟩ : ∃ n : Nat, z = (n : Int) := ⟨z.toNat, by omega⟩
          have HG1 : Hid (∀ j (h : j < zs.length), j < k + 1 → 0 ≤ zs[j] ∧ zs[j] ≤ 15) := Lib.hid (by
            intro j h hj
            by_cases he : j = k
            · subst he
              rw [← HZK.out]; omega
            · exact HG.out j h (by omega))
          have HTK : Hid (kr ((nat zs).take (k + 1)) = kr ((nat zs).take k) + share n) := Lib.hid (by rw [nat_snoc zs k hkz n HZK.out.symm, kr_append, kr_cons, kr_nil]; omega)
          have hkb : kr ((nat zs).take k) ≤ 16384 * 65536 := Nat.le_trans (kr_le _) (Nat.mul_le_mul_left _ (by rw [List.length_take]; omega))
          have HP : Hid (0 < n → share n = 2 ^ (15 - n)) := Lib.hid (fun h => share_eq h)
          have HP0 : Hid (n = 0 → share n = 0) := Lib.hid (fun h => by subst h; rfl)
          have hpl := share_le n
          generalize kr ((nat zs).take k) = x at *
          generalize share n = p at *
          by_cases h0 : 0 < n
          · have hp : (2 : Int) ^ (15 - n) = (p : Int) := by rw [HP.out h0]; push_cast; rfl
            have HP2 := Lib.hid hp
            have hs1 : (15 - (n : Int)).toNat = 15 - n := by omega
            have hs2 : min (15 - n) 64 = 15 - n := by omega
            have hs3 : IntKind.i64.wrap (2 ^ (15 - n)) = (p : Int) := by rw [hp, IntWalk.i64_in _ (by omega)]
            have hs4 : (1 : Int) * 2 ^ (15 - n) = (p : Int) := by rw [hp]; omega
            clear hp
            go_wp2_with fail
            go_round
            case rel => exact ⟨k + 1, by omega, by go_num, by rw [HTK.out]; go_num, HG1⟩
            case measure => simp [intOf]; omega
          · obtain rfl : n = 0 := by omega
            go_wp2_with fail
            go_round
            case rel => exact ⟨k + 1, by omega, by go_num, by rw [HTK.out, HP0.out rfl]; rfl, HG1⟩
            case measure => simp [intOf]; omega
    · obtain rfl : k = len := by omega
      have HT : Hid ((nat zs).take k = nat zs) := Lib.hid (List.take_of_length_le (by rw [nat_len, HZ.out]; omega))
      rw [HT.out]
      go_wp2_with fail
      go_ret
      exact ⟨⟨fun _ => rfl, fun hn => absurd (good_take HG.out HZ.out (by omega)) hn⟩, rfl⟩

set_option maxRecDepth 100000 in
set_option maxHeartbeats 4000000 in
theorem refkind_good (h : RowIn w a len cap (zs.map iv)) (hg : Good zs) :
    Calls Tryz.prog 56 #[.slice a len cap] w fun e w' => e = .returned (.int .i64 (kindN (nat zs))) ∧ w = w' := by
  have hzl : zs.length = len := by have := h.len_eq; simpa using this
  have hlen : len ≤ 65536 := by rw [← hzl]; exact hg.1
  have HKN : Hid (kindN (nat zs) = if 32768 < kr (nat zs) then 4 else if kr (nat zs) = 0 then 0 else if kr (nat zs) = 32768 then 1 else if kr (nat zs) = 16384 ∧ (nat zs).count 1 = 1 then 2 else 3) := Lib.hid rfl
  have HA := Lib.hid (some_none (nat zs))
  have HO := Lib.hid (single (nat zs))
  have hkr : kr (nat zs) ≤ 16384 * 65536 := Nat.le_trans (kr_le _) (Nat.mul_le_mul_left _ (by rw [nat_len]; exact hg.1))
  have HZ := Lib.hid hzl
  have HG := Lib.hid hg
  have HR := Lib.hid h
  clear h hg hzl
  generalize kindN (nat zs) = X at *
  go_enter Tryz.func56, Tryz.ntmps56
  go_wp2_with fail
  refine (refkraft_any HR.out).mono ?_
  rintro e w' ⟨he, rfl⟩
  obtain rfl := he.1 HG.out
  clear he
  generalize kr (nat zs) = K at *
  go_wp2_with fail
  go_loop [4, 5, 6] (fun s o i => ∃ k : Nat, k ≤ len ∧ i = .int .i64 (k : Int) ∧ s = .int .i64 (((some_ ((nat zs).take k)).length : Nat) : Int) ∧ o = .int .i64 (((some_ ((nat zs).take k)).getLastD 0 : Nat) : Int)) (fun _ _ i => len - (intOf i).toNat)
  case atStart => exact ⟨0, Nat.zero_le _, rfl, rfl, rfl⟩
  case round =>
    obtain ⟨k, hk, rfl, rfl, rfl⟩ := hrel
    by_cases hlt : k < len
    · obtain ⟨b, off, rfl⟩ := HR.out.some_ (by omega)
      have hkz : k < zs.length := by rw [HZ.out]; exact hlt
      obtain ⟨n, hn⟩ : ∃ n : Nat, zs[k] = (n : Int) := ⟨zs[k].toNat, by have := HG.out.2 _ (List.getElem_mem hkz); omega⟩
      have hcz : w.cell? ⟨b, off + k, none⟩ = some (.int .i64 (n : Int)) := by
        rw [HR.out.get k (by simpa using hkz)]
        simp [iv, hn]
      have HTK : Hid (some_ ((nat zs).take (k + 1)) = if 0 < n then some_ ((nat zs).take k) ++ [n] else some_ ((nat zs).take k)) := Lib.hid (by rw [nat_snoc zs k hkz n hn, some_snoc])
      have hsl : (some_ ((nat zs).take k)).length ≤ 65536 := Nat.le_trans (List.length_filter_le _ _) (by rw [List.length_take]; omega)
      clear hn
      generalize hq : some_ ((nat zs).take k) = q at *
      clear hq
      by_cases h0 : 0 < n
      · have HL : Hid ((q ++ [n]).length = q.length + 1) := Lib.hid (by simp)
        have HD : Hid ((q ++ [n]).getLastD 0 = n) := Lib.hid (by simp)
        have HT2 : Hid (some_ ((nat zs).take (k + 1)) = q ++ [n]) := Lib.hid (by rw [HTK.out, if_pos h0])
        clear HTK
        generalize q.length = y at *
        go_wp2_with fail
        go_round
        case rel => exact ⟨k + 1, by omega, by go_num, by rw [HT2.out, HL.out]; go_num, by rw [HT2.out, HD.out]⟩
        case measure => simp [intOf]; omega
      · have HT2 : Hid (some_ ((nat zs).take (k + 1)) = q) := Lib.hid (by rw [HTK.out, if_neg h0])
        clear HTK
        go_wp2_with fail
        go_round
        case rel => exact ⟨k + 1, by omega, by go_num, by rw [HT2.out], by rw [HT2.out]⟩
        case measure => simp [intOf]; omega
    · obtain rfl : k = len := by omega
      have HT : Hid ((nat zs).take k = nat zs) := Lib.hid (List.take_of_length_le (by rw [nat_len, HZ.out]; omega))
      rw [HT.out]
      clear HT
      have hsl : (some_ (nat zs)).length ≤ 65536 := Nat.le_trans (List.length_filter_le _ _) (by rw [nat_len, HZ.out]; omega)
      generalize (some_ (nat zs)).length = c at *
      generalize (some_ (nat zs)).getLastD 0 = o at *
      generalize (nat zs).count 1 = d at *
      by_cases h1 : 32768 < K
      · have HKN2 : Hid (X = 4) := Lib.hid (by rw [HKN.out, if_pos h1])
        clear HKN HA HO
        go_wp2_with fail
        go_ret
        exact ⟨ret_int (by rw [HKN2.out]), rfl⟩
      · by_cases h2 : c = 0
        · have HKN2 : Hid (X = 0) := Lib.hid (by rw [HKN.out, if_neg h1, if_pos (HA.out.1 h2)])
          subst h2
          clear HKN HA HO
          go_wp2_with fail
          go_ret
          exact ⟨ret_int (by rw [HKN2.out]), rfl⟩
        · have e2 : ((c : Int) == 0) = false := by simp; omega
          have hK0 : K ≠ 0 := fun h => h2 (HA.out.2 h)
          by_cases h3 : K = 32768
          · have HKN2 : Hid (X = 1) := Lib.hid (by rw [HKN.out, if_neg h1, if_neg hK0, if_pos h3])
            subst h3
            clear HKN HA HO h1 h2 hK0
            go_wp2_with fail
            go_ret
            exact ⟨ret_int (by rw [HKN2.out]), rfl⟩
          · have e3 : ((K : Int) == 32768) = false := by simp; omega
            by_cases h4 : c = 1
            · by_cases h5 : o = 1
              · have HKN2 : Hid (X = 2) := Lib.hid (by rw [HKN.out, if_neg h1, if_neg hK0, if_neg h3, if_pos (HO.out.1 ⟨h4, h5⟩)])
                subst h4
                subst h5
                clear HKN HA HO h2 h3 e2 hK0
                go_wp2_with fail
                go_ret
                exact ⟨ret_int (by rw [HKN2.out]), rfl⟩
              · have HKN2 : Hid (X = 3) := Lib.hid (by rw [HKN.out, if_neg h1, if_neg hK0, if_neg h3, if_neg (fun h => h5 (HO.out.2 h).2)])
                have e5 : ((o : Int) == 1) = false := by simp; omega
                subst h4
                clear HKN HA HO h2 h3 h5 e2 hK0
                go_wp2_with fail
                go_ret
                exact ⟨ret_int (by rw [HKN2.out]), rfl⟩
            · have HKN2 : Hid (X = 3) := Lib.hid (by rw [HKN.out, if_neg h1, if_neg hK0, if_neg h3, if_neg (fun h => h4 (HO.out.2 h).1)])
              have e4 : ((c : Int) == 1) = false := by simp; omega
              clear HKN HA HO h2 h3 h4 hK0
              go_wp2_with fail
              go_ret
              exact ⟨ret_int (by rw [HKN2.out]), rfl⟩
end
end Go.Proofs.YtbjjkhlebdaoaaaGreatDoor.CanC
end

section
/-
  The document's own answer for canon: Codes.
-/
namespace Go.Proofs.YtbjjkhlebdaoaaaGreatDoor.CanC
open Go.RowKit Go.My BitMath CanMath RefC

def sv (ls : List Nat) (j : Nat) : Value := .string (txt (bitsAt ls j))
/-- What ref Codes has laid in the round of length n ahead of place i. -/
def outAt (ls : List Nat) (n i : Nat) : List Value := (List.range ls.length).map fun j => if ls.getD j 0 < n ∨ (ls.getD j 0 = n ∧ j < i) then sv ls j else .string ⟨#[]⟩
theorem outAt_len (ls : List Nat) (n i : Nat) : (outAt ls n i).length = ls.length := by simp [outAt]
theorem bitsAt_zero (ls : List Nat) (j : Nat) (h : ls.getD j 0 = 0) : bitsAt ls j = [] := by
  unfold bitsAt
  split
  · next hj =>
    have : ls[j] = 0 := by simpa [List.getD_eq_getElem?_getD, List.getElem?_eq_getElem hj] using h
    rw [this]; rfl
  · rfl
theorem outAt_zero (ls : List Nat) : outAt ls 1 0 = List.replicate ls.length (.string ⟨#[]⟩) := by
  unfold outAt
  apply List.ext_getElem
  · simp
  · intro i h1 h2
    simp only [List.getElem_map, List.getElem_range, List.getElem_replicate]
    split
    · next h => unfold sv; rw [bitsAt_zero ls i (by omega)]; rfl
    · rfl
theorem getD_get (ls : List Nat) (i : Nat) (h : i < ls.length) : ls.getD i 0 = ls[i] := by
  rw [List.getD_eq_getElem?_getD, List.getElem?_eq_getElem h]; rfl
theorem outAt_hit (ls : List Nat) (n i : Nat) (h : i < ls.length) (hn : ls[i] = n) : (outAt ls n i).set i (sv ls i) = outAt ls n (i + 1) := by
  unfold outAt
  apply List.ext_getElem
  · simp
  · intro j h1 h2
    rw [List.getElem_set]
    simp only [List.getElem_map, List.getElem_range]
    by_cases he : i = j
    · subst he
      rw [if_pos rfl, if_pos (.inr ⟨by rw [getD_get ls i h]; exact hn, by omega⟩)]
    · rw [if_neg he]
      have : (j < i) ↔ (j < i + 1) := by omega
      simp only [this]
theorem outAt_miss (ls : List Nat) (n i : Nat) (h : i < ls.length) (hn : ls[i] ≠ n) : outAt ls n i = outAt ls n (i + 1) := by
  unfold outAt
  apply List.map_congr_left
  intro j _
  by_cases he : j = i
  · subst he
    rw [getD_get ls j h]
    have e : ∀ k, (ls[j] < n ∨ (ls[j] = n ∧ j < k)) ↔ ls[j] < n := fun k => ⟨fun hh => by rcases hh with hh | hh; exact hh; exact absurd hh.1 hn, .inl⟩
    simp only [e]
  · have : (j < i) ↔ (j < i + 1) := by omega
    simp only [this]
theorem outAt_next (ls : List Nat) (n : Nat) : outAt ls n ls.length = outAt ls (n + 1) 0 := by
  unfold outAt
  apply List.map_congr_left
  intro j hj
  have hj' : j < ls.length := List.mem_range.1 hj
  have : (ls.getD j 0 < n ∨ (ls.getD j 0 = n ∧ j < ls.length)) ↔ (ls.getD j 0 < n + 1 ∨ (ls.getD j 0 = n + 1 ∧ j < 0)) := by omega
  simp only [this]
/-- All codes as texts. -/
def texts (ls : List Nat) : List Value := (List.range ls.length).map (sv ls)
theorem texts_len (ls : List Nat) : (texts ls).length = ls.length := by simp [texts]
theorem texts_get (ls : List Nat) (i : Nat) (h : i < ls.length) : (texts ls)[i]'(by rw [texts_len]; exact h) = sv ls i := by simp [texts]
theorem outAt_all (ls : List Nat) (h : ∀ x ∈ ls, x ≤ 15) : outAt ls 16 0 = texts ls := by
  unfold outAt texts
  apply List.map_congr_left
  intro j hj
  have hj' : j < ls.length := List.mem_range.1 hj
  have h1 := h _ (List.getElem_mem hj')
  have h2 : ls.getD j 0 < 16 := by rw [getD_get ls j hj']; omega
  rw [if_pos (.inl h2)]
/-- Half of the first code. -/
def nx (ls : List Nat) (n : Nat) : Nat := first ls n / 2
theorem nx_one (ls : List Nat) : nx ls 1 = 0 := by simp [nx, first]
theorem nx_two (ls : List Nat) (n : Nat) (h : 1 ≤ n) : nx ls n * 2 = codeN ls n 0 := by
  have e : codeN ls n 0 = first ls n := by unfold codeN; simp
  rw [e]
  unfold nx
  cases n with
  | zero => omega
  | succ n =>
    cases n with
    | zero => simp [first]
    | succ n => rw [first]; omega
theorem nx_succ (ls : List Nat) (n : Nat) (h : 1 ≤ n) : codeN ls n ls.length = nx ls (n + 1) := by
  unfold nx codeN
  obtain ⟨m, rfl⟩ : ∃ m, n = m + 1 := ⟨n - 1, by omega⟩
  rw [first, List.take_length]; omega
theorem codeN_le (ls : List Nat) (hall : ∀ x ∈ ls, x ≤ 15) (hk : kr ls ≤ 32768) (hl : ls.length ≤ 65536) (k n : Nat) (h1 : 1 ≤ n) (hn : n ≤ 15) : codeN ls n k ≤ 98304 := by
  have := nf_le ls hall hk hl k n hn
  unfold nf at this
  rwa [if_neg (by omega)] at this
theorem codeN_hit (ls : List Nat) (n i : Nat) (h : i < ls.length) (hn : ls[i] = n) : codeN ls n (i + 1) = codeN ls n i + 1 := by
  unfold codeN; rw [count_take_succ ls i n h, if_pos hn]; omega
theorem codeN_miss (ls : List Nat) (n i : Nat) (h : i < ls.length) (hn : ls[i] ≠ n) : codeN ls n (i + 1) = codeN ls n i := by
  unfold codeN; rw [count_take_succ ls i n h, if_neg hn]; rfl
theorem info_str : (Tryz.prog.info? 9).map (fun i => (i.zero, i.size, i.bytes)) = some (some (.string ⟨#[]⟩), 1, 16) := by kernel_rfl

section
variable {a : Option Addr} {len cap : Nat} {zs : List Int} {w : World}
def TextsOk (zs : List Int) (w : World) (e : Ending) (w' : World) : Prop := ∃ g, e = .returned (.tuple #[.slice (some ⟨g, 0, none⟩) zs.length zs.length, .int .i64 0]) ∧ w.heap.size ≤ g ∧ OwnV 9 w.heap.size w' (.slice (some ⟨g, 0, none⟩) zs.length zs.length) (texts (nat zs)) ∧ Below w.heap.size w w'

set_option maxRecDepth 100000 in
set_option maxHeartbeats 4000000 in
theorem refcodes_ok (h : RowIn w a len cap (zs.map iv)) (hg : Good zs) (hk : kr (nat zs) ≤ 32768) :
    Calls Tryz.prog 52 #[.slice a len cap] w (TextsOk zs w) := by
  have hzl : zs.length = len := by have := h.len_eq; simpa using this
  have hlen : len ≤ 65536 := by rw [← hzl]; exact hg.1
  have HZ := Lib.hid hzl
  have HG := Lib.hid hg
  have HR := Lib.hid h
  have HKR := Lib.hid hk
  have HLS : Hid ((nat zs).length = len) := Lib.hid (by rw [nat_len]; exact hzl)
  have HK : Hid ((kindN (nat zs) == 4) = false) := Lib.hid (by
    unfold kindN
    rw [if_neg (by omega)]
    split
    · rfl
    · split
      · rfl
      · split <;> rfl)
  clear hg h hk hzl
  go_enter Tryz.func52, Tryz.ntmps52
  go_wp2_with fail
  refine (refkraft_any HR.out).mono ?_
  rintro e w' ⟨he, rfl⟩
  obtain rfl := he.1 HG.out
  clear he
  have HKQ := Lib.hid (show kr (nat zs) ≤ 32768 from HKR.out)
  generalize hKK : kr (nat zs) = K
  clear hKK
  go_wp2_with fail
  refine (refkind_good HR.out HG.out).mono ?_
  rintro e w' ⟨rfl, rfl⟩
  have hkn := HK.out
  generalize kindN (nat zs) = X at *
  go_wp2_with (at_make; refine wpList_make_row _ rfl (.tmp 15) (.tmp 15) 53 rfl w.heap.size 9 (.string ⟨#[]⟩) 16 Tryz.underlying53 info_str rfl .i64 .i64 len rfl rfl (by omega) (by omega) (Nat.le_refl _) ?_)
  clear hkn HK
  intro w1 hown hg1
  have HO : Hid (OwnV 9 w.heap.size w1 (.slice (some ⟨w.heap.size, 0, none⟩) len len) (outAt (nat zs) 1 0)) := Lib.hid (by rw [outAt_zero, HLS.out]; exact hown)
  have HB : Hid (Below w.heap.size w w1) := Lib.hid (grown_none_below (Below.refl _ w) hg1 (Nat.le_refl _))
  clear hown hg1
  go_wp2_with fail
  go_loopw [5, 6, 7] (fun x nv _ wr => ∃ n : Nat, 1 ≤ n ∧ n ≤ 16 ∧ nv = .int .i64 (n : Int) ∧ x = .int .u32 ((nx (nat zs) n : Nat) : Int) ∧ Hid (OwnV 9 w.heap.size wr (.slice (some ⟨w.heap.size, 0, none⟩) len len) (outAt (nat zs) n 0)) ∧ Hid (Below w.heap.size w wr)) (fun _ nv _ _ => 16 - (intOf nv).toNat)
  case atStart => exact ⟨1, by omega, by omega, rfl, by rw [nx_one]; rfl, HO, HB⟩
  case round =>
    clear HO HB
    obtain ⟨n, hn1, hn16, rfl, rfl, HO, HB⟩ := hrel
    by_cases hlt : n < 16
    · have HC0 : Hid (nx (nat zs) n * 2 = codeN (nat zs) n 0) := Lib.hid (nx_two _ n hn1)
      have hxl : nx (nat zs) n * 2 ≤ 98304 := by rw [HC0.out]; exact codeN_le _ HG.out.all HKR.out (by rw [HLS.out]; exact hlen) 0 n hn1 (by omega)
      have HCE : Hid (codeN (nat zs) n len = nx (nat zs) (n + 1)) := Lib.hid (by rw [← HLS.out]; exact nx_succ _ n hn1)
      have HOE : Hid (outAt (nat zs) n len = outAt (nat zs) (n + 1) 0) := Lib.hid (by rw [← HLS.out]; exact outAt_next _ n)
      generalize nx (nat zs) n = x0 at *
      have hd15 : decide ((n : Int) ≤ 15) = true := by simp; omega
      go_wp2_with fail
      go_loopw [5, 7] (fun x i wr => ∃ k : Nat, k ≤ len ∧ i = .int .i64 (k : Int) ∧ x = .int .u32 ((codeN (nat zs) n k : Nat) : Int) ∧ Hid (OwnV 9 w.heap.size wr (.slice (some ⟨w.heap.size, 0, none⟩) len len) (outAt (nat zs) n k)) ∧ Hid (Below w.heap.size w wr)) (fun _ i _ => len - (intOf i).toNat)
      case atStart => exact ⟨0, Nat.zero_le _, rfl, by rw [← HC0.out]; go_num, HO, HB⟩
      case round =>
        clear HO HB
        obtain ⟨k, hk, rfl, rfl, HO, HB⟩ := hrel
        by_cases hkl : k < len
        · obtain ⟨b, off, rfl⟩ := HR.out.some_ (by omega)
          have hkz : k < zs.length := by rw [HZ.out]; exact hkl
          have hkn : k < (nat zs).length := by rw [HLS.out]; exact hkl
          obtain ⟨m, hm⟩ : ∃ m : Nat, zs[k] = (m : Int) := ⟨zs[k].toNat, by have := HG.out.2 _ (List.getElem_mem hkz); omega⟩
          have hm2 : (nat zs)[k] = m := by rw [nat_get zs k hkz, hm]; rfl
          have hcz : wr.cell? ⟨b, off + k, none⟩ = some (.int .i64 (m : Int)) := by
            rw [HB.out.cell (p := ⟨b, off + k, none⟩) (HR.out.lt (by omega)), HR.out.get k (by simpa using hkz)]
            simp [iv, hm]
          have hcl : codeN (nat zs) n k ≤ 98304 := codeN_le _ HG.out.all HKR.out (by rw [HLS.out]; exact hlen) k n hn1 (by omega)
          by_cases he : m = n
          · subst he
            have HC1 : Hid (codeN (nat zs) m (k + 1) = codeN (nat zs) m k + 1) := Lib.hid (codeN_hit _ m k hkn hm2)
            have hwl : (outAt (nat zs) m k).length = len := by rw [outAt_len, HLS.out]
            obtain ⟨old, hc2⟩ : ∃ old, wr.cell? ⟨w.heap.size, k, none⟩ = some old := ⟨_, HO.out.cell hwl k (by rw [hwl]; exact hkl)⟩
            have hf2 : wr.frozen? ⟨w.heap.size, k, none⟩ = false := HO.out.free hwl k
            have HST := Lib.hid (HO.out.store hwl k (sv (nat zs) k))
            have HST2 : Hid (OwnV 9 w.heap.size (wr.setCell ⟨w.heap.size, k, none⟩ (sv (nat zs) k)) (.slice (some ⟨w.heap.size, 0, none⟩) len len) (outAt (nat zs) m (k + 1))) := Lib.hid (by rw [← outAt_hit _ m k hkn hm2]; exact HST.out)
            have HSV : Hid (sv (nat zs) k = .string (txt (lows m (codeN (nat zs) m k)).reverse)) := Lib.hid (by unfold sv; rw [bitsAt_eq _ k hkn, hm2])
            clear HST hwl hm hm2
            generalize codeN (nat zs) m k = x at *
            go_wp2_with fail
            refine (refcode_any x m wr hn1 (by omega) (by omega)).mono ?_
            rw [HSV.out] at HST2
            clear HSV
            generalize txt (lows m x).reverse = t at *
            rintro e w' ⟨rfl, rfl⟩
            go_wp2_with fail
            go_roundw
            case rel => exact ⟨k + 1, by omega, by go_num, by rw [HC1.out]; go_num, HST2, Lib.hid (HB.out.setCell (p := ⟨w.heap.size, k, none⟩) (Nat.le_refl _) _)⟩
            case measure => simp [intOf]; omega
          · have HC1 : Hid (codeN (nat zs) n (k + 1) = codeN (nat zs) n k) := Lib.hid (codeN_miss _ n k hkn (by rw [hm2]; exact he))
            have HO1 : Hid (OwnV 9 w.heap.size wr (.slice (some ⟨w.heap.size, 0, none⟩) len len) (outAt (nat zs) n (k + 1))) := Lib.hid (by rw [← outAt_miss _ n k hkn (by rw [hm2]; exact he)]; exact HO.out)
            have hne : ((m : Int) == (n : Int)) = false := by simp; omega
            clear hm hm2 he
            generalize codeN (nat zs) n k = x at *
            go_wp2_with fail
            go_roundw
            case rel => exact ⟨k + 1, by omega, by go_num, by rw [HC1.out], HO1, HB⟩
            case measure => simp [intOf]; omega
        · obtain rfl : k = len := by omega
          rw [HCE.out]
          rw [HOE.out] at HO
          go_wp2_with fail
          go_roundw
          case rel => exact ⟨n + 1, by omega, by omega, by go_num, rfl, HO, HB⟩
          case measure => simp [intOf]; omega
    · obtain rfl : n = 16 := by omega
      rw [outAt_all _ HG.out.all] at HO
      go_wp2_with fail
      go_ret2
      exact ⟨w.heap.size, by rw [HZ.out]; rfl, Nat.le_refl _, by rw [HZ.out]; exact HO.out, HB.out⟩
end
end Go.Proofs.YtbjjkhlebdaoaaaGreatDoor.CanC
end

section
/-
  What Find answers (no program's function).
-/
namespace Go.Proofs.YtbjjkhlebdaoaaaGreatDoor.TabC
open Go.RowKit Go.My BitMath CanMath TabMath

/-- What Find answers of an element. -/
def ansV (e : El) (m : Nat) : Value := if e.l = 0 then .tuple #[.int .i64 0, .int .i64 0, .int .i64 2] else if m < e.l then .tuple #[.int .i64 0, .int .i64 0, .int .i64 5] else .tuple #[.int .i64 ((e.v : Nat) : Int), .int .i64 ((e.l : Nat) : Int), .int .i64 0]

end Go.Proofs.YtbjjkhlebdaoaaaGreatDoor.TabC
end

section
/-
  The document's own Find; its bits (TabG's, without law 8).
-/
namespace Go.Proofs.YtbjjkhlebdaoaaaGreatDoor.TabC
open Go.RowKit Go.My BitMath CanMath TabMath CanC

/-! ### texts of bits (as in CanonReads' text) -/
theorem txt_inj {a b : List Bool} (h : txt a = txt b) : a = b := by
  unfold txt at h
  injection h with h
  have h2 := congrArg Array.toList h
  simp only at h2
  induction a generalizing b with
  | nil =>
    cases b with
    | nil => rfl
    | cons y t => simp at h2
  | cons x s ih =>
    cases b with
    | nil => simp at h2
    | cons y t =>
      simp only [List.map_cons, List.cons.injEq] at h2
      rw [chB_inj x y h2.1, ih (congrArg List.toArray h2.2) h2.2]
theorem txt_take (l : List Bool) (n : Nat) : (txt l).extract 0 n = txt (l.take n) := by
  apply ByteArray.ext
  rw [ByteArray.data_extract]
  unfold txt
  apply Array.ext'
  simp [List.extract_eq_take_drop, List.map_take]
theorem list_inj {a b : ByteArray} (h : a.toList = b.toList) : a = b := by
  rw [Go.ByteArray.toList_eq, Go.ByteArray.toList_eq] at h
  exact ByteArray.ext (Array.toList_inj.1 h)
theorem str_no {a b : ByteArray} (h : a ≠ b) : (a.toList == b.toList) = false := by
  simp only [beq_eq_false_iff_ne, ne_eq]
  exact fun e => h (list_inj e)
theorem str_yes {a b : ByteArray} (h : a = b) : (a.toList == b.toList) = true := by subst h; simp
theorem str_some {c : ByteArray} (h : 0 < c.size) : c.toList.isEmpty = false := by
  rw [Go.ByteArray.toList_eq]
  cases hc : c.data.toList with
  | nil =>
    have : c.size = 0 := by
      have h2 := congrArg List.length hc
      rw [Array.length_toList] at h2
      exact h2
    omega
  | cons x t => rfl
theorem lows_eq_iff (n a b : Nat) : lows n a = lows n b ↔ a % 2 ^ n = b % 2 ^ n := by
  constructor
  · intro h; rw [← num_lows, h, num_lows]
  · exact lows_eq_of_mod
theorem lows_take (n m v : Nat) (h : n ≤ m) : (lows m v).take n = lows n v := by
  rw [show m = n + (m - n) from by omega, lows_add, List.take_append_of_le_length (by rw [lows_len]; omega), List.take_of_length_le (by rw [lows_len]; omega)]

/-- None of the first k codes stands in front. -/
def Nf (ls : List Nat) (v m k : Nat) : Prop := ∀ j, j < k → ¬ (ln ls j ≤ m ∧ Has ls (v % 2 ^ m) j)
/-- One of the first k codes begins with all bits that are there. -/
def Mo (ls : List Nat) (v m k : Nat) : Prop := ∃ j, j < k ∧ m < ln ls j ∧ wd ls j % 2 ^ m = v % 2 ^ m
theorem Nf.step {ls : List Nat} {v m k : Nat} (h : Nf ls v m k) (hk : ¬ (ln ls k ≤ m ∧ Has ls (v % 2 ^ m) k)) : Nf ls v m (k + 1) := by
  intro j hj
  by_cases he : j = k
  · subst he; exact hk
  · exact h j (by omega)
theorem Mo.step {ls : List Nat} {v m k : Nat} (hk : ¬ (m < ln ls k ∧ wd ls k % 2 ^ m = v % 2 ^ m)) : Mo ls v m (k + 1) ↔ Mo ls v m k := by
  constructor
  · rintro ⟨j, h1, h2, h3⟩
    by_cases he : j = k
    · subst he; exact absurd ⟨h2, h3⟩ hk
    · exact ⟨j, by omega, h2, h3⟩
  · rintro ⟨j, h1, h2⟩
    exact ⟨j, by omega, h2⟩
theorem Mo.more {ls : List Nat} {v m k : Nat} (h : Mo ls v m k) : Mo ls v m (k + 1) := by
  obtain ⟨j, h1, h2⟩ := h
  exact ⟨j, by omega, h2⟩
section
variable {ls : List Nat} (hall : ∀ x ∈ ls, x ≤ 15) (hk : kr ls ≤ 32768)
include hall hk
theorem ref_found {v m i : Nat} (hn : ln ls i ≤ m) (h1 : 1 ≤ ln ls i) (h : v % 2 ^ ln ls i = wd ls i) :
    ansV (who ls (v % 2 ^ m)) m = .tuple #[.int .i64 (i : Int), .int .i64 ((ln ls i : Nat) : Int), .int .i64 0] := by
  have hh : Has ls (v % 2 ^ m) i := ⟨h1, by rw [mod_mod_pow v hn]; exact h⟩
  rw [who_some hall hk hh]
  unfold ansV
  rw [if_neg (by dsimp only; omega), if_neg (by dsimp only; omega)]
theorem ref_more {v m : Nat} (hf : Nf ls v m ls.length) (h : Mo ls v m ls.length) : ansV (who ls (v % 2 ^ m)) m = .tuple #[.int .i64 0, .int .i64 0, .int .i64 5] := by
  obtain ⟨j, _, h2, h3⟩ := h
  obtain ⟨k, hk'⟩ := has_fill hall hk h2 h3
  rw [who_some hall hk hk']
  have hlt : m < ln ls k := by
    by_cases hle : ln ls k ≤ m
    · exact absurd ⟨hle, hk'⟩ (hf k (ln_lt hk'.1))
    · omega
  unfold ansV
  rw [if_neg (by dsimp only; omega), if_pos hlt]
omit hall hk in
theorem ref_none {v m : Nat} (hf : Nf ls v m ls.length) (h : ¬ Mo ls v m ls.length) : ansV (who ls (v % 2 ^ m)) m = .tuple #[.int .i64 0, .int .i64 0, .int .i64 2] := by
  have hn : ∀ k, ¬ Has ls (v % 2 ^ m) k := by
    intro k hk'
    have hkl := ln_lt hk'.1
    by_cases hle : ln ls k ≤ m
    · exact hf k hkl ⟨hle, hk'⟩
    · apply h
      refine ⟨k, hkl, by omega, ?_⟩
      rw [← hk'.2, mod_mod_pow _ (by omega), Nat.mod_mod]
  rw [who_none hn]; rfl
end

section
variable {gc len : Nat} {zs : List Int} {w : World}
set_option maxRecDepth 100000 in
set_option maxHeartbeats 8000000 in
theorem reffind_any (v m : Nat) (t : ByteArray) (h : RowIn w (some ⟨gc, 0, none⟩) len len (texts (nat zs))) (ht : t = txt (lows m v)) (hm : m ≤ 15) (hg : CanC.Good zs) (hk : kr (nat zs) ≤ 32768) (hlen : (nat zs).length = len) :
    Calls Tryz.prog 57 #[.slice (some ⟨gc, 0, none⟩) len len, .string t] w fun e w' => e = .returned (ansV (who (nat zs) (v % 2 ^ m)) m) ∧ w = w' := by
  have HR := Lib.hid h
  have HG := Lib.hid hg
  have HK := Lib.hid hk
  have HT := Lib.hid ht
  have hts : t.size = m := by rw [ht, txt_len, lows_len]
  have HLS := Lib.hid hlen
  have hl6 : len ≤ 65536 := by rw [← hlen, nat_len]; exact hg.1
  clear h hg hk ht hlen
  go_enter Tryz.func57, Tryz.ntmps57
  go_wp2_with fail
  go_loop [7, 8, 9] (fun mo i _ => ∃ (k : Nat) (b : Bool), k ≤ len ∧ i = .int .i64 (k : Int) ∧ mo = .bool b ∧ Hid (b = true ↔ Mo (nat zs) v m k) ∧ Hid (Nf (nat zs) v m k)) (fun _ i _ => len - (intOf i).toNat)
  case atStart => exact ⟨0, false, Nat.zero_le _, rfl, rfl, Lib.hid ⟨fun h => (by cases h), fun h => (by obtain ⟨j, hj, _⟩ := h; omega)⟩, Lib.hid (fun j hj => by omega)⟩
  case round =>
    obtain ⟨k, b, hk, rfl, rfl, HM, HN⟩ := hrel
    by_cases hlt : k < len
    · have hkn : k < (nat zs).length := by rw [HLS.out]; exact hlt
      obtain ⟨n, hn⟩ : ∃ n, n = ln (nat zs) k := ⟨_, rfl⟩
      have hn15 : n ≤ 15 := by rw [hn]; exact ln_le HG.out.all k
      obtain ⟨c, hc⟩ : ∃ c, c = txt (lows n (wd (nat zs) k)) := ⟨_, rfl⟩
      have hcs : c.size = n := by rw [hc, txt_len, lows_len]
      have hcc : w.cell? ⟨gc, k, none⟩ = some (.string c) := by
        have h1 := HR.out.get k (by rw [texts_len]; exact hkn)
        rw [texts_get _ k hkn, Nat.zero_add] at h1
        rw [h1, hc, hn]
        unfold sv
        rw [bitsAt_wd _ k hkn]
      have HLN := Lib.hid hn
      have HC := Lib.hid hc
      clear hn hc
      by_cases hn0 : n = 0
      · subst hn0
        have hce : c = ⟨#[]⟩ := by rw [HC.out]; rfl
        subst hce
        have HM2 : Hid (b = true ↔ Mo (nat zs) v m (k + 1)) := Lib.hid (by rw [Mo.step (by rw [← HLN.out]; omega)]; exact HM.out)
        have HN2 : Hid (Nf (nat zs) v m (k + 1)) := Lib.hid (HN.out.step (fun hc => by have := hc.2.1; rw [← HLN.out] at this; omega))
        clear HC HM HN
        go_wp2_with fail
        go_round
        case rel => exact ⟨k + 1, b, by omega, by go_num, rfl, HM2, HN2⟩
        case measure => simp [intOf]; omega
      · have hne : c ≠ ⟨#[]⟩ := by
          intro h
          rw [h] at hcs
          exact hn0 hcs.symm
        have hne1 := str_some (c := c) (by omega)
        clear hne
        by_cases hnm : n ≤ m
        · have hd1 : decide (n ≤ m) = true := by simp; omega
          have hd2 : decide (n > m) = false := by simp; omega
          by_cases heq : v % 2 ^ n = wd (nat zs) k
          · have e1 : ((t.extract 0 n).toList == c.toList) = true := str_yes (by
              rw [HT.out, HC.out, txt_take, lows_take n m v hnm, (lows_eq_iff n v (wd (nat zs) k)).2 (by rw [← heq, Nat.mod_mod])])
            have HE : Hid (ansV (who (nat zs) (v % 2 ^ m)) m = .tuple #[.int .i64 (k : Int), .int .i64 (n : Int), .int .i64 0]) := Lib.hid (by
              have h1 := ref_found HG.out.all HK.out (v := v) (m := m) (i := k) (by rw [← HLN.out]; exact hnm) (by rw [← HLN.out]; omega) (by rw [← HLN.out]; exact heq)
              rw [← HLN.out] at h1
              exact h1)
            clear heq HM HN HC
            go_wp2_with fail
            go_ret3
            exact ⟨by rw [HE.out]; rfl, rfl⟩
          · have e1 : ((t.extract 0 n).toList == c.toList) = false := str_no (by
              rw [HT.out, HC.out, txt_take, lows_take n m v hnm]
              intro h
              have h1 := (lows_eq_iff n v _).1 (txt_inj h)
              have h2 := wd_lt (nat zs) k
              rw [← HLN.out] at h2
              rw [Nat.mod_eq_of_lt h2] at h1
              exact heq h1)
            have HM2 : Hid (b = true ↔ Mo (nat zs) v m (k + 1)) := Lib.hid (by rw [Mo.step (by rw [← HLN.out]; omega)]; exact HM.out)
            have HN2 : Hid (Nf (nat zs) v m (k + 1)) := Lib.hid (HN.out.step (fun hc => by
              have h1 := hc.2.2
              rw [← HLN.out, mod_mod_pow v hnm] at h1
              exact heq h1))
            clear HC HM HN heq
            rcases b with _ | _
            · go_wp2_with fail
              go_round
              case rel => exact ⟨k + 1, false, by omega, by go_num, rfl, HM2, HN2⟩
              case measure => simp [intOf]; omega
            · go_wp2_with fail
              go_round
              case rel => exact ⟨k + 1, true, by omega, by go_num, rfl, HM2, HN2⟩
              case measure => simp [intOf]; omega
        · have hd1 : decide (n ≤ m) = false := by simp; omega
          have hd2 : decide (n > m) = true := by simp; omega
          have HN2 : Hid (Nf (nat zs) v m (k + 1)) := Lib.hid (HN.out.step (fun hc => by have := hc.1; rw [← HLN.out] at this; omega))
          rcases b with _ | _
          · by_cases heq : wd (nat zs) k % 2 ^ m = v % 2 ^ m
            · have e1 : ((c.extract 0 m).toList == t.toList) = true := str_yes (by
                rw [HT.out, HC.out, txt_take, lows_take m n _ (by omega), (lows_eq_iff m _ v).2 heq])
              have HM2 : Hid (true = true ↔ Mo (nat zs) v m (k + 1)) := Lib.hid ⟨fun _ => ⟨k, by omega, by rw [← HLN.out]; omega, heq⟩, fun _ => rfl⟩
              clear HC HM HN heq
              go_wp2_with fail
              go_round
              case rel => exact ⟨k + 1, true, by omega, by go_num, rfl, HM2, HN2⟩
              case measure => simp [intOf]; omega
            · have e1 : ((c.extract 0 m).toList == t.toList) = false := str_no (by
                rw [HT.out, HC.out, txt_take, lows_take m n _ (by omega)]
                intro h
                exact heq ((lows_eq_iff m _ v).1 (txt_inj h)))
              have HM2 : Hid (false = true ↔ Mo (nat zs) v m (k + 1)) := Lib.hid (by rw [Mo.step (fun hc => heq hc.2)]; exact HM.out)
              clear HC HM HN heq
              go_wp2_with fail
              go_round
              case rel => exact ⟨k + 1, false, by omega, by go_num, rfl, HM2, HN2⟩
              case measure => simp [intOf]; omega
          · have HM2 : Hid (true = true ↔ Mo (nat zs) v m (k + 1)) := Lib.hid ⟨fun _ => (HM.out.1 rfl).more, fun _ => rfl⟩
            clear HC HM HN
            go_wp2_with fail
            go_round
            case rel => exact ⟨k + 1, true, by omega, by go_num, rfl, HM2, HN2⟩
            case measure => simp [intOf]; omega
    · obtain rfl : k = len := by omega
      rcases b with _ | _
      · have HE : Hid (ansV (who (nat zs) (v % 2 ^ m)) m = .tuple #[.int .i64 0, .int .i64 0, .int .i64 2]) := Lib.hid (ref_none (by rw [HLS.out]; exact HN.out) (by rw [HLS.out]; exact fun h => by have := HM.out.2 h; cases this))
        go_wp2_with fail
        go_ret3
        exact ⟨by rw [HE.out]; rfl, rfl⟩
      · have HE : Hid (ansV (who (nat zs) (v % 2 ^ m)) m = .tuple #[.int .i64 0, .int .i64 0, .int .i64 5]) := Lib.hid (ref_more HG.out.all HK.out (by rw [HLS.out]; exact HN.out) (by rw [HLS.out]; exact HM.out.1 rfl))
        go_wp2_with fail
        go_ret3
        exact ⟨by rw [HE.out]; rfl, rfl⟩
end
end Go.Proofs.YtbjjkhlebdaoaaaGreatDoor.TabC
end
