import Derived.Test.YtjejlhpnhkacmaaGreatDoorRows
import Derived.Test.YtjejlhpnhkacmaaGreatDoorMgA
import Derived.Laws.Pointers
import Derived.Deep.QuietTactic
import Derived.BigQuiet
import Derived.Test.YtjejlhpnhkacmaaGreatDoorMgC
import Derived.Test.YtjejlhpnhkacmaaGreatDoorMgT
import Derived.StillTailTactics
import Derived.Test.YtjejlhpnhkacmaaGreatDoorMgI
import Derived.Test.YtjejlhpnhkacmaaGreatDoorMgM
import Derived.Deep.DeepCutAuto
import Derived.Deep.CutBlock

section
/-
  The document's own answer for bits (stevedoreref5): Put, Code alone: for seats that call Code and not Of, Bytes, Number.
-/
namespace Go.Proofs.YtjejlhpnhkacmaaGreatDoor.RefC
open Go.RowKit Go.My BitMath

theorem u32_bit (v k : Nat) (hv : v < 4294967296) : bits .and .u32 ((v : Int) / 2 ^ k) 1 = ((v / 2 ^ k % 2 : Nat) : Int) := by
  have e : (v : Int) / 2 ^ k = ((v / 2 ^ k : Nat) : Int) := by push_cast; rfl
  have hd := Nat.div_le_self v (2 ^ k)
  rw [e, show (1 : Int) = ((1 : Nat) : Int) from rfl, u32_and_nat _ _ (by omega) (by omega), Nat.and_one_is_mod]
theorem refput_no (v n : Int) (w : World) (h : n < 1 ∨ 32 < n) :
    Calls Tryz.prog 72 #[.int .u32 v, .int .i64 n] w fun e w' => e = .returned (.string ⟨#[]⟩) ∧ w = w' := by
  by_cases h1 : n < 1
  · go_enter Tryz.func72, Tryz.ntmps72
    go_wp2
    go_ret
    exact ⟨rfl, rfl⟩
  · have h8 : decide (n > 32) = true := by simp; omega
    go_enter Tryz.func72, Tryz.ntmps72
    go_wp2
    go_ret
    exact ⟨rfl, rfl⟩

theorem txt_snoc (l : List Bool) (b : Bool) (q : ByteArray) (h : q = ⟨#[chB b]⟩) : txt l ++ q = txt (l ++ [b]) := by
  subst h
  rw [← txt_append]; rfl

set_option maxHeartbeats 1000000 in
theorem refput_any (v n : Nat) (w : World) (h1 : 1 ≤ n) (hn : n ≤ 32) (hv : v < 4294967296) :
    Calls Tryz.prog 72 #[.int .u32 (v : Int), .int .i64 (n : Int)] w fun e w' => e = .returned (.string (txt (lows n v))) ∧ w = w' := by
  have d8 : decide ((n : Int) > 32) = false := by simp; omega
  have d1 : decide ((n : Int) < 1) = false := by simp; omega
  go_enter Tryz.func72, Tryz.ntmps72
  go_wp2
  clear d8 d1
  go_loop [5, 6] (fun s i => ∃ (k : Nat) (t : ByteArray), k ≤ n ∧ i = .int .i64 k ∧ s = .string t ∧ Hid (t = txt (lows k v))) (fun _ i => n - (intOf i).toNat)
  case atStart => exact ⟨0, _, Nat.zero_le _, rfl, rfl, Lib.hid rfl⟩
  case round =>
    obtain ⟨k, t, hk, rfl, rfl, HT⟩ := hrel
    by_cases hlt : k < n
    · have hsz : t.size ≤ 1000 := by rw [HT.out, txt_len, lows_len]; omega
      have hb := u32_bit v k hv
      have hs := lows_snoc k v
      rcases Nat.mod_two_eq_zero_or_one (v / 2 ^ k) with h0 | h0
      · rw [h0] at hb hs
        have HS := Lib.hid hs
        clear hs h0
        go_wp2
        go_round
        case rel => exact ⟨k + 1, _, by omega, by go_num, rfl, Lib.hid (by rw [HT.out, txt_snoc _ false _ (by rfl), HS.out]; rfl)⟩
        case measure => simp [intOf]; omega
      · rw [h0] at hb hs
        have HS := Lib.hid hs
        clear hs h0
        go_wp2
        go_round
        case rel => exact ⟨k + 1, _, by omega, by go_num, rfl, Lib.hid (by rw [HT.out, txt_snoc _ true _ (by rfl), HS.out]; rfl)⟩
        case measure => simp [intOf]; omega
    · obtain rfl : k = n := by omega
      go_wp2
      go_ret
      exact ⟨ret_str HT.out, rfl⟩

theorem txt_extract (l : List Bool) (i : Nat) (h : i < l.length) : (txt l).extract i (i + 1) = txt [l[i]] := by
  apply ByteArray.ext
  rw [ByteArray.data_extract]
  unfold txt
  apply Array.ext'
  simp [List.extract_eq_take_drop]
  rw [List.drop_eq_getElem_cons (by simpa using h)]
  simp

theorem refcode_no (v n : Int) (w : World) (h : n < 1 ∨ 32 < n) :
    Calls Tryz.prog 52 #[.int .u32 v, .int .i64 n] w fun e w' => e = .returned (.string ⟨#[]⟩) ∧ w = w' := by
  go_enter Tryz.func52, Tryz.ntmps52
  go_wp2_with fail
  refine (refput_no v n w h).mono ?_
  rintro e w' ⟨rfl, rfl⟩
  go_wp2_with fail
  go_loop [6, 7] (fun s i => s = .string ⟨#[]⟩ ∧ i = .int .i64 (-1)) (fun _ i => (intOf i).toNat)
  case atStart => exact ⟨rfl, rfl⟩
  case round =>
    obtain ⟨rfl, rfl⟩ := hrel
    go_wp2
    go_ret
    exact ⟨rfl, rfl⟩

theorem rev_drop (l : List Bool) (p : Nat) (h : p < l.length) : (l.drop p).reverse = (l.drop (p + 1)).reverse ++ [l[p]] := by
  rw [List.drop_eq_getElem_cons h, List.reverse_cons]

set_option maxHeartbeats 1000000 in
theorem refcode_any (v n : Nat) (w : World) (h1 : 1 ≤ n) (hn : n ≤ 32) (hv : v < 4294967296) :
    Calls Tryz.prog 52 #[.int .u32 (v : Int), .int .i64 (n : Int)] w fun e w' => e = .returned (.string (txt (lows n v).reverse)) ∧ w = w' := by
  go_enter Tryz.func52, Tryz.ntmps52
  go_wp2_with fail
  refine (refput_any v n w h1 hn hv).mono ?_
  rintro e w' ⟨rfl, rfl⟩
  obtain ⟨l, hl⟩ : ∃ l, l = lows n v := ⟨_, rfl⟩
  have hln : l.length = n := by rw [hl, lows_len]
  rw [← hl]
  have HLV := Lib.hid hl
  clear hl
  have HLN := Lib.hid hln
  have htl := txt_len l
  rw [hln] at htl
  have HTL := Lib.hid htl
  have hsz : (txt l).size ≤ 32 := by omega
  have hsz2 : n ≤ (txt l).size := by omega
  clear hln htl
  obtain ⟨s, hs⟩ : ∃ s, s = txt l := ⟨_, rfl⟩
  rw [← hs] at hsz hsz2 ⊢
  have HS : Hid (s = txt l) := Lib.hid hs
  have HN : Hid (s.size = n) := Lib.hid (by rw [hs]; exact HTL.out)
  clear hs
  go_wp2_with fail
  go_loop [6, 7] (fun s i => ∃ (p : Nat) (t : ByteArray), p ≤ n ∧ i = .int .i64 ((p : Int) - 1) ∧ s = .string t ∧ Hid (t = txt (l.drop p).reverse)) (fun _ i => (intOf i + 1).toNat)
  case atStart => exact ⟨n, _, Nat.le_refl _, by rw [HN.out], rfl, Lib.hid (by rw [List.drop_of_length_le (by rw [HLN.out]; omega)]; rfl)⟩
  case round =>
    obtain ⟨p, t, hp, rfl, rfl, HT⟩ := hrel
    by_cases hlt : 0 < p
    · obtain ⟨q, rfl⟩ : ∃ q, p = q + 1 := ⟨p - 1, by omega⟩
      have hts : t.size ≤ 1000 := by rw [HT.out, txt_len]; simp; have := HLN.out; omega
      go_wp2
      go_round
      case rel => exact ⟨q, _, by omega, rfl, rfl, Lib.hid (by rw [HT.out, HS.out, txt_extract l q (by have := HLN.out; omega), txt_append, rev_drop l q (by have := HLN.out; omega)])⟩
      case measure => simp [intOf]
    · obtain rfl : p = 0 := by omega
      go_wp2
      go_ret
      exact ⟨ret_str (by rw [HT.out, List.drop_zero, HLV.out]), rfl⟩

end Go.Proofs.YtjejlhpnhkacmaaGreatDoor.RefC
end

section
/-
  The document's own answer for canon: Kraft, Kind.
-/
namespace Go.Proofs.YtjejlhpnhkacmaaGreatDoor.CanC
open Go.RowKit Go.My BitMath CanMath RefC

def BadAt (zs : List Int) : Prop := ∃ k, ∃ h : k < zs.length, zs[k] < 0 ∨ 15 < zs[k]

section
variable {a : Option Addr} {len cap : Nat} {zs : List Int} {w : World}
theorem good_take {zs : List Int} {k : Nat} (h : ∀ j (h : j < zs.length), j < k → 0 ≤ zs[j] ∧ zs[j] ≤ 15) (hl : zs.length = k) (h2 : k ≤ 65536) : Good zs :=
  ⟨by omega, fun z hz => by
    obtain ⟨j, hj, rfl⟩ := List.getElem_of_mem hz
    exact h j hj (by omega)⟩

/-- What ref Kraft hands back. -/
def KraftPost (zs : List Int) (e : Ending) : Prop := (Good zs → e = .returned (.int .i64 ((kr (nat zs) : Nat) : Int))) ∧ (¬ Good zs → e = .returned (.int .i64 (-1)))
set_option maxRecDepth 100000 in
set_option maxHeartbeats 2000000 in
theorem refkraft_any (h : RowIn w a len cap (zs.map iv)) :
    Calls Tryz.prog 51 #[.slice a len cap] w fun e w' => KraftPost zs e ∧ w = w' := by
  have hzl : zs.length = len := by have := h.len_eq; simpa using this
  have hlc := h.le_cap
  have hcl := h.cap_le
  have HZ := Lib.hid hzl
  have HR := Lib.hid h
  clear h hzl
  go_enter Tryz.func51, Tryz.ntmps51
  by_cases hbig : 65536 < len
  · go_wp2_with fail
    go_ret
    exact ⟨⟨fun hg => by have := hg.1; have := HZ.out; omega, fun _ => rfl⟩, rfl⟩
  go_wp2_with fail
  go_loop [3, 4] (fun s i => ∃ k : Nat, k ≤ len ∧ i = .int .i64 (k : Int) ∧ s = .int .i64 ((kr ((nat zs).take k) : Nat) : Int) ∧ Hid (∀ j (h : j < zs.length), j < k → 0 ≤ zs[j] ∧ zs[j] ≤ 15)) (fun _ i => len - (intOf i).toNat)
  case atStart => exact ⟨0, Nat.zero_le _, rfl, by simp [kr], Lib.hid (fun j _ h => by omega)⟩
  case round =>
    obtain ⟨k, hk, rfl, rfl, HG⟩ := hrel
    by_cases hlt : k < len
    · obtain ⟨b, off, rfl⟩ := HR.out.some_ (by omega)
      have hkz : k < zs.length := by rw [HZ.out]; exact hlt
      have hcz : w.cell? ⟨b, off + k, none⟩ = some (.int .i64 zs[k]) := by
        rw [HR.out.get k (by simpa using hkz)]
        simp [iv]
      obtain ⟨z, hz⟩ : ∃ z, z = zs[k] := ⟨_, rfl⟩
      rw [← hz] at hcz
      have HZK := Lib.hid hz
      clear hz
      by_cases hneg : z < 0
      · go_wp2_with fail
        go_ret
        exact ⟨⟨fun hg => by have := hg.2 z (by rw [HZK.out]; exact List.getElem_mem hkz); omega, fun _ => rfl⟩, rfl⟩
      · by_cases hgt : 15 < z
        · go_wp2_with fail
          go_ret
          exact ⟨⟨fun hg => by have := hg.2 z (by rw [HZK.out]; exact List.getElem_mem hkz); omega, fun _ => rfl⟩, rfl⟩
        · obtain ⟨n, rfl⟩ : ∃ n : Nat, z = (n : Int) := ⟨z.toNat, by omega⟩
          have HG1 : Hid (∀ j (h : j < zs.length), j < k + 1 → 0 ≤ zs[j] ∧ zs[j] ≤ 15) := Lib.hid (by
            intro j h hj
            by_cases he : j = k
            · subst he
              rw [← HZK.out]; omega
            · exact HG.out j h (by omega))
          have HTK : Hid (kr ((nat zs).take (k + 1)) = kr ((nat zs).take k) + share n) := Lib.hid (by rw [nat_snoc zs k hkz n HZK.out.symm, kr_append, kr_cons, kr_nil]; omega)
          have hkb : kr ((nat zs).take k) ≤ 16384 * 65536 := Nat.le_trans (kr_le _) (Nat.mul_le_mul_left _ (by rw [List.length_take]; omega))
          have HP : Hid (0 < n → share n = 2 ^ (15 - n)) := Lib.hid (fun h => share_eq h)
          have HP0 : Hid (n = 0 → share n = 0) := Lib.hid (fun h => by subst h; rfl)
          have hpl := share_le n
          generalize kr ((nat zs).take k) = x at *
          generalize share n = p at *
          by_cases h0 : 0 < n
          · have hp : (2 : Int) ^ (15 - n) = (p : Int) := by rw [HP.out h0]; push_cast; rfl
            have HP2 := Lib.hid hp
            have hs1 : (15 - (n : Int)).toNat = 15 - n := by omega
            have hs2 : min (15 - n) 64 = 15 - n := by omega
            have hs3 : IntKind.i64.wrap (2 ^ (15 - n)) = (p : Int) := by rw [hp, IntWalk.i64_in _ (by omega)]
            have hs4 : (1 : Int) * 2 ^ (15 - n) = (p : Int) := by rw [hp]; omega
            clear hp
            go_wp2_with fail
            go_round
            case rel => exact ⟨k + 1, by omega, by go_num, by rw [HTK.out]; go_num, HG1⟩
            case measure => simp [intOf]; omega
          · obtain rfl : n = 0 := by omega
            go_wp2_with fail
            go_round
            case rel => exact ⟨k + 1, by omega, by go_num, by rw [HTK.out, HP0.out rfl]; rfl, HG1⟩
            case measure => simp [intOf]; omega
    · obtain rfl : k = len := by omega
      have HT : Hid ((nat zs).take k = nat zs) := Lib.hid (List.take_of_length_le (by rw [nat_len, HZ.out]; omega))
      rw [HT.out]
      go_wp2_with fail
      go_ret
      exact ⟨⟨fun _ => rfl, fun hn => absurd (good_take HG.out HZ.out (by omega)) hn⟩, rfl⟩

set_option maxRecDepth 100000 in
set_option maxHeartbeats 2000000 in
theorem refkind_bad (h : RowIn w a len cap (zs.map iv)) (hg : ¬ Good zs) :
    Calls Tryz.prog 35 #[.slice a len cap] w fun e w' => e = .returned (.int .i64 4) ∧ w = w' := by
  have hzl : zs.length = len := by have := h.len_eq; simpa using this
  have h0 : 0 < len := by
    rcases Nat.eq_zero_or_pos len with h0 | h0
    · exact absurd ⟨by omega, fun z hz => by have : zs = [] := List.length_eq_zero_iff.1 (by omega); subst this; simp at hz⟩ hg
    · exact h0
  have HG := Lib.hid hg
  have HR := Lib.hid h
  have hlc := h.le_cap
  have hcl := h.cap_le
  clear h hg hzl
  go_enter Tryz.func35, Tryz.ntmps35
  go_wp2_with fail
  refine (refkraft_any HR.out).mono ?_
  rintro e w' ⟨he, rfl⟩
  obtain rfl := he.2 HG.out
  clear he
  go_wp2_with fail
  go_loop [4, 5, 6] (fun s o i => i = .int .i64 0) (fun _ _ _ => 0)
  case atStart => rfl
  case round =>
    obtain rfl := hrel
    go_wp2_with fail
    go_ret
    exact ⟨rfl, rfl⟩

set_option maxRecDepth 100000 in
set_option maxHeartbeats 4000000 in
theorem refkind_good (h : RowIn w a len cap (zs.map iv)) (hg : Good zs) :
    Calls Tryz.prog 35 #[.slice a len cap] w fun e w' => e = .returned (.int .i64 (kindN (nat zs))) ∧ w = w' := by
  have hzl : zs.length = len := by have := h.len_eq; simpa using this
  have hlen : len ≤ 65536 := by rw [← hzl]; exact hg.1
  have HKN : Hid (kindN (nat zs) = if 32768 < kr (nat zs) then 4 else if kr (nat zs) = 0 then 0 else if kr (nat zs) = 32768 then 1 else if kr (nat zs) = 16384 ∧ (nat zs).count 1 = 1 then 2 else 3) := Lib.hid rfl
  have HA := Lib.hid (some_none (nat zs))
  have HO := Lib.hid (single (nat zs))
  have hkr : kr (nat zs) ≤ 16384 * 65536 := Nat.le_trans (kr_le _) (Nat.mul_le_mul_left _ (by rw [nat_len]; exact hg.1))
  have HZ := Lib.hid hzl
  have HG := Lib.hid hg
  have HR := Lib.hid h
  clear h hg hzl
  generalize kindN (nat zs) = X at *
  go_enter Tryz.func35, Tryz.ntmps35
  go_wp2_with fail
  refine (refkraft_any HR.out).mono ?_
  rintro e w' ⟨he, rfl⟩
  obtain rfl := he.1 HG.out
  clear he
  generalize kr (nat zs) = K at *
  go_wp2_with fail
  go_loop [4, 5, 6] (fun s o i => ∃ k : Nat, k ≤ len ∧ i = .int .i64 (k : Int) ∧ s = .int .i64 (((some_ ((nat zs).take k)).length : Nat) : Int) ∧ o = .int .i64 (((some_ ((nat zs).take k)).getLastD 0 : Nat) : Int)) (fun _ _ i => len - (intOf i).toNat)
  case atStart => exact ⟨0, Nat.zero_le _, rfl, rfl, rfl⟩
  case round =>
    obtain ⟨k, hk, rfl, rfl, rfl⟩ := hrel
    by_cases hlt : k < len
    · obtain ⟨b, off, rfl⟩ := HR.out.some_ (by omega)
      have hkz : k < zs.length := by rw [HZ.out]; exact hlt
      obtain ⟨n, hn⟩ : ∃ n : Nat, zs[k] = (n : Int) := ⟨zs[k].toNat, by have := HG.out.2 _ (List.getElem_mem hkz); omega⟩
      have hcz : w.cell? ⟨b, off + k, none⟩ = some (.int .i64 (n : Int)) := by
        rw [HR.out.get k (by simpa using hkz)]
        simp [iv, hn]
      have HTK : Hid (some_ ((nat zs).take (k + 1)) = if 0 < n then some_ ((nat zs).take k) ++ [n] else some_ ((nat zs).take k)) := Lib.hid (by rw [nat_snoc zs k hkz n hn, some_snoc])
      have hsl : (some_ ((nat zs).take k)).length ≤ 65536 := Nat.le_trans (List.length_filter_le _ _) (by rw [List.length_take]; omega)
      clear hn
      generalize hq : some_ ((nat zs).take k) = q at *
      clear hq
      by_cases h0 : 0 < n
      · have HL : Hid ((q ++ [n]).length = q.length + 1) := Lib.hid (by simp)
        have HD : Hid ((q ++ [n]).getLastD 0 = n) := Lib.hid (by simp)
        have HT2 : Hid (some_ ((nat zs).take (k + 1)) = q ++ [n]) := Lib.hid (by rw [HTK.out, if_pos h0])
        clear HTK
        generalize q.length = y at *
        go_wp2_with fail
        go_round
        case rel => exact ⟨k + 1, by omega, by go_num, by rw [HT2.out, HL.out]; go_num, by rw [HT2.out, HD.out]⟩
        case measure => simp [intOf]; omega
      · have HT2 : Hid (some_ ((nat zs).take (k + 1)) = q) := Lib.hid (by rw [HTK.out, if_neg h0])
        clear HTK
        go_wp2_with fail
        go_round
        case rel => exact ⟨k + 1, by omega, by go_num, by rw [HT2.out], by rw [HT2.out]⟩
        case measure => simp [intOf]; omega
    · obtain rfl : k = len := by omega
      have HT : Hid ((nat zs).take k = nat zs) := Lib.hid (List.take_of_length_le (by rw [nat_len, HZ.out]; omega))
      rw [HT.out]
      clear HT
      have hsl : (some_ (nat zs)).length ≤ 65536 := Nat.le_trans (List.length_filter_le _ _) (by rw [nat_len, HZ.out]; omega)
      generalize (some_ (nat zs)).length = c at *
      generalize (some_ (nat zs)).getLastD 0 = o at *
      generalize (nat zs).count 1 = d at *
      by_cases h1 : 32768 < K
      · have HKN2 : Hid (X = 4) := Lib.hid (by rw [HKN.out, if_pos h1])
        clear HKN HA HO
        go_wp2_with fail
        go_ret
        exact ⟨ret_int (by rw [HKN2.out]), rfl⟩
      · by_cases h2 : c = 0
        · have HKN2 : Hid (X = 0) := Lib.hid (by rw [HKN.out, if_neg h1, if_pos (HA.out.1 h2)])
          subst h2
          clear HKN HA HO
          go_wp2_with fail
          go_ret
          exact ⟨ret_int (by rw [HKN2.out]), rfl⟩
        · have e2 : ((c : Int) == 0) = false := by simp; omega
          have hK0 : K ≠ 0 := fun h => h2 (HA.out.2 h)
          by_cases h3 : K = 32768
          · have HKN2 : Hid (X = 1) := Lib.hid (by rw [HKN.out, if_neg h1, if_neg hK0, if_pos h3])
            subst h3
            clear HKN HA HO h1 h2 hK0
            go_wp2_with fail
            go_ret
            exact ⟨ret_int (by rw [HKN2.out]), rfl⟩
          · have e3 : ((K : Int) == 32768) = false := by simp; omega
            by_cases h4 : c = 1
            · by_cases h5 : o = 1
              · have HKN2 : Hid (X = 2) := Lib.hid (by rw [HKN.out, if_neg h1, if_neg hK0, if_neg h3, if_pos (HO.out.1 ⟨h4, h5⟩)])
                subst h4
                subst h5
                clear HKN HA HO h2 h3 e2 hK0
                go_wp2_with fail
                go_ret
                exact ⟨ret_int (by rw [HKN2.out]), rfl⟩
              · have HKN2 : Hid (X = 3) := Lib.hid (by rw [HKN.out, if_neg h1, if_neg hK0, if_neg h3, if_neg (fun h => h5 (HO.out.2 h).2)])
                have e5 : ((o : Int) == 1) = false := by simp; omega
                subst h4
                clear HKN HA HO h2 h3 h5 e2 hK0
                go_wp2_with fail
                go_ret
                exact ⟨ret_int (by rw [HKN2.out]), rfl⟩
            · have HKN2 : Hid (X = 3) := Lib.hid (by rw [HKN.out, if_neg h1, if_neg hK0, if_neg h3, if_neg (fun h => h4 (HO.out.2 h).1)])
              have e4 : ((c : Int) == 1) = false := by simp; omega
              clear HKN HA HO h2 h3 h4 hK0
              go_wp2_with fail
              go_ret
              exact ⟨ret_int (by rw [HKN2.out]), rfl⟩
end
end Go.Proofs.YtjejlhpnhkacmaaGreatDoor.CanC
end

section
/-
  The document's own answer for canon: Codes.
-/
namespace Go.Proofs.YtjejlhpnhkacmaaGreatDoor.CanC
open Go.RowKit Go.My BitMath CanMath RefC

def sv (ls : List Nat) (j : Nat) : Value := .string (txt (bitsAt ls j))
/-- What ref Codes has laid in the round of length n ahead of place i. -/
def outAt (ls : List Nat) (n i : Nat) : List Value := (List.range ls.length).map fun j => if ls.getD j 0 < n ∨ (ls.getD j 0 = n ∧ j < i) then sv ls j else .string ⟨#[]⟩
theorem outAt_len (ls : List Nat) (n i : Nat) : (outAt ls n i).length = ls.length := by simp [outAt]
theorem bitsAt_zero (ls : List Nat) (j : Nat) (h : ls.getD j 0 = 0) : bitsAt ls j = [] := by
  unfold bitsAt
  split
  · next hj =>
    have : ls[j] = 0 := by simpa [List.getD_eq_getElem?_getD, List.getElem?_eq_getElem hj] using h
    rw [this]; rfl
  · rfl
theorem outAt_zero (ls : List Nat) : outAt ls 1 0 = List.replicate ls.length (.string ⟨#[]⟩) := by
  unfold outAt
  apply List.ext_getElem
  · simp
  · intro i h1 h2
    simp only [List.getElem_map, List.getElem_range, List.getElem_replicate]
    split
    · next h => unfold sv; rw [bitsAt_zero ls i (by omega)]; rfl
    · rfl
theorem getD_get (ls : List Nat) (i : Nat) (h : i < ls.length) : ls.getD i 0 = ls[i] := by
  rw [List.getD_eq_getElem?_getD, List.getElem?_eq_getElem h]; rfl
theorem outAt_hit (ls : List Nat) (n i : Nat) (h : i < ls.length) (hn : ls[i] = n) : (outAt ls n i).set i (sv ls i) = outAt ls n (i + 1) := by
  unfold outAt
  apply List.ext_getElem
  · simp
  · intro j h1 h2
    rw [List.getElem_set]
    simp only [List.getElem_map, List.getElem_range]
    by_cases he : i = j
    · subst he
      rw [if_pos rfl, if_pos (.inr ⟨by rw [getD_get ls i h]; exact hn, by omega⟩)]
    · rw [if_neg he]
      have : (j < i) ↔ (j < i + 1) := by omega
      simp only [this]
theorem outAt_miss (ls : List Nat) (n i : Nat) (h : i < ls.length) (hn : ls[i] ≠ n) : outAt ls n i = outAt ls n (i + 1) := by
  unfold outAt
  apply List.map_congr_left
  intro j _
  by_cases he : j = i
  · subst he
    rw [getD_get ls j h]
    have e : ∀ k, (ls[j] < n ∨ (ls[j] = n ∧ j < k)) ↔ ls[j] < n := fun k => ⟨fun hh => by rcases hh with hh | hh; exact hh; exact absurd hh.1 hn, .inl⟩
    simp only [e]
  · have : (j < i) ↔ (j < i + 1) := by omega
    simp only [this]
theorem outAt_next (ls : List Nat) (n : Nat) : outAt ls n ls.length = outAt ls (n + 1) 0 := by
  unfold outAt
  apply List.map_congr_left
  intro j hj
  have hj' : j < ls.length := List.mem_range.1 hj
  have : (ls.getD j 0 < n ∨ (ls.getD j 0 = n ∧ j < ls.length)) ↔ (ls.getD j 0 < n + 1 ∨ (ls.getD j 0 = n + 1 ∧ j < 0)) := by omega
  simp only [this]
/-- All codes as texts. -/
def texts (ls : List Nat) : List Value := (List.range ls.length).map (sv ls)
theorem texts_len (ls : List Nat) : (texts ls).length = ls.length := by simp [texts]
theorem texts_get (ls : List Nat) (i : Nat) (h : i < ls.length) : (texts ls)[i]'(by rw [texts_len]; exact h) = sv ls i := by simp [texts]
theorem outAt_all (ls : List Nat) (h : ∀ x ∈ ls, x ≤ 15) : outAt ls 16 0 = texts ls := by
  unfold outAt texts
  apply List.map_congr_left
  intro j hj
  have hj' : j < ls.length := List.mem_range.1 hj
  have h1 := h _ (List.getElem_mem hj')
  have h2 : ls.getD j 0 < 16 := by rw [getD_get ls j hj']; omega
  rw [if_pos (.inl h2)]
/-- Half of the first code. -/
def nx (ls : List Nat) (n : Nat) : Nat := first ls n / 2
theorem nx_one (ls : List Nat) : nx ls 1 = 0 := by simp [nx, first]
theorem nx_two (ls : List Nat) (n : Nat) (h : 1 ≤ n) : nx ls n * 2 = codeN ls n 0 := by
  have e : codeN ls n 0 = first ls n := by unfold codeN; simp
  rw [e]
  unfold nx
  cases n with
  | zero => omega
  | succ n =>
    cases n with
    | zero => simp [first]
    | succ n => rw [first]; omega
theorem nx_succ (ls : List Nat) (n : Nat) (h : 1 ≤ n) : codeN ls n ls.length = nx ls (n + 1) := by
  unfold nx codeN
  obtain ⟨m, rfl⟩ : ∃ m, n = m + 1 := ⟨n - 1, by omega⟩
  rw [first, List.take_length]; omega
theorem codeN_le (ls : List Nat) (hall : ∀ x ∈ ls, x ≤ 15) (hk : kr ls ≤ 32768) (hl : ls.length ≤ 65536) (k n : Nat) (h1 : 1 ≤ n) (hn : n ≤ 15) : codeN ls n k ≤ 98304 := by
  have := nf_le ls hall hk hl k n hn
  unfold nf at this
  rwa [if_neg (by omega)] at this
theorem codeN_hit (ls : List Nat) (n i : Nat) (h : i < ls.length) (hn : ls[i] = n) : codeN ls n (i + 1) = codeN ls n i + 1 := by
  unfold codeN; rw [count_take_succ ls i n h, if_pos hn]; omega
theorem codeN_miss (ls : List Nat) (n i : Nat) (h : i < ls.length) (hn : ls[i] ≠ n) : codeN ls n (i + 1) = codeN ls n i := by
  unfold codeN; rw [count_take_succ ls i n h, if_neg hn]; rfl
theorem info_str : (Tryz.prog.info? 9).map (fun i => (i.zero, i.size, i.bytes)) = some (some (.string ⟨#[]⟩), 1, 16) := by kernel_rfl

section
variable {a : Option Addr} {len cap : Nat} {zs : List Int} {w : World}
set_option maxRecDepth 100000 in
set_option maxHeartbeats 2000000 in
theorem refcodes_bad (h : RowIn w a len cap (zs.map iv)) (hg : ¬ Good zs) :
    Calls Tryz.prog 31 #[.slice a len cap] w fun e w' => e = .returned (.tuple #[.slice none 0 0, .int .i64 7]) ∧ w = w' := by
  have HG := Lib.hid hg
  have HR := Lib.hid h
  clear hg h
  go_enter Tryz.func31, Tryz.ntmps31
  go_wp2_with fail
  refine (refkraft_any HR.out).mono ?_
  rintro e w' ⟨he, rfl⟩
  obtain rfl := he.2 HG.out
  clear he
  go_wp2_with fail
  go_ret2
  exact ⟨rfl, rfl⟩
set_option maxRecDepth 100000 in
set_option maxHeartbeats 2000000 in
theorem refcodes_over (h : RowIn w a len cap (zs.map iv)) (hg : Good zs) (hk : 32768 < kr (nat zs)) :
    Calls Tryz.prog 31 #[.slice a len cap] w fun e w' => e = .returned (.tuple #[.slice none 0 0, .int .i64 2]) ∧ w = w' := by
  have HG := Lib.hid hg
  have HR := Lib.hid h
  have HK : Hid (kindN (nat zs) = 4) := Lib.hid (by unfold kindN; rw [if_pos hk])
  clear hg h hk
  go_enter Tryz.func31, Tryz.ntmps31
  go_wp2_with fail
  refine (refkraft_any HR.out).mono ?_
  rintro e w' ⟨he, rfl⟩
  obtain rfl := he.1 HG.out
  clear he
  generalize kr (nat zs) = K at *
  go_wp2_with fail
  refine (refkind_good HR.out HG.out).mono ?_
  rw [HK.out]
  rintro e w' ⟨rfl, rfl⟩
  go_wp2_with fail
  go_ret2
  exact ⟨rfl, rfl⟩

def TextsOk (zs : List Int) (w : World) (e : Ending) (w' : World) : Prop := ∃ g, e = .returned (.tuple #[.slice (some ⟨g, 0, none⟩) zs.length zs.length, .int .i64 0]) ∧ w.heap.size ≤ g ∧ OwnV 9 w.heap.size w' (.slice (some ⟨g, 0, none⟩) zs.length zs.length) (texts (nat zs)) ∧ Below w.heap.size w w'

set_option maxRecDepth 100000 in
set_option maxHeartbeats 4000000 in
theorem refcodes_ok (h : RowIn w a len cap (zs.map iv)) (hg : Good zs) (hk : kr (nat zs) ≤ 32768) :
    Calls Tryz.prog 31 #[.slice a len cap] w (TextsOk zs w) := by
  have hzl : zs.length = len := by have := h.len_eq; simpa using this
  have hlen : len ≤ 65536 := by rw [← hzl]; exact hg.1
  have HZ := Lib.hid hzl
  have HG := Lib.hid hg
  have HR := Lib.hid h
  have HKR := Lib.hid hk
  have HLS : Hid ((nat zs).length = len) := Lib.hid (by rw [nat_len]; exact hzl)
  have HK : Hid ((kindN (nat zs) == 4) = false) := Lib.hid (by
    unfold kindN
    rw [if_neg (by omega)]
    split
    · rfl
    · split
      · rfl
      · split <;> rfl)
  clear hg h hk hzl
  go_enter Tryz.func31, Tryz.ntmps31
  go_wp2_with fail
  refine (refkraft_any HR.out).mono ?_
  rintro e w' ⟨he, rfl⟩
  obtain rfl := he.1 HG.out
  clear he
  have HKQ := Lib.hid (show kr (nat zs) ≤ 32768 from HKR.out)
  generalize hKK : kr (nat zs) = K
  clear hKK
  go_wp2_with fail
  refine (refkind_good HR.out HG.out).mono ?_
  rintro e w' ⟨rfl, rfl⟩
  have hkn := HK.out
  generalize kindN (nat zs) = X at *
  go_wp2_with (at_make; refine wpList_make_row _ rfl (.tmp 15) (.tmp 15) 59 rfl w.heap.size 9 (.string ⟨#[]⟩) 16 Tryz.underlying59 info_str rfl .i64 .i64 len rfl rfl (by omega) (by omega) (Nat.le_refl _) ?_)
  clear hkn HK
  intro w1 hown hg1
  have HO : Hid (OwnV 9 w.heap.size w1 (.slice (some ⟨w.heap.size, 0, none⟩) len len) (outAt (nat zs) 1 0)) := Lib.hid (by rw [outAt_zero, HLS.out]; exact hown)
  have HB : Hid (Below w.heap.size w w1) := Lib.hid (grown_none_below (Below.refl _ w) hg1 (Nat.le_refl _))
  clear hown hg1
  go_wp2_with fail
  go_loopw [5, 6, 7] (fun x nv _ wr => ∃ n : Nat, 1 ≤ n ∧ n ≤ 16 ∧ nv = .int .i64 (n : Int) ∧ x = .int .u32 ((nx (nat zs) n : Nat) : Int) ∧ Hid (OwnV 9 w.heap.size wr (.slice (some ⟨w.heap.size, 0, none⟩) len len) (outAt (nat zs) n 0)) ∧ Hid (Below w.heap.size w wr)) (fun _ nv _ _ => 16 - (intOf nv).toNat)
  case atStart => exact ⟨1, by omega, by omega, rfl, by rw [nx_one]; rfl, HO, HB⟩
  case round =>
    clear HO HB
    obtain ⟨n, hn1, hn16, rfl, rfl, HO, HB⟩ := hrel
    by_cases hlt : n < 16
    · have HC0 : Hid (nx (nat zs) n * 2 = codeN (nat zs) n 0) := Lib.hid (nx_two _ n hn1)
      have hxl : nx (nat zs) n * 2 ≤ 98304 := by rw [HC0.out]; exact codeN_le _ HG.out.all HKR.out (by rw [HLS.out]; exact hlen) 0 n hn1 (by omega)
      have HCE : Hid (codeN (nat zs) n len = nx (nat zs) (n + 1)) := Lib.hid (by rw [← HLS.out]; exact nx_succ _ n hn1)
      have HOE : Hid (outAt (nat zs) n len = outAt (nat zs) (n + 1) 0) := Lib.hid (by rw [← HLS.out]; exact outAt_next _ n)
      generalize nx (nat zs) n = x0 at *
      have hd15 : decide ((n : Int) ≤ 15) = true := by simp; omega
      go_wp2_with fail
      go_loopw [5, 7] (fun x i wr => ∃ k : Nat, k ≤ len ∧ i = .int .i64 (k : Int) ∧ x = .int .u32 ((codeN (nat zs) n k : Nat) : Int) ∧ Hid (OwnV 9 w.heap.size wr (.slice (some ⟨w.heap.size, 0, none⟩) len len) (outAt (nat zs) n k)) ∧ Hid (Below w.heap.size w wr)) (fun _ i _ => len - (intOf i).toNat)
      case atStart => exact ⟨0, Nat.zero_le _, rfl, by rw [← HC0.out]; go_num, HO, HB⟩
      case round =>
        clear HO HB
        obtain ⟨k, hk, rfl, rfl, HO, HB⟩ := hrel
        by_cases hkl : k < len
        · obtain ⟨b, off, rfl⟩ := HR.out.some_ (by omega)
          have hkz : k < zs.length := by rw [HZ.out]; exact hkl
          have hkn : k < (nat zs).length := by rw [HLS.out]; exact hkl
          obtain ⟨m, hm⟩ : ∃ m : Nat, zs[k] = (m : Int) := ⟨zs[k].toNat, by have := HG.out.2 _ (List.getElem_mem hkz); omega⟩
          have hm2 : (nat zs)[k] = m := by rw [nat_get zs k hkz, hm]; rfl
          have hcz : wr.cell? ⟨b, off + k, none⟩ = some (.int .i64 (m : Int)) := by
            rw [HB.out.cell (p := ⟨b, off + k, none⟩) (HR.out.lt (by omega)), HR.out.get k (by simpa using hkz)]
            simp [iv, hm]
          have hcl : codeN (nat zs) n k ≤ 98304 := codeN_le _ HG.out.all HKR.out (by rw [HLS.out]; exact hlen) k n hn1 (by omega)
          by_cases he : m = n
          · subst he
            have HC1 : Hid (codeN (nat zs) m (k + 1) = codeN (nat zs) m k + 1) := Lib.hid (codeN_hit _ m k hkn hm2)
            have hwl : (outAt (nat zs) m k).length = len := by rw [outAt_len, HLS.out]
            obtain ⟨old, hc2⟩ : ∃ old, wr.cell? ⟨w.heap.size, k, none⟩ = some old := ⟨_, HO.out.cell hwl k (by rw [hwl]; exact hkl)⟩
            have hf2 : wr.frozen? ⟨w.heap.size, k, none⟩ = false := HO.out.free hwl k
            have HST := Lib.hid (HO.out.store hwl k (sv (nat zs) k))
            have HST2 : Hid (OwnV 9 w.heap.size (wr.setCell ⟨w.heap.size, k, none⟩ (sv (nat zs) k)) (.slice (some ⟨w.heap.size, 0, none⟩) len len) (outAt (nat zs) m (k + 1))) := Lib.hid (by rw [← outAt_hit _ m k hkn hm2]; exact HST.out)
            have HSV : Hid (sv (nat zs) k = .string (txt (lows m (codeN (nat zs) m k)).reverse)) := Lib.hid (by unfold sv; rw [bitsAt_eq _ k hkn, hm2])
            clear HST hwl hm hm2
            generalize codeN (nat zs) m k = x at *
            go_wp2_with fail
            refine (refcode_any x m wr hn1 (by omega) (by omega)).mono ?_
            rw [HSV.out] at HST2
            clear HSV
            generalize txt (lows m x).reverse = t at *
            rintro e w' ⟨rfl, rfl⟩
            go_wp2_with fail
            go_roundw
            case rel => exact ⟨k + 1, by omega, by go_num, by rw [HC1.out]; go_num, HST2, Lib.hid (HB.out.setCell (p := ⟨w.heap.size, k, none⟩) (Nat.le_refl _) _)⟩
            case measure => simp [intOf]; omega
          · have HC1 : Hid (codeN (nat zs) n (k + 1) = codeN (nat zs) n k) := Lib.hid (codeN_miss _ n k hkn (by rw [hm2]; exact he))
            have HO1 : Hid (OwnV 9 w.heap.size wr (.slice (some ⟨w.heap.size, 0, none⟩) len len) (outAt (nat zs) n (k + 1))) := Lib.hid (by rw [← outAt_miss _ n k hkn (by rw [hm2]; exact he)]; exact HO.out)
            have hne : ((m : Int) == (n : Int)) = false := by simp; omega
            clear hm hm2 he
            generalize codeN (nat zs) n k = x at *
            go_wp2_with fail
            go_roundw
            case rel => exact ⟨k + 1, by omega, by go_num, by rw [HC1.out], HO1, HB⟩
            case measure => simp [intOf]; omega
        · obtain rfl : k = len := by omega
          rw [HCE.out]
          rw [HOE.out] at HO
          go_wp2_with fail
          go_roundw
          case rel => exact ⟨n + 1, by omega, by omega, by go_num, rfl, HO, HB⟩
          case measure => simp [intOf]; omega
    · obtain rfl : n = 16 := by omega
      rw [outAt_all _ HG.out.all] at HO
      go_wp2_with fail
      go_ret2
      exact ⟨w.heap.size, by rw [HZ.out]; rfl, Nat.le_refl _, by rw [HZ.out]; exact HO.out, HB.out⟩
end
end Go.Proofs.YtjejlhpnhkacmaaGreatDoor.CanC
end

section
/-
  The document's own Find; its bits (TabG's, without law 8).
-/
namespace Go.Proofs.YtjejlhpnhkacmaaGreatDoor.TabC
open Go.RowKit Go.My BitMath CanMath TabMath CanC

/-! ### texts of bits (as in CanonReads' text) -/
theorem txt_inj {a b : List Bool} (h : txt a = txt b) : a = b := by
  unfold txt at h
  injection h with h
  have h2 := congrArg Array.toList h
  simp only at h2
  induction a generalizing b with
  | nil =>
    cases b with
    | nil => rfl
    | cons y t => simp at h2
  | cons x s ih =>
    cases b with
    | nil => simp at h2
    | cons y t =>
      simp only [List.map_cons, List.cons.injEq] at h2
      rw [chB_inj x y h2.1, ih (congrArg List.toArray h2.2) h2.2]
theorem txt_take (l : List Bool) (n : Nat) : (txt l).extract 0 n = txt (l.take n) := by
  apply ByteArray.ext
  rw [ByteArray.data_extract]
  unfold txt
  apply Array.ext'
  simp [List.extract_eq_take_drop, List.map_take]
theorem list_inj {a b : ByteArray} (h : a.toList = b.toList) : a = b := by
  rw [Go.ByteArray.toList_eq, Go.ByteArray.toList_eq] at h
  exact ByteArray.ext (Array.toList_inj.1 h)
theorem str_no {a b : ByteArray} (h : a ≠ b) : (a.toList == b.toList) = false := by
  simp only [beq_eq_false_iff_ne, ne_eq]
  exact fun e => h (list_inj e)
theorem str_yes {a b : ByteArray} (h : a = b) : (a.toList == b.toList) = true := by subst h; simp
theorem str_some {c : ByteArray} (h : 0 < c.size) : c.toList.isEmpty = false := by
  rw [Go.ByteArray.toList_eq]
  cases hc : c.data.toList with
  | nil =>
    have : c.size = 0 := by
      have h2 := congrArg List.length hc
      rw [Array.length_toList] at h2
      exact h2
    omega
  | cons x t => rfl
theorem lows_eq_iff (n a b : Nat) : lows n a = lows n b ↔ a % 2 ^ n = b % 2 ^ n := by
  constructor
  · intro h; rw [← num_lows, h, num_lows]
  · exact lows_eq_of_mod
theorem lows_take (n m v : Nat) (h : n ≤ m) : (lows m v).take n = lows n v := by
  rw [show m = n + (m - n) from by omega, lows_add, List.take_append_of_le_length (by rw [lows_len]; omega), List.take_of_length_le (by rw [lows_len]; omega)]

/-- None of the first k codes stands in front. -/
def Nf (ls : List Nat) (v m k : Nat) : Prop := ∀ j, j < k → ¬ (ln ls j ≤ m ∧ Has ls (v % 2 ^ m) j)
/-- One of the first k codes begins with all bits that are there. -/
def Mo (ls : List Nat) (v m k : Nat) : Prop := ∃ j, j < k ∧ m < ln ls j ∧ wd ls j % 2 ^ m = v % 2 ^ m
theorem Nf.step {ls : List Nat} {v m k : Nat} (h : Nf ls v m k) (hk : ¬ (ln ls k ≤ m ∧ Has ls (v % 2 ^ m) k)) : Nf ls v m (k + 1) := by
  intro j hj
  by_cases he : j = k
  · subst he; exact hk
  · exact h j (by omega)
theorem Mo.step {ls : List Nat} {v m k : Nat} (hk : ¬ (m < ln ls k ∧ wd ls k % 2 ^ m = v % 2 ^ m)) : Mo ls v m (k + 1) ↔ Mo ls v m k := by
  constructor
  · rintro ⟨j, h1, h2, h3⟩
    by_cases he : j = k
    · subst he; exact absurd ⟨h2, h3⟩ hk
    · exact ⟨j, by omega, h2, h3⟩
  · rintro ⟨j, h1, h2⟩
    exact ⟨j, by omega, h2⟩
theorem Mo.more {ls : List Nat} {v m k : Nat} (h : Mo ls v m k) : Mo ls v m (k + 1) := by
  obtain ⟨j, h1, h2⟩ := h
  exact ⟨j, by omega, h2⟩
section
variable {ls : List Nat} (hall : ∀ x ∈ ls, x ≤ 15) (hk : kr ls ≤ 32768)
include hall hk
theorem ref_found {v m i : Nat} (hn : ln ls i ≤ m) (h1 : 1 ≤ ln ls i) (h : v % 2 ^ ln ls i = wd ls i) :
    ansV (who ls (v % 2 ^ m)) m = .tuple #[.int .i64 (i : Int), .int .i64 ((ln ls i : Nat) : Int), .int .i64 0] := by
  have hh : Has ls (v % 2 ^ m) i := ⟨h1, by rw [mod_mod_pow v hn]; exact h⟩
  rw [who_some hall hk hh]
  unfold ansV
  rw [if_neg (by dsimp only; omega), if_neg (by dsimp only; omega)]
theorem ref_more {v m : Nat} (hf : Nf ls v m ls.length) (h : Mo ls v m ls.length) : ansV (who ls (v % 2 ^ m)) m = .tuple #[.int .i64 0, .int .i64 0, .int .i64 5] := by
  obtain ⟨j, _, h2, h3⟩ := h
  obtain ⟨k, hk'⟩ := has_fill hall hk h2 h3
  rw [who_some hall hk hk']
  have hlt : m < ln ls k := by
    by_cases hle : ln ls k ≤ m
    · exact absurd ⟨hle, hk'⟩ (hf k (ln_lt hk'.1))
    · omega
  unfold ansV
  rw [if_neg (by dsimp only; omega), if_pos hlt]
omit hall hk in
theorem ref_none {v m : Nat} (hf : Nf ls v m ls.length) (h : ¬ Mo ls v m ls.length) : ansV (who ls (v % 2 ^ m)) m = .tuple #[.int .i64 0, .int .i64 0, .int .i64 2] := by
  have hn : ∀ k, ¬ Has ls (v % 2 ^ m) k := by
    intro k hk'
    have hkl := ln_lt hk'.1
    by_cases hle : ln ls k ≤ m
    · exact hf k hkl ⟨hle, hk'⟩
    · apply h
      refine ⟨k, hkl, by omega, ?_⟩
      rw [← hk'.2, mod_mod_pow _ (by omega), Nat.mod_mod]
  rw [who_none hn]; rfl
end

section
variable {gc len : Nat} {zs : List Int} {w : World}
set_option maxRecDepth 100000 in
set_option maxHeartbeats 8000000 in
theorem reffind_any (v m : Nat) (t : ByteArray) (h : RowIn w (some ⟨gc, 0, none⟩) len len (texts (nat zs))) (ht : t = txt (lows m v)) (hm : m ≤ 15) (hg : CanC.Good zs) (hk : kr (nat zs) ≤ 32768) (hlen : (nat zs).length = len) :
    Calls Tryz.prog 36 #[.slice (some ⟨gc, 0, none⟩) len len, .string t] w fun e w' => e = .returned (ansV (who (nat zs) (v % 2 ^ m)) m) ∧ w = w' := by
  have HR := Lib.hid h
  have HG := Lib.hid hg
  have HK := Lib.hid hk
  have HT := Lib.hid ht
  have hts : t.size = m := by rw [ht, txt_len, lows_len]
  have HLS := Lib.hid hlen
  have hl6 : len ≤ 65536 := by rw [← hlen, nat_len]; exact hg.1
  clear h hg hk ht hlen
  go_enter Tryz.func36, Tryz.ntmps36
  go_wp2_with fail
  go_loop [7, 8, 9] (fun mo i _ => ∃ (k : Nat) (b : Bool), k ≤ len ∧ i = .int .i64 (k : Int) ∧ mo = .bool b ∧ Hid (b = true ↔ Mo (nat zs) v m k) ∧ Hid (Nf (nat zs) v m k)) (fun _ i _ => len - (intOf i).toNat)
  case atStart => exact ⟨0, false, Nat.zero_le _, rfl, rfl, Lib.hid ⟨fun h => (by cases h), fun h => (by obtain ⟨j, hj, _⟩ := h; omega)⟩, Lib.hid (fun j hj => by omega)⟩
  case round =>
    obtain ⟨k, b, hk, rfl, rfl, HM, HN⟩ := hrel
    by_cases hlt : k < len
    · have hkn : k < (nat zs).length := by rw [HLS.out]; exact hlt
      obtain ⟨n, hn⟩ : ∃ n, n = ln (nat zs) k := ⟨_, rfl⟩
      have hn15 : n ≤ 15 := by rw [hn]; exact ln_le HG.out.all k
      obtain ⟨c, hc⟩ : ∃ c, c = txt (lows n (wd (nat zs) k)) := ⟨_, rfl⟩
      have hcs : c.size = n := by rw [hc, txt_len, lows_len]
      have hcc : w.cell? ⟨gc, k, none⟩ = some (.string c) := by
        have h1 := HR.out.get k (by rw [texts_len]; exact hkn)
        rw [texts_get _ k hkn, Nat.zero_add] at h1
        rw [h1, hc, hn]
        unfold sv
        rw [bitsAt_wd _ k hkn]
      have HLN := Lib.hid hn
      have HC := Lib.hid hc
      clear hn hc
      by_cases hn0 : n = 0
      · subst hn0
        have hce : c = ⟨#[]⟩ := by rw [HC.out]; rfl
        subst hce
        have HM2 : Hid (b = true ↔ Mo (nat zs) v m (k + 1)) := Lib.hid (by rw [Mo.step (by rw [← HLN.out]; omega)]; exact HM.out)
        have HN2 : Hid (Nf (nat zs) v m (k + 1)) := Lib.hid (HN.out.step (fun hc => by have := hc.2.1; rw [← HLN.out] at this; omega))
        clear HC HM HN
        go_wp2_with fail
        go_round
        case rel => exact ⟨k + 1, b, by omega, by go_num, rfl, HM2, HN2⟩
        case measure => simp [intOf]; omega
      · have hne : c ≠ ⟨#[]⟩ := by
          intro h
          rw [h] at hcs
          exact hn0 hcs.symm
        have hne1 := str_some (c := c) (by omega)
        clear hne
        by_cases hnm : n ≤ m
        · have hd1 : decide (n ≤ m) = true := by simp; omega
          have hd2 : decide (n > m) = false := by simp; omega
          by_cases heq : v % 2 ^ n = wd (nat zs) k
          · have e1 : ((t.extract 0 n).toList == c.toList) = true := str_yes (by
              rw [HT.out, HC.out, txt_take, lows_take n m v hnm, (lows_eq_iff n v (wd (nat zs) k)).2 (by rw [← heq, Nat.mod_mod])])
            have HE : Hid (ansV (who (nat zs) (v % 2 ^ m)) m = .tuple #[.int .i64 (k : Int), .int .i64 (n : Int), .int .i64 0]) := Lib.hid (by
              have h1 := ref_found HG.out.all HK.out (v := v) (m := m) (i := k) (by rw [← HLN.out]; exact hnm) (by rw [← HLN.out]; omega) (by rw [← HLN.out]; exact heq)
              rw [← HLN.out] at h1
              exact h1)
            clear heq HM HN HC
            go_wp2_with fail
            go_ret3
            exact ⟨by rw [HE.out]; rfl, rfl⟩
          · have e1 : ((t.extract 0 n).toList == c.toList) = false := str_no (by
              rw [HT.out, HC.out, txt_take, lows_take n m v hnm]
              intro h
              have h1 := (lows_eq_iff n v _).1 (txt_inj h)
              have h2 := wd_lt (nat zs) k
              rw [← HLN.out] at h2
              rw [Nat.mod_eq_of_lt h2] at h1
              exact heq h1)
            have HM2 : Hid (b = true ↔ Mo (nat zs) v m (k + 1)) := Lib.hid (by rw [Mo.step (by rw [← HLN.out]; omega)]; exact HM.out)
            have HN2 : Hid (Nf (nat zs) v m (k + 1)) := Lib.hid (HN.out.step (fun hc => by
              have h1 := hc.2.2
              rw [← HLN.out, mod_mod_pow v hnm] at h1
              exact heq h1))
            clear HC HM HN heq
            rcases b with _ | _
            · go_wp2_with fail
              go_round
              case rel => exact ⟨k + 1, false, by omega, by go_num, rfl, HM2, HN2⟩
              case measure => simp [intOf]; omega
            · go_wp2_with fail
              go_round
              case rel => exact ⟨k + 1, true, by omega, by go_num, rfl, HM2, HN2⟩
              case measure => simp [intOf]; omega
        · have hd1 : decide (n ≤ m) = false := by simp; omega
          have hd2 : decide (n > m) = true := by simp; omega
          have HN2 : Hid (Nf (nat zs) v m (k + 1)) := Lib.hid (HN.out.step (fun hc => by have := hc.1; rw [← HLN.out] at this; omega))
          rcases b with _ | _
          · by_cases heq : wd (nat zs) k % 2 ^ m = v % 2 ^ m
            · have e1 : ((c.extract 0 m).toList == t.toList) = true := str_yes (by
                rw [HT.out, HC.out, txt_take, lows_take m n _ (by omega), (lows_eq_iff m _ v).2 heq])
              have HM2 : Hid (true = true ↔ Mo (nat zs) v m (k + 1)) := Lib.hid ⟨fun _ => ⟨k, by omega, by rw [← HLN.out]; omega, heq⟩, fun _ => rfl⟩
              clear HC HM HN heq
              go_wp2_with fail
              go_round
              case rel => exact ⟨k + 1, true, by omega, by go_num, rfl, HM2, HN2⟩
              case measure => simp [intOf]; omega
            · have e1 : ((c.extract 0 m).toList == t.toList) = false := str_no (by
                rw [HT.out, HC.out, txt_take, lows_take m n _ (by omega)]
                intro h
                exact heq ((lows_eq_iff m _ v).1 (txt_inj h)))
              have HM2 : Hid (false = true ↔ Mo (nat zs) v m (k + 1)) := Lib.hid (by rw [Mo.step (fun hc => heq hc.2)]; exact HM.out)
              clear HC HM HN heq
              go_wp2_with fail
              go_round
              case rel => exact ⟨k + 1, false, by omega, by go_num, rfl, HM2, HN2⟩
              case measure => simp [intOf]; omega
          · have HM2 : Hid (true = true ↔ Mo (nat zs) v m (k + 1)) := Lib.hid ⟨fun _ => (HM.out.1 rfl).more, fun _ => rfl⟩
            clear HC HM HN
            go_wp2_with fail
            go_round
            case rel => exact ⟨k + 1, true, by omega, by go_num, rfl, HM2, HN2⟩
            case measure => simp [intOf]; omega
    · obtain rfl : k = len := by omega
      rcases b with _ | _
      · have HE : Hid (ansV (who (nat zs) (v % 2 ^ m)) m = .tuple #[.int .i64 0, .int .i64 0, .int .i64 2]) := Lib.hid (ref_none (by rw [HLS.out]; exact HN.out) (by rw [HLS.out]; exact fun h => by have := HM.out.2 h; cases this))
        go_wp2_with fail
        go_ret3
        exact ⟨by rw [HE.out]; rfl, rfl⟩
      · have HE : Hid (ansV (who (nat zs) (v % 2 ^ m)) m = .tuple #[.int .i64 0, .int .i64 0, .int .i64 5]) := Lib.hid (ref_more HG.out.all HK.out (by rw [HLS.out]; exact HN.out) (by rw [HLS.out]; exact HM.out.1 rfl))
        go_wp2_with fail
        go_ret3
        exact ⟨by rw [HE.out]; rfl, rfl⟩
end
end Go.Proofs.YtjejlhpnhkacmaaGreatDoor.TabC
end

section
/-
  The document's own answer for bits (stevedoreref5): Number alone (R5's).
-/
namespace Go.Proofs.YtjejlhpnhkacmaaGreatDoor.RefC
open Go.RowKit Go.My BitMath

theorem num_drop (L : List Bool) (p : Nat) (h : p < L.length) : num (L.drop p) = (L[p]).toNat + 2 * num (L.drop (p + 1)) := by
  rw [List.drop_eq_getElem_cons h]; rfl
theorem u32_shl (x b : Nat) (hx : x < 2147483648) (hb : b ≤ 1) : bits .or .u32 ((x : Int) * 2) ((((48 + b : Nat) : Int) - 48) % 256) = ((b + 2 * x : Nat) : Int) := by
  have hb2 : b < 2 ^ 1 := by omega
  rw [show (x : Int) * 2 = ((x * 2 : Nat) : Int) from by omega, show (((48 + b : Nat) : Int) - 48) % 256 = (b : Int) from by omega, u32_or_nat _ _ (by omega) (by omega), Nat.or_comm, show x * 2 = x * 2 ^ 1 from rfl, or_join 1 b x hb2]

set_option maxHeartbeats 2000000 in
theorem refnumber_any (L : List Bool) (w : World) (hl : L.length ≤ 32) :
    Calls Tryz.prog 33 #[.string (txt L)] w fun e w' => e = .returned (.int .u32 ((num L : Nat) : Int)) ∧ w = w' := by
  have htl := txt_len L
  obtain ⟨s, hs⟩ : ∃ s, s = txt L := ⟨_, rfl⟩
  have hg : ∀ k (h : k < L.length) (h2 : k < s.size), s[k] = chB L[k] := by
    subst hs; intro k h h2; exact txt_get L k h2
  rw [← hs] at htl ⊢
  have HG := Lib.hid hg
  have HTL := Lib.hid htl
  have hsz : s.size ≤ 32 := by omega
  clear hg hs htl
  go_enter Tryz.func33, Tryz.ntmps33
  go_wp2_with fail
  go_loop [3, 4] (fun x i => ∃ (p : Nat), p ≤ s.size ∧ i = .int .i64 ((p : Int) - 1) ∧ x = .int .u32 ((num (L.drop p) : Nat) : Int)) (fun _ i => (intOf i + 1).toNat)
  case atStart => exact ⟨s.size, Nat.le_refl _, rfl, by rw [List.drop_of_length_le (by rw [HTL.out]; omega)]; rfl⟩
  case round =>
    obtain ⟨p, hp, rfl, rfl⟩ := hrel
    by_cases hlt : 0 < p
    · obtain ⟨q, rfl⟩ : ∃ q, p = q + 1 := ⟨p - 1, by omega⟩
      have hqL : q < L.length := by have := HTL.out; omega
      have hqs : q < s.size := by omega
      have hs1 := HG.out q hqL hqs
      have HD := Lib.hid (num_drop L q hqL)
      obtain ⟨b, hb⟩ : ∃ b, b = L[q] := ⟨_, rfl⟩
      rw [← hb] at hs1 HD
      have hb1 : b.toNat ≤ 1 := Bool.toNat_le b
      have hcb := chB_nat b
      have hx : num (L.drop (q + 1)) < 2147483648 := Nat.lt_of_lt_of_le (num_lt _) (by rw [show 2147483648 = 2 ^ 31 from rfl]; exact Nat.pow_le_pow_right (by omega) (by simp; omega))
      have hor := u32_shl _ b.toNat hx hb1
      rw [← hcb] at hor
      have HOR := Lib.hid hor
      generalize num (L.drop (q + 1)) = x at *
      clear hb hb1 hcb hor
      have hcv : ((chB b).toNat : Int) < 256 := by have := (chB b).toNat_lt; omega
      go_wp2_with fail
      go_round
      case rel => exact ⟨q, by omega, rfl, by rw [HOR.out, HD.out]⟩
      case measure => simp [intOf]
    · obtain rfl : p = 0 := by omega
      go_wp2_with fail
      go_ret
      exact ⟨rfl, rfl⟩
end Go.Proofs.YtjejlhpnhkacmaaGreatDoor.RefC
end

section
/-
  The document's Base, Far.
-/
namespace Go.Proofs.YtjejlhpnhkacmaaGreatDoor.InfC
open Go.RowKit Go.My BitMath CanMath TabMath WinMath FeedC TabC CanC
open InfMath (M Ok Steps Ends CodeOk mu lack fixL fixD)

theorem rbase_no (z : Int) (wide : Bool) (w : World) (h : z < 257 ∨ 285 < z) :
    Calls Tryz.prog 38 #[.int .i64 z, .bool wide] w fun e w' => e = .returned (.tuple #[.int .i64 0, .int .i64 0, .bool false]) ∧ w = w' := by
  by_cases h1 : z < 257
  · go_enter Tryz.func38, Tryz.ntmps38
    go_wp2_with fail
    go_ret3
    exact ⟨rfl, rfl⟩
  · have h2 : decide (z > 285) = true := by simp; omega
    go_enter Tryz.func38, Tryz.ntmps38
    go_wp2_with fail
    go_ret3
    exact ⟨rfl, rfl⟩
theorem rbase_low (v : Nat) (wide : Bool) (w : World) (h1 : 257 ≤ v) (h2 : v < 265) :
    Calls Tryz.prog 38 #[.int .i64 (v : Int), .bool wide] w fun e w' => e = .returned (.tuple #[.int .i64 ((v - 254 : Nat) : Int), .int .i64 0, .bool true]) ∧ w = w' := by
  rcases (by omega : v = 257 ∨ v = 258 ∨ v = 259 ∨ v = 260 ∨ v = 261 ∨ v = 262 ∨ v = 263 ∨ v = 264) with rfl | rfl | rfl | rfl | rfl | rfl | rfl | rfl
  all_goals
    clear h1 h2
    go_enter Tryz.func38, Tryz.ntmps38
    go_wp2_with fail
    go_ret3
    exact ⟨rfl, rfl⟩
theorem rbase_mid (v : Nat) (wide : Bool) (w : World) (h1 : 265 ≤ v) (h2 : v < 285) :
    Calls Tryz.prog 38 #[.int .i64 (v : Int), .bool wide] w fun e w' => e = .returned (.tuple #[.int .i64 ((3 + (4 + (v - 265) % 4) * 2 ^ ((v - 265) / 4 + 1) : Nat) : Int), .int .i64 (((v - 265) / 4 + 1 : Nat) : Int), .bool true]) ∧ w = w' := by
  rcases (by omega : v = 265 ∨ v = 266 ∨ v = 267 ∨ v = 268 ∨ v = 269 ∨ v = 270 ∨ v = 271 ∨ v = 272 ∨ v = 273 ∨ v = 274 ∨ v = 275 ∨ v = 276 ∨ v = 277 ∨ v = 278 ∨ v = 279 ∨ v = 280 ∨ v = 281 ∨ v = 282 ∨ v = 283 ∨ v = 284) with rfl | rfl | rfl | rfl | rfl | rfl | rfl | rfl | rfl | rfl | rfl | rfl | rfl | rfl | rfl | rfl | rfl | rfl | rfl | rfl
  all_goals
    clear h1 h2
    go_enter Tryz.func38, Tryz.ntmps38
    go_wp2_with fail
    go_ret3
    exact ⟨rfl, rfl⟩
theorem rbase_top (wide : Bool) (w : World) :
    Calls Tryz.prog 38 #[.int .i64 285, .bool wide] w fun e w' => e = .returned (ansB (InfMath.base 285 wide)) ∧ w = w' := by
  cases wide
  all_goals
    go_enter Tryz.func38, Tryz.ntmps38
    go_wp2_with fail
    go_ret3
    exact ⟨rfl, rfl⟩
theorem rbase_any (z : Int) (wide : Bool) (w : World) :
    Calls Tryz.prog 38 #[.int .i64 z, .bool wide] w fun e w' => e = .returned (ansB (baseZ z wide)) ∧ w = w' := by
  by_cases h : z < 257 ∨ 285 < z
  · have e : baseZ z wide = none := by
      unfold baseZ InfMath.base
      by_cases h0 : z < 0
      · rw [if_pos h0]
      · rw [if_neg h0, if_pos (by omega)]
    rw [e]
    exact rbase_no z wide w h
  · obtain ⟨v, rfl⟩ : ∃ v : Nat, z = (v : Int) := ⟨z.toNat, by omega⟩
    rw [baseZ_nat]
    by_cases h1 : v < 265
    · have e : InfMath.base v wide = some (v - 254, 0) := by unfold InfMath.base; rw [if_neg (by omega), if_pos h1]
      rw [e]
      exact rbase_low v wide w (by omega) h1
    · by_cases h2 : v < 285
      · have e : InfMath.base v wide = some (3 + (4 + (v - 265) % 4) * 2 ^ ((v - 265) / 4 + 1), (v - 265) / 4 + 1) := by unfold InfMath.base; rw [if_neg (by omega), if_neg h1, if_pos h2]
        rw [e]
        exact rbase_mid v wide w (by omega) h2
      · obtain rfl : v = 285 := by omega
        exact rbase_top wide w

theorem rfar_neg (z : Int) (wide : Bool) (w : World) (h : z < 0) :
    Calls Tryz.prog 39 #[.int .i64 z, .bool wide] w fun e w' => e = .returned (.tuple #[.int .i64 0, .int .i64 0, .bool false]) ∧ w = w' := by
  go_enter Tryz.func39, Tryz.ntmps39
  go_wp2_with fail
  go_ret3
  exact ⟨rfl, rfl⟩
theorem rfar_no (v : Nat) (wide : Bool) (w : World) (h : InfMath.lastD wide < v) :
    Calls Tryz.prog 39 #[.int .i64 (v : Int), .bool wide] w fun e w' => e = .returned (.tuple #[.int .i64 0, .int .i64 0, .bool false]) ∧ w = w' := by
  by_cases h1 : 31 < v
  · have h0 : decide ((v : Int) < 0) = false := by simp
    have h2 : decide ((v : Int) > 31) = true := by simp; omega
    clear h
    go_enter Tryz.func39, Tryz.ntmps39
    go_wp2_with fail
    go_ret3
    exact ⟨rfl, rfl⟩
  · cases wide with
    | true => unfold InfMath.lastD at h; simp at h; omega
    | false =>
      have : v = 30 ∨ v = 31 := by unfold InfMath.lastD at h; simp at h; omega
      clear h h1
      rcases this with rfl | rfl
      all_goals
        go_enter Tryz.func39, Tryz.ntmps39
        go_wp2_with fail
        go_ret3
        exact ⟨rfl, rfl⟩
theorem rfar_low (v : Nat) (wide : Bool) (w : World) (h : v < 4) :
    Calls Tryz.prog 39 #[.int .i64 (v : Int), .bool wide] w fun e w' => e = .returned (.tuple #[.int .i64 ((1 + v : Nat) : Int), .int .i64 0, .bool true]) ∧ w = w' := by
  rcases (by omega : v = 0 ∨ v = 1 ∨ v = 2 ∨ v = 3) with rfl | rfl | rfl | rfl
  all_goals
    go_enter Tryz.func39, Tryz.ntmps39
    go_wp2_with fail
    go_ret3
    exact ⟨rfl, rfl⟩
theorem rfar_mid (v : Nat) (wide : Bool) (w : World) (h1 : 4 ≤ v) (h : v ≤ InfMath.lastD wide) :
    Calls Tryz.prog 39 #[.int .i64 (v : Int), .bool wide] w fun e w' => e = .returned (.tuple #[.int .i64 ((1 + (2 + v % 2) * 2 ^ (v / 2 - 1) : Nat) : Int), .int .i64 ((v / 2 - 1 : Nat) : Int), .bool true]) ∧ w = w' := by
  have hle := lastD_le wide
  have hw : 30 ≤ v → wide = true := by cases wide; (intro h2; unfold InfMath.lastD at h; simp at h; omega); (intro _; rfl)
  rcases (by omega : v = 4 ∨ v = 5 ∨ v = 6 ∨ v = 7 ∨ v = 8 ∨ v = 9 ∨ v = 10 ∨ v = 11 ∨ v = 12 ∨ v = 13 ∨ v = 14 ∨ v = 15 ∨ v = 16 ∨ v = 17 ∨ v = 18 ∨ v = 19 ∨ v = 20 ∨ v = 21 ∨ v = 22 ∨ v = 23 ∨ v = 24 ∨ v = 25 ∨ v = 26 ∨ v = 27 ∨ v = 28 ∨ v = 29 ∨ v = 30 ∨ v = 31) with
    rfl | rfl | rfl | rfl | rfl | rfl | rfl | rfl | rfl | rfl | rfl | rfl | rfl | rfl | rfl | rfl | rfl | rfl | rfl | rfl | rfl | rfl | rfl | rfl | rfl | rfl | rfl | rfl
  all_goals
    go_enter Tryz.func39, Tryz.ntmps39
    go_wp2_with fail
    go_ret3
    exact ⟨rfl, rfl⟩
theorem rfar_any (z : Int) (wide : Bool) (w : World) :
    Calls Tryz.prog 39 #[.int .i64 z, .bool wide] w fun e w' => e = .returned (ansB (farZ z wide)) ∧ w = w' := by
  by_cases h : z < 0
  · have e : farZ z wide = none := by unfold farZ; rw [if_pos h]
    rw [e]
    exact rfar_neg z wide w h
  · obtain ⟨v, rfl⟩ : ∃ v : Nat, z = (v : Int) := ⟨z.toNat, by omega⟩
    rw [farZ_nat]
    by_cases h1 : InfMath.lastD wide < v
    · have e : InfMath.far v wide = none := by unfold InfMath.far; rw [if_pos h1]
      rw [e]
      exact rfar_no v wide w h1
    · by_cases h2 : v < 4
      · have e : InfMath.far v wide = some (1 + v, 0) := by unfold InfMath.far; rw [if_neg h1, if_pos h2]
        rw [e]
        exact rfar_low v wide w h2
      · have e : InfMath.far v wide = some (1 + (2 + v % 2) * 2 ^ (v / 2 - 1), v / 2 - 1) := by unfold InfMath.far; rw [if_neg h1, if_neg h2]
        rw [e]
        exact rfar_mid v wide w (by omega) (by omega)
end Go.Proofs.YtjejlhpnhkacmaaGreatDoor.InfC
end

section
/-
  inflate's machine, token by token, over the bits of bytes that are all there. No program, no dump.
-/
namespace InfMath
open BitMath CanMath TabMath WinMath

/-- The machine stands at bit p of l, these bytes came out. -/
structure Bd (l : List UInt8) (p : Nat) (out : List UInt8) (wide : Bool) (S most : Nat) (s : M) : Prop where
  eb : s.bits = (bitsOf l).drop p
  eh : s.hist = out
  eo : s.out = out
  et : s.total = out.length
  ew : s.wide = wide
  es : s.size = S
  em : s.most = most
  ep : s.pushed = l.length
/-- It comes to an end that is an error. -/
def Bad (s : M) : Prop := ∃ t c, Ends s t c ∧ c ≠ 0
theorem Bad.now {s : M} {c : Nat} (h : step s = .halt c) (hc : c ≠ 0) : Bad s := ⟨s, c, ⟨.refl s, h⟩, hc⟩
theorem Bad.of {s t : M} (h : Steps s t) (k : Bad t) : Bad s := by
  obtain ⟨u, c, hu, hc⟩ := k
  exact ⟨u, c, .of h hu, hc⟩
structure St9 (l : List UInt8) (p : Nat) (out : List UInt8) (wide : Bool) (S most : Nat) (ls ds : List Nat) (fin : Bool) (s : M) : Prop where
  bd : Bd l p out wide S most s
  next : s.next = 9
  lit : s.lit = some ls
  dist : s.dist = some ds
  final : s.final = fin
structure St10 (l : List UInt8) (p : Nat) (out : List UInt8) (wide : Bool) (S most : Nat) (ls ds : List Nat) (fin : Bool) (m : Nat) (s : M) : Prop where
  bd : Bd l p out wide S most s
  next : s.next = 10
  lit : s.lit = some ls
  dist : s.dist = some ds
  final : s.final = fin
  mat : s.matching = m
/-- Behind a block. -/
structure St1 (l : List UInt8) (p : Nat) (out : List UInt8) (wide : Bool) (S most : Nat) (fin : Bool) (s : M) : Prop where
  bd : Bd l p out wide S most s
  next : s.next = if fin then 11 else 1
  final : s.final = fin

section
variable {l : List UInt8} {p : Nat} {out : List UInt8} {wide : Bool} {S most : Nat} {ls ds : List Nat} {fin : Bool} {s : M} {m : Nat}
theorem St9.step_ (h : St9 l p out wide S most ls ds fin s) : step s = readLiteral s := by unfold step; rw [h.next]; rfl
theorem St10.step_ (h : St10 l p out wide S most ls ds fin m s) : step s = readDistance s := by unfold step; rw [h.next]; rfl
theorem tk_err (h : St9 l p out wide S most ls ds fin s) (he : (sym ls ((bitsOf l).drop p)).2.2 ≠ 0) : Bad s := by
  refine .now (c := bad s (sym ls ((bitsOf l).drop p)).2.2) ?_ (bad_ne _ _ he)
  rw [h.step_]
  unfold readLiteral
  rw [h.lit, h.bd.eb]
  simp only [Option.getD_some]
  rw [if_pos he]
theorem tk_lit_ (h : St9 l p out wide S most ls ds fin s) (he : (sym ls ((bitsOf l).drop p)).2.2 = 0) : step s = readLit s (sym ls ((bitsOf l).drop p)).1 (sym ls ((bitsOf l).drop p)).2.1 := by
  rw [h.step_]
  unfold readLiteral
  rw [h.lit, h.bd.eb]
  simp only [Option.getD_some]
  rw [if_neg (by rw [he]; decide)]
variable {v n : Nat}
theorem tk_full (h : St9 l p out wide S most ls ds fin s) (he : sym ls ((bitsOf l).drop p) = (v, n, 0)) (hv : v < 256) (hm : most ≤ out.length) : Bad s := by
  have h1 := tk_lit_ h (by rw [he])
  rw [he] at h1
  refine .now (c := 3) ?_ (by decide)
  rw [h1]
  simp only
  unfold readLit
  rw [if_pos hv, if_pos (by rw [h.bd.em, h.bd.et]; exact hm)]
theorem tk_lit (h : St9 l p out wide S most ls ds fin s) (he : sym ls ((bitsOf l).drop p) = (v, n, 0)) (hv : v < 256) (hm : ¬ most ≤ out.length) : ∃ s', Steps s s' ∧ St9 l (p + n) (out ++ [UInt8.ofNat v]) wide S most ls ds fin s' := by
  have h1 := tk_lit_ h (by rw [he])
  rw [he] at h1
  simp only at h1
  unfold readLit at h1
  rw [if_pos hv, if_neg (by rw [h.bd.em, h.bd.et]; exact hm)] at h1
  refine ⟨_, .one h1, ⟨?_, h.next, h.lit, h.dist, h.final⟩⟩
  obtain ⟨b1, b2, b3, b4, b5, b6, b7, b8⟩ := h.bd
  exact ⟨by show s.bits.drop n = _; rw [b1, List.drop_drop], by show s.hist ++ _ = _; rw [b2], by show s.out ++ _ = _; rw [b3], by show s.total + 1 = _; rw [b4]; simp, (by first | exact b5 | rfl), b6, b7, b8⟩
theorem tk_end (h : St9 l p out wide S most ls ds fin s) (he : sym ls ((bitsOf l).drop p) = (256, n, 0)) : ∃ s', Steps s s' ∧ St1 l (p + n) out wide S most fin s' := by
  have h1 := tk_lit_ h (by rw [he])
  rw [he] at h1
  simp only at h1
  unfold readLit at h1
  rw [if_neg (by omega), if_pos rfl] at h1
  refine ⟨_, .one h1, ⟨?_, by simp only [close, h.final], h.final⟩⟩
  obtain ⟨b1, b2, b3, b4, b5, b6, b7, b8⟩ := h.bd
  exact ⟨by simp only [close]; rw [b1, List.drop_drop], b2, b3, b4, (by first | exact b5 | rfl), b6, b7, b8⟩
theorem tk_nobase (h : St9 l p out wide S most ls ds fin s) (he : sym ls ((bitsOf l).drop p) = (v, n, 0)) (hv : 256 < v) (hb : base v wide = none) : Bad s := by
  have h1 := tk_lit_ h (by rw [he])
  rw [he] at h1
  simp only at h1
  unfold readLit at h1
  rw [if_neg (by omega), if_neg (by omega), h.bd.ew, hb] at h1
  exact .now h1 (by decide)
variable {b x : Nat}
theorem tk_short (h : St9 l p out wide S most ls ds fin s) (he : sym ls ((bitsOf l).drop p) = (v, n, 0)) (hv : 256 < v) (hb : base v wide = some (b, x)) (hl : 8 * l.length - p < n + x) : Bad s := by
  have h1 := tk_lit_ h (by rw [he])
  rw [he] at h1
  simp only at h1
  unfold readLit at h1
  rw [if_neg (by omega), if_neg (by omega), h.bd.ew, hb] at h1
  simp only at h1
  rw [if_pos (by rw [h.bd.eb, List.length_drop, bitsOf_len]; exact hl)] at h1
  exact .now h1 (lack_ne _)
theorem tk_match (h : St9 l p out wide S most ls ds fin s) (he : sym ls ((bitsOf l).drop p) = (v, n, 0)) (hv : 256 < v) (hb : base v wide = some (b, x)) (hl : ¬ 8 * l.length - p < n + x) : ∃ s', Steps s s' ∧ St10 l (p + n + x) out wide S most ls ds fin (b + num (((bitsOf l).drop (p + n)).take x)) s' := by
  have h1 := tk_lit_ h (by rw [he])
  rw [he] at h1
  simp only at h1
  unfold readLit at h1
  rw [if_neg (by omega), if_neg (by omega), h.bd.ew, hb] at h1
  simp only at h1
  rw [if_neg (by rw [h.bd.eb, List.length_drop, bitsOf_len]; exact hl)] at h1
  refine ⟨_, .one h1, ⟨?_, rfl, h.lit, h.dist, h.final, ?_⟩⟩
  · obtain ⟨b1, b2, b3, b4, b5, b6, b7, b8⟩ := h.bd
    exact ⟨by simp only; rw [b1, List.drop_drop, Nat.add_assoc], b2, b3, b4, (by first | exact b5 | rfl), b6, b7, b8⟩
  · simp only; rw [h.bd.eb, List.drop_drop]
theorem td_ (h : St10 l p out wide S most ls ds fin m s) : step s = if most < out.length + m then .halt 3 else if (sym ds ((bitsOf l).drop p)).2.2 ≠ 0 then .halt (bad s (sym ds ((bitsOf l).drop p)).2.2) else readDist s (sym ds ((bitsOf l).drop p)).1 (sym ds ((bitsOf l).drop p)).2.1 := by
  rw [h.step_]
  unfold readDistance
  rw [h.bd.em, h.bd.et, h.mat, h.dist, h.bd.eb]
  simp only [Option.getD_some]
theorem td_over (h : St10 l p out wide S most ls ds fin m s) (hm : most < out.length + m) : Bad s := by
  have h1 := td_ h
  rw [if_pos hm] at h1
  exact .now h1 (by decide)
theorem td_err (h : St10 l p out wide S most ls ds fin m s) (he : (sym ds ((bitsOf l).drop p)).2.2 ≠ 0) : Bad s := by
  by_cases hm : most < out.length + m
  · exact td_over h hm
  · have h1 := td_ h
    rw [if_neg hm, if_pos he] at h1
    exact .now h1 (bad_ne _ _ he)
theorem td_dist (h : St10 l p out wide S most ls ds fin m s) (he : sym ds ((bitsOf l).drop p) = (v, n, 0)) (hm : ¬ most < out.length + m) : step s = readDist s v n := by
  have h1 := td_ h
  rw [if_neg hm, he] at h1
  simpa using h1
theorem td_nofar (h : St10 l p out wide S most ls ds fin m s) (he : sym ds ((bitsOf l).drop p) = (v, n, 0)) (hb : far v wide = none) : Bad s := by
  by_cases hm : most < out.length + m
  · exact td_over h hm
  · have h1 := td_dist h he hm
    unfold readDist at h1
    rw [h.bd.ew, hb] at h1
    exact .now h1 (by decide)
theorem td_short (h : St10 l p out wide S most ls ds fin m s) (he : sym ds ((bitsOf l).drop p) = (v, n, 0)) (hb : far v wide = some (b, x)) (hl : 8 * l.length - p < n + x) : Bad s := by
  by_cases hm : most < out.length + m
  · exact td_over h hm
  · have h1 := td_dist h he hm
    unfold readDist at h1
    rw [h.bd.ew, hb] at h1
    simp only at h1
    rw [if_pos (by rw [h.bd.eb, List.length_drop, bitsOf_len]; exact hl)] at h1
    exact .now h1 (lack_ne _)
theorem td_copied (h : St10 l p out wide S most ls ds fin m s) (he : sym ds ((bitsOf l).drop p) = (v, n, 0)) (hb : far v wide = some (b, x)) (hl : ¬ 8 * l.length - p < n + x) (hm : ¬ most < out.length + m) : step s = copied s (b + num (((bitsOf l).drop (p + n)).take x)) (n + x) := by
  have h1 := td_dist h he hm
  unfold readDist at h1
  rw [h.bd.ew, hb] at h1
  simp only at h1
  rw [if_neg (by rw [h.bd.eb, List.length_drop, bitsOf_len]; exact hl), h.bd.eb, List.drop_drop] at h1
  exact h1
theorem td_far (h : St10 l p out wide S most ls ds fin m s) (he : sym ds ((bitsOf l).drop p) = (v, n, 0)) (hb : far v wide = some (b, x)) (hl : ¬ 8 * l.length - p < n + x) (hd : min out.length S < b + num (((bitsOf l).drop (p + n)).take x)) : Bad s := by
  by_cases hm : most < out.length + m
  · exact td_over h hm
  · have h1 := td_copied h he hb hl hm
    unfold copied at h1
    rw [if_pos (by rw [h.bd.eh, h.bd.es]; exact hd)] at h1
    exact .now h1 (by decide)
theorem td_ok (h : St10 l p out wide S most ls ds fin m s) (he : sym ds ((bitsOf l).drop p) = (v, n, 0)) (hb : far v wide = some (b, x)) (hl : ¬ 8 * l.length - p < n + x) (hd : ¬ min out.length S < b + num (((bitsOf l).drop (p + n)).take x)) (hm : ¬ most < out.length + m) :
    ∃ s', Steps s s' ∧ St9 l (p + n + x) (grow out (b + num (((bitsOf l).drop (p + n)).take x)) m) wide S most ls ds fin s' := by
  have h1 := td_copied h he hb hl hm
  unfold copied at h1
  rw [if_neg (by rw [h.bd.eh, h.bd.es]; exact hd)] at h1
  refine ⟨_, .one h1, ⟨?_, rfl, h.lit, h.dist, h.final⟩⟩
  obtain ⟨b1, b2, b3, b4, b5, b6, b7, b8⟩ := h.bd
  exact ⟨by simp only; rw [b1, List.drop_drop, Nat.add_assoc], by simp only; rw [b2, h.mat], by simp only; rw [b2, b3, h.mat, ← grow_copy], by simp only; rw [b4, h.mat, grow_len], (by first | exact b5 | rfl), b6, b7, b8⟩
end
end InfMath
end

section
/-
  inflate's machine, block by block (beginnings, stored blocks), over the bits of bytes that are all there. No program, no dump.
-/
namespace InfMath
open BitMath CanMath TabMath WinMath

/-- At a block's beginning, or behind its first bits: which step is next. -/
structure Stn (k : Nat) (l : List UInt8) (p : Nat) (out : List UInt8) (wide : Bool) (S most : Nat) (fin : Bool) (s : M) : Prop where
  bd : Bd l p out wide S most s
  next : s.next = k
  final : s.final = fin
structure St3 (l : List UInt8) (p : Nat) (out : List UInt8) (wide : Bool) (S most : Nat) (fin : Bool) (k : Nat) (s : M) : Prop where
  bd : Bd l p out wide S most s
  next : s.next = 3
  final : s.final = fin
  left : s.left = k
section
variable {l : List UInt8} {p : Nat} {out : List UInt8} {wide : Bool} {S most : Nat} {fin : Bool} {s : M} {k : Nat}
theorem Bd.len (h : Bd l p out wide S most s) : s.bits.length = 8 * l.length - p := by rw [h.eb, List.length_drop, bitsOf_len]
theorem Bd.at_ (h : Bd l p out wide S most s) (n : Nat) : s.bits.drop n = (bitsOf l).drop (p + n) := by rw [h.eb, List.drop_drop]
theorem take3 (bs : List Bool) (h : 3 ≤ bs.length) : num (bs.take 3) = num (bs.take 1) + 2 * num ((bs.drop 1).take 2) := by
  match bs, h with
  | a :: b :: c :: t, _ => simp [num]
theorem open_short (h : Stn 1 l p out wide S most fin s) (hl : 8 * l.length - p < 3) : Bad s := by
  refine .now (c := lack s) ?_ (lack_ne s)
  have : step s = opening s := by unfold step; rw [h.next]; rfl
  rw [this]
  unfold opening
  rw [if_pos (by rw [h.bd.len]; exact hl)]
theorem open_ (h : Stn 1 l p out wide S most fin s) (hl : ¬ 8 * l.length - p < 3) {a b : Nat} (ha : num (((bitsOf l).drop p).take 1) = a) (hb : num (((bitsOf l).drop (p + 1)).take 2) = b) :
    (b = 0 → ∃ s', Steps s s' ∧ Stn 2 l (p + 3) out wide S most (a == 1) s') ∧
    (b = 1 → ∃ s', Steps s s' ∧ St9 l (p + 3) out wide S most fixL fixD (a == 1) s') ∧
    (b = 2 → ∃ s', Steps s s' ∧ Stn 4 l (p + 3) out wide S most (a == 1) s') ∧
    (b = 3 → Bad s) := by
  have h0 : step s = opening s := by unfold step; rw [h.next]; rfl
  have ha1 : a < 2 := by
    rw [← ha]
    have hle : (((bitsOf l).drop p).take 1).length ≤ 1 := by rw [List.length_take]; omega
    exact Nat.lt_of_lt_of_le (num_lt _) (Nat.pow_le_pow_right (n := 2) (by omega) hle)
  have h3 : num (s.bits.take 3) = a + 2 * b := by
    rw [take3 _ (by rw [h.bd.len]; omega), h.bd.eb, List.drop_drop, ha, hb]
  have hd := h.bd.at_ 3
  have hq : (a + 2 * b) / 2 = b := by omega
  have hm : (a + 2 * b) % 2 = a := by omega
  unfold opening at h0
  rw [if_neg (by rw [h.bd.len]; exact hl), h3, hd, hq, hm] at h0
  have hbd : ∀ (t : M), t.bits = (bitsOf l).drop (p + 3) → t.hist = s.hist → t.out = s.out → t.total = s.total → t.wide = s.wide → t.size = s.size → t.most = s.most → t.pushed = s.pushed → Bd l (p + 3) out wide S most t := fun t e1 e2 e3 e4 e5 e6 e7 e8 =>
    ⟨e1, e2.trans h.bd.eh, e3.trans h.bd.eo, e4.trans h.bd.et, e5.trans h.bd.ew, e6.trans h.bd.es, e7.trans h.bd.em, e8.trans h.bd.ep⟩
  refine ⟨fun e => ?_, fun e => ?_, fun e => ?_, fun e => ?_⟩
  · subst e
    rw [if_pos rfl] at h0
    exact ⟨_, .one h0, hbd _ rfl rfl rfl rfl rfl rfl rfl rfl, rfl, rfl⟩
  · subst e
    rw [if_neg (by omega), if_pos rfl] at h0
    exact ⟨_, .one h0, hbd _ rfl rfl rfl rfl rfl rfl rfl rfl, rfl, rfl, rfl, rfl⟩
  · subst e
    rw [if_neg (by omega), if_neg (by omega), if_pos rfl] at h0
    exact ⟨_, .one h0, hbd _ rfl rfl rfl rfl rfl rfl rfl rfl, rfl, rfl⟩
  · subst e
    rw [if_neg (by omega), if_neg (by omega), if_neg (by omega)] at h0
    exact .now h0 (by decide)

/-- The rest of a byte is skipped. -/
theorem skip_ (h : Stn 2 l p out wide S most fin s) (hp : p ≤ 8 * l.length) : ∃ s', Steps s s' ∧ Stn 2 l ((p + 7) / 8 * 8) out wide S most fin s' := by
  have h0 : step s = readSize s := by unfold step; rw [h.next]; rfl
  by_cases he : (8 * l.length - p) % 8 = 0
  · refine ⟨s, .refl s, ?_⟩
    rw [show (p + 7) / 8 * 8 = p from by omega]
    exact h
  · unfold readSize at h0
    rw [h.bd.len, if_pos he, h.bd.at_] at h0
    rw [show (p + 7) / 8 * 8 = p + (8 * l.length - p) % 8 from by omega]
    exact ⟨_, .one h0, ⟨rfl, h.bd.eh, h.bd.eo, h.bd.et, h.bd.ew, h.bd.es, h.bd.em, h.bd.ep⟩, h.next, h.final⟩
theorem size_short (h : Stn 2 l p out wide S most fin s) (hp : (8 * l.length - p) % 8 = 0) (hl : 8 * l.length - p < 32) : Bad s := by
  have h0 : step s = readSize s := by unfold step; rw [h.next]; rfl
  refine .now (c := lack s) ?_ (lack_ne s)
  rw [h0]
  unfold readSize
  rw [h.bd.len, if_neg (by omega), if_pos hl]
theorem size_bad (h : Stn 2 l p out wide S most fin s) (hp : (8 * l.length - p) % 8 = 0) (hl : ¬ 8 * l.length - p < 32) (hn : num (((bitsOf l).drop (p + 16)).take 16) + num (((bitsOf l).drop p).take 16) ≠ 65535) : Bad s := by
  have h0 : step s = readSize s := by unfold step; rw [h.next]; rfl
  refine .now (c := 2) ?_ (by decide)
  rw [h0]
  unfold readSize
  rw [h.bd.len, if_neg (by omega), if_neg hl, if_pos (by rw [h.bd.at_, h.bd.eb]; exact hn)]
theorem size_ok (h : Stn 2 l p out wide S most fin s) (hp : (8 * l.length - p) % 8 = 0) (hl : ¬ 8 * l.length - p < 32) (hn : num (((bitsOf l).drop (p + 16)).take 16) + num (((bitsOf l).drop p).take 16) = 65535) :
    ∃ s', Steps s s' ∧ St3 l (p + 32) out wide S most fin (num (((bitsOf l).drop p).take 16)) s' := by
  have h0 : step s = readSize s := by unfold step; rw [h.next]; rfl
  unfold readSize at h0
  rw [h.bd.len, if_neg (by omega), if_neg hl, if_neg (by rw [h.bd.at_, h.bd.eb]; simpa using hn), h.bd.at_] at h0
  exact ⟨_, .one h0, ⟨rfl, h.bd.eh, h.bd.eo, h.bd.et, h.bd.ew, h.bd.es, h.bd.em, h.bd.ep⟩, rfl, h.final, by simp only; rw [h.bd.eb]⟩
theorem St3.step_ (h : St3 l p out wide S most fin k s) : step s = readBytes s := by unfold step; rw [h.next]; rfl
theorem bytes_end (h : St3 l p out wide S most fin 0 s) : ∃ s', Steps s s' ∧ St1 l p out wide S most fin s' := by
  have h0 := h.step_
  unfold readBytes at h0
  rw [if_pos h.left] at h0
  exact ⟨_, .one h0, ⟨h.bd.eb, h.bd.eh, h.bd.eo, h.bd.et, h.bd.ew, h.bd.es, h.bd.em, h.bd.ep⟩, by simp only [close, h.final], h.final⟩
theorem bytes_short (h : St3 l p out wide S most fin k s) (hk : k ≠ 0) (hl : 8 * l.length - p < 8) : Bad s := by
  refine .now (c := lack s) ?_ (lack_ne s)
  rw [h.step_]
  unfold readBytes
  rw [if_neg (by rw [h.left]; exact hk), if_pos (by rw [h.bd.len]; exact hl)]
theorem bytes_full (h : St3 l p out wide S most fin k s) (hk : k ≠ 0) (hm : most ≤ out.length) : Bad s := by
  by_cases hl : 8 * l.length - p < 8
  · exact bytes_short h hk hl
  · refine .now (c := 3) ?_ (by decide)
    rw [h.step_]
    unfold readBytes
    rw [if_neg (by rw [h.left]; exact hk), if_neg (by rw [h.bd.len]; exact hl), if_pos (by rw [h.bd.em, h.bd.et]; exact hm)]
theorem bytes_one (h : St3 l p out wide S most fin (k + 1) s) (hl : ¬ 8 * l.length - p < 8) (hm : ¬ most ≤ out.length) :
    ∃ s', Steps s s' ∧ St3 l (p + 8) (out ++ [UInt8.ofNat (num (((bitsOf l).drop p).take 8))]) wide S most fin k s' := by
  have h0 := h.step_
  unfold readBytes at h0
  rw [if_neg (by rw [h.left]; omega), if_neg (by rw [h.bd.len]; exact hl), if_neg (by rw [h.bd.em, h.bd.et]; exact hm), h.bd.at_, h.bd.eb] at h0
  refine ⟨_, .one h0, ⟨rfl, ?_, ?_, ?_, h.bd.ew, h.bd.es, h.bd.em, h.bd.ep⟩, h.next, h.final, by simp only; rw [h.left]; omega⟩
  · show s.hist ++ _ = _; rw [h.bd.eh]
  · show s.out ++ _ = _; rw [h.bd.eo]
  · show s.total + 1 = _; rw [h.bd.et]; simp
end
end InfMath
end

section
/-
  A drawn region over a frame that is a LETTER: each operation's frame has a name of its own, what its slots hold is carried by plain equations, so no step looks at the other slots. No dump.
-/
namespace Go.My
open Go.RowKit
theorem ev_eq {A B : Act} {d n : Nat} {v : Value} (h : B = A.put (some d) v) (hs : A.tmps.size = n) (hd : d < n) : B.eval (.tmp d) = v := by
  subst h; subst hs
  simp [Act.eval, Act.put, Array.getD, hd]
theorem ev_ne {A B : Act} {d t : Nat} {v x : Value} (h : B = A.put (some d) v) (hx : A.eval (.tmp t) = x) (hne : d ≠ t) : B.eval (.tmp t) = x := by
  subst h; subst hx
  simp [Act.eval, Act.put, Array.getD_eq_getD_getElem?, hne]
theorem sz_put {A B : Act} {d : Option Tmp} {n : Nat} {v : Value} (h : B = A.put d v) (hs : A.tmps.size = n) : B.tmps.size = n := by
  subst h; subst hs
  cases d <;> simp [Act.put]
/-- A slot written in a frame that is written out ('simp only [put_lit, List.set_cons_succ, List.set_cons_zero]': a second for a dozen slots of 157). -/
theorem put_lit (l : List Value) (ds : List Deferred) (d : Nat) (v : Value) : Act.put ⟨l.toArray, ds⟩ (some d) v = ⟨(l.set d v).toArray, ds⟩ := by simp [Act.put]
section
variable {P : Program} {ops : Array Oper} {Q : Exit → Act → World → Prop} {md : Region.Mode} {S : World → Prop}
theorem act_name {fuel : Nat} {listed : Array Bool} {a : Act} {w : World} (h : ∀ A, A = a → wpAnyH P md ops Q S fuel listed A w) : wpAnyH P md ops Q S fuel listed a w := h a rfl
theorem act_as {fuel : Nat} {listed : Array Bool} {a b : Act} {w : World} (h : a = b) (hp : wpAnyH P md ops Q S fuel listed b w) : wpAnyH P md ops Q S fuel listed a w := by subst h; exact hp
theorem ord_step {i : Nat} {o : Oper} {d : Option Tmp} (v : Value) {fuel : Nat} {listed : Array Bool} {a : Act} {w : World} (hi : ops[i]? = some o) (hd : o.dst = d)
    (hs : Region.noSelect ops = true) (hf : Region.free md ops listed i = true) (hr : (Region.ready md ops listed).contains i = true)
    (hQ : ∀ c a w, Q (.panic c) (a.put d v) w → Q (.panic c) a w) (hg : o.guard = none) (hS : S w) (hy : ∀ w, S w → (execOp a.eval o).run P w = .ok (.value v) w)
    (h : ∀ B, B = a.put d v → wpAnyH P md ops Q S fuel (listed.setIfInBounds i true) B w) : wpAnyH P md ops Q S (fuel + 1) listed a w :=
  ord_take v hi hd hs hf hr hQ (by simp [Region.wanted, hg]) hy hS (h _ rfl)
theorem ord_lone {i : Nat} {o : Oper} {fuel : Nat} {listed : Array Bool} {a : Act} {w : World} (hi : ops[i]? = some o) (hr : Region.ready md ops listed = [i]) (hg : o.guard = none)
    (h : o.wp P a w (fun a' w' => S w' ∧ wpAnyH P md ops Q S fuel (listed.setIfInBounds i true) a' w') Q) : wpAnyH P md ops Q S (fuel + 1) listed a w :=
  ord_alone hi hr (by simp [Region.wanted, hg]) h
theorem act_name_and {p : Prop} {fuel : Nat} {listed : Array Bool} {a : Act} {w : World} (hp : p) (h : ∀ A, A = a → wpAnyH P md ops Q S fuel listed A w) : p ∧ wpAnyH P md ops Q S fuel listed a w := ⟨hp, h a rfl⟩
end
/-- What a move, an assign yields. -/
theorem x_move {P : Program} {a : Act} {o : Oper} (s : Operand) {v : Value} {w : World} (ho : o.op = .move s) (hs : a.eval s = v) : (execOp a.eval o).run P w = .ok (.value v) w := by
  unfold execOp; rw [ho]; subst hs; rfl
theorem x_assign {P : Program} {a : Act} {o : Oper} (s : Operand) {v : Value} {w : World} (ho : o.op = .assign s) (hs : a.eval s = v) : (execOp a.eval o).run P w = .ok (.value v) w := by
  unfold execOp; rw [ho]; subst hs; rfl
end Go.My
end

section
/-
  A drawn region whose last operation turns what the others read (x.f = append(x.f, ..)): S is asked behind every operation but number L, which waits for the one that is taken first. No dump.
-/
namespace Go.My
open Go.RowKit
section
variable {P : Program} {ops : Array Oper} {Q : Exit → Act → World → Prop} {md : Region.Mode} {S : World → Prop} {L : Nat}
/-- Whatever order is picked: S holds behind every operation but number L. -/
def Till (P : Program) (md : Region.Mode) (ops : Array Oper) (Q : Exit → Act → World → Prop) (S : World → Prop) (L : Nat) : Nat → Array Bool → Act → World → Prop
  | 0, done, a, w => Region.ready md ops done = [] ∧ Q .normal a w
  | f + 1, done, a, w => (Region.ready md ops done = [] → Q .normal a w) ∧
      ∀ j ∈ Region.ready md ops done, wpOp P ops Q j (fun a' w' => (j ≠ L → S w') ∧ Till P md ops Q S L f (done.setIfInBounds j true) a' w') a w
theorem Till.any : ∀ (f : Nat) (done : Array Bool) (a : Act) (w : World), Till P md ops Q S L f done a w → wpAny P md ops Q f done a w
  | 0, _, _, _, h => h
  | f + 1, _, _, _, h => ⟨h.1, fun j hj => wpOp_mono (fun _ _ k => Till.any f _ _ _ k.2) (h.2 j hj)⟩
/-- Operation L waits for operation i. -/
def Awaits (md : Region.Mode) (ops : Array Oper) (L i : Nat) : Bool := match ops[L]? with
  | some o => o.after.any fun e => Region.binds md e && e.on == i
  | none => false
theorem not_yet {i j : Nat} {done : Array Bool} (hw : Awaits md ops L i = true) (hi : i ∈ Region.ready md ops done) (hj : j ∈ Region.ready md ops done) : j ≠ L := by
  rintro rfl
  obtain ⟨-, o, ho, hall⟩ := mem_ready.1 hj
  unfold Awaits at hw
  rw [ho] at hw
  simp only [Array.any_eq_true] at hw
  obtain ⟨k, hk, hb⟩ := hw
  obtain ⟨e, hee⟩ : ∃ e, e = o.after[k] := ⟨_, rfl⟩
  have he : e ∈ o.after := by rw [hee]; exact Array.getElem_mem hk
  rw [← hee] at hb
  simp only [Bool.and_eq_true, beq_iff_eq] at hb
  have h1 := hall e he hb.1
  have h0 := (mem_ready.1 hi).1
  rw [hb.2] at h1
  by_cases hs : i < done.size
  · simp [hs] at h0 h1
    rw [h0] at h1; cases h1
  · rw [Array.getD_eq_getD_getElem?, Array.getElem?_eq_none (by omega)] at h1
    cases h1
theorem Till.take {i : Nat} {o : Oper} {d : Option Tmp} (v : Value) (hi : ops[i]? = some o) (hd : o.dst = d) (hs : Region.noSelect ops = true) (hL : Awaits md ops L i = true)
    (hQ : ∀ c a w, Q (.panic c) (a.put d v) w → Q (.panic c) a w) : ∀ {f : Nat} {done : Array Bool} {a : Act} {w : World}, Region.free md ops done i = true → (Region.ready md ops done).contains i = true →
    YieldsIf P ops S o v a → S w → Till P md ops Q S L f (done.setIfInBounds i true) (a.put d v) w → Till P md ops Q S L (f + 1) done a w := by
  subst hd
  intro f done a w hf hr
  have hfree := Region.free_spec hi hf
  have hr' : i ∈ Region.ready md ops done := by simpa using hr
  clear hf hr
  induction f generalizing done a w with
  | zero =>
    intro hy hS h
    refine ⟨fun e => absurd hr' (by rw [e]; simp), fun j hj => ?_⟩
    have hji : j = i := Classical.byContradiction fun hne => by
      have := ready_mono hj hne
      rw [h.1] at this
      cases this
    subst hji
    exact hy.wpOp hi hS ⟨fun _ => hS, h⟩
  | succ f ih =>
    intro hy hS h
    refine ⟨fun e => absurd hr' (by rw [e]; simp), fun j hj => ?_⟩
    by_cases hji : j = i
    · subst hji; exact hy.wpOp hi hS ⟨fun _ => hS, h⟩
    · obtain ⟨hun, oj, hoj, hall⟩ := mem_ready.1 hj
      have hjL := not_yet hL hr' hj
      have hno : ∀ e ∈ oj.after, Region.binds md e = true → e.on ≠ i := fun e he hb heq => by
        have h1 := hall e he hb
        have h0 := (mem_ready.1 hr').1
        rw [heq] at h1
        by_cases hsz : i < done.size
        · simp [hsz] at h0 h1
          rw [h0] at h1; cases h1
        · rw [Array.getD_eq_getD_getElem?, Array.getElem?_eq_none (by omega)] at h1
          cases h1
      have hsel := fun cs b => Region.noSelect_spec hs i o cs b hi
      have hselj := fun cs b => Region.noSelect_spec hs j oj cs b hoj
      refine wpOp_mono (fun a' w' k => ⟨fun _ => k.2.1 hjL, ih (done := done.setIfInBounds j true) ?_ (ready_mono hr' (Ne.symm hji)) k.1 (k.2.1 hjL) ?_⟩) (wpOp_putIf hoj (hfree j oj hoj hji hun hno) hsel hselj hQ hy (h.2 j (ready_mono hj hji)))
      · intro m om hm hmi hmun
        refine hfree m om hm hmi ?_
        by_cases hjm : j = m
        · subst hjm; exact hun
        · rw [getD_set_ne true hjm] at hmun; exact hmun
      · have := k.2.2
        rw [Array.setIfInBounds_comm _ _ (Ne.symm hji)] at this
        exact this
/-- As ord_step, with S asked till L. -/
theorem till_step {i : Nat} {o : Oper} {d : Option Tmp} (v : Value) {f : Nat} {done : Array Bool} {a : Act} {w : World} (hi : ops[i]? = some o) (hd : o.dst = d)
    (hs : Region.noSelect ops = true) (hL : Awaits md ops L i = true) (hf : Region.free md ops done i = true) (hr : (Region.ready md ops done).contains i = true)
    (hQ : ∀ c a w, Q (.panic c) (a.put d v) w → Q (.panic c) a w) (hg : o.guard = none) (hS : S w) (hy : ∀ w, S w → (execOp a.eval o).run P w = .ok (.value v) w)
    (h : ∀ B, B = a.put d v → Till P md ops Q S L f (done.setIfInBounds i true) B w) : Till P md ops Q S L (f + 1) done a w :=
  Till.take v hi hd hs hL hQ hf hr (.inl ⟨by simp [Region.wanted, hg], hy⟩) hS (h _ rfl)
/-- The one operation that may come up. -/
theorem till_lone {i : Nat} {o : Oper} {f : Nat} {done : Array Bool} {a : Act} {w : World} (hi : ops[i]? = some o) (hr : Region.ready md ops done = [i]) (hg : o.guard = none)
    (h : o.wp P a w (fun a' w' => (i ≠ L → S w') ∧ Till P md ops Q S L f (done.setIfInBounds i true) a' w') Q) : Till P md ops Q S L (f + 1) done a w := by
  refine ⟨fun e => (by rw [hr] at e; cases e), fun j hj => ?_⟩
  rw [hr] at hj
  obtain rfl : j = i := by simpa using hj
  unfold wpOp
  simp only [hi, show Region.wanted o (yielded ops a.tmps) = true by simp [Region.wanted, hg], if_true]
  exact .inl h
theorem till_done {done : Array Bool} {a : Act} {w : World} (hr : Region.ready md ops done = []) (h : Q .normal a w) : ∀ f, Till P md ops Q S L f done a w
  | 0 => ⟨hr, h⟩
  | _ + 1 => ⟨fun _ => h, by rw [hr]; simp⟩
theorem till_name {p : Prop} {f : Nat} {done : Array Bool} {a : Act} {w : World} (hp : p) (h : ∀ A, A = a → Till P md ops Q S L f done A w) : p ∧ Till P md ops Q S L f done a w := ⟨hp, h a rfl⟩
theorem till_as {f : Nat} {done : Array Bool} {a b : Act} {w : World} (h : a = b) (hp : Till P md ops Q S L f done b w) : Till P md ops Q S L f done a w := by subst h; exact hp
theorem wp_region_till {id : Nat} {a : Act} {w : World} (hm : P.follows .mixedOrders = true) (h : ∀ A, A = a → Till P .any ops Q S L ops.size (Array.replicate ops.size false) A w.drew) : (Code.region id ops true).wp P Q a w :=
  wp_region_any hm (Till.any _ _ _ _ (h a rfl))
theorem till_skip {o : Oper} {a : Act} {w w' : World} {K : Act → World → Prop} (hd : o.dst = none) (hr : (execOp a.eval o).run P w = .ok .skip w') (h : K a w') : o.wp P a w K Q := by
  unfold Oper.wp
  rw [hr]
  show K (a.put o.dst undef) w'
  rw [hd]
  exact h
end
end Go.My
end

section
/-
  The document's own inflate (stevedoreref12): its X in memory; look.
-/
namespace Go.Proofs.YtjejlhpnhkacmaaGreatDoor.RfC
open Go.RowKit Go.My BitMath RefC

/-- The cells of an X. -/
def xc (a : Option Addr) (len cap p : Nat) (ov : Value) (wide : Bool) (S most code : Nat) : Array Value := #[.slice a len cap, .int .i64 (p : Int), ov, .bool wide, .int .i64 (S : Int), .int .i64 (most : Int), .int .i64 (code : Int)]
/-- The document's machine in memory, over bytes that came in. -/
structure XAt (w0 w : World) (g : Nat) (a : Option Addr) (len cap : Nat) (l : List UInt8) (p : Nat) (ov : Value) (out : List UInt8) (wide : Bool) (S most code : Nat) (R : List (Nat × TypeId × Array Value)) : Prop where
  blk : Blk w g 58 (xc a len cap p ov wide S most code)
  own : Own 5 w0.heap.size w ov out
  base : w0.heap.size ≤ g
  byt : Bytes w0 a len cap l
  below : Below w0.heap.size w0 w
  lt : p ≤ 8 * len
  short : len ≤ 100000000
  rows : ∀ x ∈ R, Blk w x.1 x.2.1 x.2.2 ∧ x.2.1 ≠ 58 ∧ x.2.1 ≠ 5
theorem u8_bit (c : UInt8) (m : Nat) : bits .and .u8 ((c.toNat : Int) / 2 ^ m) 1 = (((c.toNat / 2 ^ m % 2 == 1).toNat : Nat) : Int) := by
  rw [bit_nat]
  have e : (c.toNat : Int) / 2 ^ m = ((c.toNat / 2 ^ m : Nat) : Int) := by push_cast; rfl
  have hd := Nat.div_le_self c.toNat (2 ^ m)
  have := c.toNat_lt
  rw [e, show (1 : Int) = ((1 : Nat) : Int) from rfl, u8_and_nat _ _ (by omega) (by omega), Nat.and_one_is_mod]
section
variable {w0 w : World} {g : Nat} {a : Option Addr} {len cap : Nat} {l : List UInt8} {p : Nat} {ov : Value} {out : List UInt8} {wide : Bool} {S most code : Nat} {R : List (Nat × TypeId × Array Value)}
theorem look_step (l : List UInt8) (q i K : Nat) (hK : q + i = K) (h : K / 8 < l.length) : ((bitsOf l).drop q).take (i + 1) = ((bitsOf l).drop q).take i ++ [(l[K / 8]).toNat / 2 ^ (K % 8) % 2 == 1] := by
  subst hK
  have hl : i < ((bitsOf l).drop q).length := by rw [List.length_drop, bitsOf_len]; omega
  rw [List.take_succ_eq_append_getElem hl]
  congr 1
  have hg := bitsOf_get l (q + i) (by omega)
  rw [List.getElem_drop]
  rw [List.getElem?_eq_getElem (by rw [bitsOf_len]; omega)] at hg
  injection hg with hg
  rw [hg]
theorem look_all (l : List UInt8) (q i n : Nat) (h : 8 * l.length ≤ q + i) (hi : i ≤ n) : ((bitsOf l).drop q).take n = ((bitsOf l).drop q).take i := by
  rw [List.take_of_length_le (by rw [List.length_drop, bitsOf_len]; omega), List.take_of_length_le (by rw [List.length_drop, bitsOf_len]; omega)]

theorem below_drewN {B : Nat} {a W : World} (h : Below B a W) (q : Nat) : Below B a (W.drewN q) := ⟨h.os, h.tape, h.output, h.size, h.block⟩
theorem Bytes_drewN {W : World} {a : Option Addr} {n c : Nat} {l : List UInt8} (h : Bytes W a n c l) (q : Nat) : Bytes (W.drewN q) a n c l := ⟨h.1, h.2, h.3, h.4, h.5⟩
set_option maxRecDepth 100000 in
set_option maxHeartbeats 4000000 in
theorem look_any (f n : Nat) (h : Hid (XAt w0 w g a len cap l p ov out wide S most code R)) (hf : f ≤ 1000000) (hn : n ≤ 1000000) :
    Calls Tryz.prog 32 #[.pointer (some ⟨g, 0, none⟩), .int .i64 (f : Int), .int .i64 (n : Int)] w fun e w' => e = .returned (.string (txt (((bitsOf l).drop (p + f)).take n))) ∧ Below w.heap.size w w' := by
  have hp := h.out.lt
  have hs := h.out.short
  have HLE := Lib.hid h.out.byt.len_eq
  have hgw := h.out.blk.lt
  have HX : Hid (w.cell? ⟨g, 0, none⟩ = some (.slice a len cap) ∧ w.cell? ⟨g, 1, none⟩ = some (.int .i64 (p : Int))) := Lib.hid ⟨h.out.blk.cell 0, h.out.blk.cell 1⟩
  obtain ⟨A, hA⟩ : ∃ A, A = p + f := ⟨_, rfl⟩
  rw [← hA]
  have hAI : (p : Int) + (f : Int) = (A : Int) := by omega
  have hA2 : A ≤ 801000000 := by omega
  have HA := Lib.hid hA
  clear hA
  go_enter Tryz.func32, Tryz.ntmps32
  go_wp2_with fail
  go_loopw [7, 8] (fun sv iv wr => ∃ i : Nat, i ≤ n ∧ iv = .int .i64 (i : Int) ∧ Hid (Own 5 w.heap.size wr sv ((((bitsOf l).drop A).take i).map chB)) ∧ Hid (Below w.heap.size w wr)) (fun _ iv _ => n - (intOf iv).toNat)
  case atStart => exact ⟨0, Nat.zero_le _, rfl, Lib.hid (by simpa using Own.nil _ _ _), Lib.hid (Below.refl _ _)⟩
  case round =>
    obtain ⟨i, hi, rfl, HO, HB⟩ := hrel
    have x0 : wr.cell? ⟨g, 0, none⟩ = some (.slice a len cap) := (HB.out.cell (p := ⟨g, 0, none⟩) hgw).trans HX.out.1
    have x1 : wr.cell? ⟨g, 1, none⟩ = some (.int .i64 (p : Int)) := (HB.out.cell (p := ⟨g, 1, none⟩) hgw).trans HX.out.2
    obtain ⟨K, hK⟩ : ∃ K, K = A + i := ⟨_, rfl⟩
    have hKI : (A : Int) + (i : Int) = (K : Int) := by omega
    have hK2 : K ≤ 802000000 := by omega
    obtain ⟨E, hE⟩ : ∃ E, E = 8 * len := ⟨_, rfl⟩
    have hEI : (8 : Int) * (len : Int) = (E : Int) := by omega
    have hw1 : IntKind.i64.wrap ((p : Int) + (f : Int)) = (A : Int) := by rw [hAI]; exact IntWalk.i64_in _ (by omega)
    have hw2 : IntKind.i64.wrap ((A : Int) + (i : Int)) = (K : Int) := by rw [hKI]; exact IntWalk.i64_in _ (by omega)
    have hw3 : IntKind.i64.wrap ((8 : Int) * (len : Int)) = (E : Int) := by rw [hEI]; exact IntWalk.i64_in _ (by omega)
    have HK := Lib.hid (And.intro hK hE)
    by_cases hin : i < n
    · by_cases hlt : K < E
      · have hinI : decide ((i : Int) < (n : Int)) = true := by simp; omega
        have hltI : decide ((K : Int) < (E : Int)) = true := by simp; omega
        have h8 : K / 8 < len := by omega
        clear hK hE
        obtain ⟨b, off, rfl⟩ := h.out.byt.some_ (by omega)
        have hc0 : wr.cell? ⟨b, off + K / 8, none⟩ = some (.int .u8 ((l[K / 8]'(by rw [HLE.out]; exact h8)).toNat : Int)) := by
          rcases h.out.byt.at_ with h0 | ⟨b', off', ha, hs, hc⟩
          · omega
          · cases ha
            rw [HB.out.cell (p := ⟨b, off + K / 8, none⟩) (Nat.lt_of_lt_of_le hs h.out.below.size), h.out.below.cell (p := ⟨b, off + K / 8, none⟩) hs]
            exact hc (K / 8) (by rw [HLE.out]; exact h8)
        have HST := Lib.hid (look_step l A i K (by have := HK.out.1; omega) (by rw [HLE.out]; exact h8))
        go_wp2_with fail
        go_quiet (fail)
        have HO1 : Hid (Own 5 w.heap.size (wr.drewN nq) _ _) := HO
        have HB1 : Hid (Below w.heap.size w (wr.drewN nq)) := Lib.hid (below_drewN HB.out nq)
        have y0 : (wr.drewN nq).cell? ⟨g, 0, none⟩ = some (.slice (some ⟨b, off, none⟩) len cap) := x0
        have y1 : (wr.drewN nq).cell? ⟨g, 1, none⟩ = some (.int .i64 (p : Int)) := x1
        have yc : (wr.drewN nq).cell? ⟨b, off + K / 8, none⟩ = some (.int .u8 ((l[K / 8]'(by rw [HLE.out]; exact h8)).toNat : Int)) := hc0
        clear HO HB x0 x1 hc0 hw1 hw2 hw3
        generalize wr.drewN nq = wd at *
        obtain ⟨q, hq⟩ : ∃ q, q = l[K / 8]'(by rw [HLE.out]; exact h8) := ⟨_, rfl⟩
        rw [← hq] at yc HST
        have hub := u8_bit q (K % 8)
        have hv : (q.toNat : Int) < 256 := by have := q.toNat_lt; omega
        have hq1 : (0 : Int) ≤ (K : Int) / 8 := by omega
        have hq2 : (K : Int) / 8 < (len : Int) := by omega
        clear hq
        obtain ⟨bt, hbt⟩ : ∃ bt : Bool, bt = (q.toNat / 2 ^ (K % 8) % 2 == 1) := ⟨_, rfl⟩
        rw [← hbt] at hub HST
        have hbv : (48 + (bt.toNat : Int)) % 256 = ((chB bt).toNat : Int) := by
          rw [chB_nat]; have : bt.toNat ≤ 1 := Bool.toNat_le _; omega
        have hb1 : Bytes (wd.alloc (.cells #[.int .u8 ((48 + (bt.toNat : Int)) % 256)] 5)) (some ⟨wd.heap.size, 0, none⟩) 1 1 [chB bt] := by rw [hbv]; exact one_bytes 5 wd _
        have HOA := Lib.hid (HO1.out.below (Nat.le_refl _) ((Below.refl _ wd).alloc (Nat.le_refl _) (.cells #[.int .u8 ((48 + (bt.toNat : Int)) % 256)] 5)))
        have HBA := Lib.hid (HB1.out.alloc HB1.out.size (.cells #[.int .u8 ((48 + (bt.toNat : Int)) % 256)] 5))
        have HBB := Lib.hid hb1
        clear hbt hbv hb1
        go_wp2_with (at_builtin; refine wpList_append_bytes (by rfl) (.tmp 40) (.tmp 55) 22 rfl w.heap.size 5 Tryz.underlying22 RefC.info5 _ _ (by rfl) HOA.out _ 1 1 [chB bt] (by rfl) HBB.out (by simp; omega) (by have := HB1.out.size; simp; omega) ?_)
        intro v2 w2 hown hg
        have HB2 := Lib.hid (grown_below HOA.out HBA.out hg HBA.out.size)
        have HO2 : Hid (Own 5 w.heap.size w2 v2 ((((bitsOf l).drop A).take (i + 1)).map chB)) := Lib.hid (by rw [HST.out]; simp only [List.map_append, List.map_take, List.map_drop]; exact hown)
        clear hown hg HOA HBA HO1 HB1
        go_wp2_with fail
        go_roundw
        case rel => exact ⟨i + 1, by omega, by go_num, HO2, HB2⟩
        case measure => simp [intOf]; omega
      · have hinI : decide ((i : Int) < (n : Int)) = true := by simp; omega
        have hltI : decide ((K : Int) < (E : Int)) = false := by simp; omega
        have HAL := Lib.hid (look_all l A i n (by have := HK.out; rw [HLE.out]; omega) hi)
        clear hK hE
        obtain ⟨a1, c1, hv, hb⟩ := HO.out.bytes
        subst hv
        have hcv : ∀ q, (convert 22 9 (.slice a1 ((((bitsOf l).drop A).take i).map chB).length c1)).run Tryz.prog (wr.drewN q) = .ok (.string (txt (((bitsOf l).drop A).take i))) (wr.drewN q) := fun q => run_string_bytes (wr.drewN q) 22 9 5 Tryz.underlying22 Tryz.underlying5 Tryz.underlying9 (Bytes_drewN hb q)
        obtain ⟨Q, hR⟩ : ∃ Q, Q = ((bitsOf l).drop A).take i := ⟨_, rfl⟩
        rw [← hR] at HO hcv ⊢
        have HRR := Lib.hid hR
        clear hR
        rw [List.length_map] at hcv ⊢
        clear hb
        go_wp2_with fail
        go_quiet (fail)
        go_wp2_with fail
        go_ret
        exact ⟨by rw [HAL.out, ← HRR.out]; simp, below_drewN HB.out _⟩
    · have hinI : decide ((i : Int) < (n : Int)) = false := by simp; omega
      obtain rfl : i = n := by omega
      clear hK hE
      obtain ⟨a1, c1, hv, hb⟩ := HO.out.bytes
      subst hv
      have hcv : ∀ q, (convert 22 9 (.slice a1 ((((bitsOf l).drop A).take i).map chB).length c1)).run Tryz.prog (wr.drewN q) = .ok (.string (txt (((bitsOf l).drop A).take i))) (wr.drewN q) := fun q => run_string_bytes (wr.drewN q) 22 9 5 Tryz.underlying22 Tryz.underlying5 Tryz.underlying9 (Bytes_drewN hb q)
      obtain ⟨Q, hR⟩ : ∃ Q, Q = ((bitsOf l).drop A).take i := ⟨_, rfl⟩
      rw [← hR] at HO hcv ⊢
      have HRR := Lib.hid hR
      clear hR
      rw [List.length_map] at hcv ⊢
      clear hb
      go_wp2_with fail
      go_quiet (fail)
      go_wp2_with fail
      go_ret
      exact ⟨by rw [← HRR.out]; simp, below_drewN HB.out _⟩
end
end Go.Proofs.YtjejlhpnhkacmaaGreatDoor.RfC
end

section
/-
  The document's own inflate: get, left, end.
-/
namespace Go.Proofs.YtjejlhpnhkacmaaGreatDoor.RfC
open Go.RowKit Go.My BitMath RefC

section
variable {w0 w w' : World} {g : Nat} {a : Option Addr} {len cap : Nat} {l : List UInt8} {p : Nat} {ov : Value} {out : List UInt8} {wide : Bool} {S most code : Nat} {R : List (Nat × TypeId × Array Value)}
theorem blk_ne {W : World} {g k : Nat} {t u : TypeId} {cs ds : Array Value} (h : Blk W g t cs) (h2 : Blk W k u ds) (ht : t ≠ u) : g ≠ k := fun e => by
  subst e
  have h1 := h
  unfold Blk at h1 h2
  rw [h1] at h2
  injection h2 with h2
  injection h2 with _ h2
  exact ht h2
theorem XAt.later (h : XAt w0 w g a len cap l p ov out wide S most code R) (hb : Below w.heap.size w w') : XAt w0 w' g a len cap l p ov out wide S most code R :=
  ⟨h.blk.same (hb.block g h.blk.lt), h.own.below (Nat.le_refl _) hb, h.base, h.byt, h.below.trans (hb.mono h.below.size), h.lt, h.short, fun x hx => ⟨(h.rows x hx).1.same (hb.block x.1 (h.rows x hx).1.lt), (h.rows x hx).2⟩⟩
theorem XAt.far (h : XAt w0 w g a len cap l p ov out wide S most code R) : ov.ownBlock ≠ some g := own_len_ne h.own h.blk (by decide)
theorem XAt.put (h : XAt w0 w g a len cap l p ov out wide S most code R) (i : Nat) (v : Value) (q code' : Nat) (hq : q ≤ 8 * len) (hc : (xc a len cap p ov wide S most code).setIfInBounds i v = xc a len cap q ov wide S most code') :
    XAt w0 (w.setCell ⟨g, i, none⟩ v) g a len cap l q ov out wide S most code' R := by
  have hO : Only (fun k => k = g) w (w.setCell ⟨g, i, none⟩ v) := (Only.refl (fun k => k = g) w).setCell (p := ⟨g, i, none⟩) (fun _ => rfl) v
  have hb := h.blk.set_ i v
  rw [hc] at hb
  exact ⟨hb, hO.own h.own (fun k hk e => h.far (by rw [hk, e])), h.base, h.byt, h.below.trans (hO.below h.below.size (fun k hk => by rw [hk]; exact h.base)), hq, h.short, fun x hx => ⟨hO.blk (h.rows x hx).1 (fun e => blk_ne h.blk (h.rows x hx).1 (fun e => (h.rows x hx).2.1 e.symm) e.symm), (h.rows x hx).2⟩⟩
theorem XAt.at_ (h : XAt w0 w g a len cap l p ov out wide S most code R) (q code' : Nat) (hq : q ≤ 8 * len) (hc : code' = code) : XAt w0 (w.setCell ⟨g, 1, none⟩ (.int .i64 (q : Int))) g a len cap l q ov out wide S most code' R := by
  subst hc; exact h.put 1 _ q code' hq rfl
theorem XAt.code_ (h : XAt w0 w g a len cap l p ov out wide S most code R) (code' : Nat) : XAt w0 (w.setCell ⟨g, 6, none⟩ (.int .i64 (code' : Int))) g a len cap l p ov out wide S most code' R := h.put 6 _ p code' h.lt rfl

/-- What get hands back. -/
def Got (w0 : World) (g : Nat) (a : Option Addr) (len cap : Nat) (l : List UInt8) (p : Nat) (ov : Value) (out : List UInt8) (wide : Bool) (S most code n : Nat) (R : List (Nat × TypeId × Array Value)) (e : Ending) (w' : World) : Prop :=
  (8 * len < p + n ∧ e = .returned (.tuple #[.int .i64 0, .bool false]) ∧ Hid (XAt w0 w' g a len cap l p ov out wide S most code R)) ∨
  (p + n ≤ 8 * len ∧ e = .returned (.tuple #[.int .i64 ((num (((bitsOf l).drop p).take n) : Nat) : Int), .bool true]) ∧ Hid (XAt w0 w' g a len cap l (p + n) ov out wide S most code R))
set_option maxRecDepth 100000 in
set_option maxHeartbeats 2000000 in
theorem get_any (n : Nat) (hn : n ≤ 16) (h : Hid (XAt w0 w g a len cap l p ov out wide S most code R)) :
    Calls Tryz.prog 21 #[.pointer (some ⟨g, 0, none⟩), .int .i64 (n : Int)] w (Got w0 g a len cap l p ov out wide S most code n R) := by
  have hp := h.out.lt
  have hs := h.out.short
  have hll : (bitsOf l).length = 8 * len := by rw [bitsOf_len, h.out.byt.len_eq]
  have HQ := Lib.hid (look_any 0 n h (by omega) (by omega))
  have hsz : (txt (((bitsOf l).drop (p + 0)).take n)).size = min n (8 * len - p) := by rw [txt_len, List.length_take, List.length_drop, hll]; rfl
  have HNum := Lib.hid (fun W => refnumber_any (((bitsOf l).drop (p + 0)).take n) W (by rw [List.length_take]; omega))
  have hlt := num_lt (((bitsOf l).drop (p + 0)).take n)
  have h32 : num (((bitsOf l).drop (p + 0)).take n) < 65536 := Nat.lt_of_lt_of_le hlt (by have := Nat.pow_le_pow_right (n := 2) (by omega) (show (((bitsOf l).drop (p + 0)).take n).length ≤ 16 by rw [List.length_take]; omega); simpa using this)
  unfold Got
  rw [Nat.add_zero] at *
  obtain ⟨V, hV⟩ : ∃ V, V = num (((bitsOf l).drop p).take n) := ⟨_, rfl⟩
  rw [← hV] at HNum h32 ⊢
  generalize txt (((bitsOf l).drop p).take n) = t at *
  clear hlt hV hll
  go_enter Tryz.func21, Tryz.ntmps21
  go_wp2_with fail
  refine HQ.out.mono ?_
  rintro e w1 ⟨rfl, hb⟩
  have HX := Lib.hid (h.out.later hb)
  clear hb HQ h
  by_cases hlt : t.size < n
  · go_wp2_with fail
    go_ret2
    exact .inl ⟨by omega, rfl, HX⟩
  · have x1 : w1.cell? ⟨g, 1, none⟩ = some (.int .i64 (p : Int)) := HX.out.blk.cell 1
    have f1 : w1.frozen? ⟨g, 1, none⟩ = false := HX.out.blk.frozen 1
    have hpn : p + n ≤ 8 * len := by omega
    have HX2 := Lib.hid (HX.out.at_ (p + n) code hpn rfl)
    have HP := Lib.hid hpn
    clear HX hsz hpn
    go_upto_region 5 with (fail)
    rw [show ((p + n : Nat) : Int) = (p : Int) + (n : Int) from by omega] at HX2
    generalize w1.setCell ⟨g, 1, none⟩ (.int .i64 ((p : Int) + (n : Int))) = w2 at *
    clear x1 f1
    go_wp2_with fail
    refine (HNum.out w2).mono ?_
    rintro e w3 ⟨rfl, rfl⟩
    go_wp2_with fail
    go_ret2
    exact .inr ⟨HP.out, rfl, HX2⟩

set_option maxRecDepth 100000 in
set_option maxHeartbeats 2000000 in
theorem left_any (h : Hid (XAt w0 w g a len cap l p ov out wide S most code R)) :
    Calls Tryz.prog 34 #[.pointer (some ⟨g, 0, none⟩)] w fun e w' => e = .returned (.int .i64 ((8 * len - p : Nat) : Int)) ∧ Below w.heap.size w w' := by
  have hp := h.out.lt
  have hs := h.out.short
  have x0 : w.cell? ⟨g, 0, none⟩ = some (.slice a len cap) := h.out.blk.cell 0
  have x1 : w.cell? ⟨g, 1, none⟩ = some (.int .i64 (p : Int)) := h.out.blk.cell 1
  obtain ⟨E, hE⟩ : ∃ E, E = 8 * len := ⟨_, rfl⟩
  obtain ⟨D, hD⟩ : ∃ D, D = 8 * len - p := ⟨_, rfl⟩
  rw [← hD]
  have hEI : (8 : Int) * (len : Int) = (E : Int) := by omega
  have hw3 : IntKind.i64.wrap ((8 : Int) * (len : Int)) = (E : Int) := by rw [hEI]; exact IntWalk.i64_in _ (by omega)
  have hDI : (E : Int) - (p : Int) = (D : Int) := by omega
  have hw4 : IntKind.i64.wrap ((E : Int) - (p : Int)) = (D : Int) := by rw [hDI]; exact IntWalk.i64_in _ (by omega)
  clear hE hD h
  go_enter Tryz.func34, Tryz.ntmps34
  go_wp2_with fail
  go_quiet (fail)
  go_wp2_with fail
  go_ret
  exact ⟨by simp, below_drewN (Below.refl _ _) _⟩
theorem end_any (c : Nat) (h : Hid (XAt w0 w g a len cap l p ov out wide S most code R)) :
    Calls Tryz.prog 37 #[.pointer (some ⟨g, 0, none⟩), .int .i64 (c : Int)] w fun e w' => e = .returned (.int .i64 2) ∧ Hid (XAt w0 w' g a len cap l p ov out wide S most c R) := by
  have x6 : w.cell? ⟨g, 6, none⟩ = some (.int .i64 (code : Int)) := h.out.blk.cell 6
  have f6 : w.frozen? ⟨g, 6, none⟩ = false := h.out.blk.frozen 6
  have HX2 := Lib.hid (h.out.code_ c)
  clear h
  go_enter Tryz.func37, Tryz.ntmps37
  go_wp2_with fail
  go_ret
  exact ⟨rfl, HX2⟩
end
end Go.Proofs.YtjejlhpnhkacmaaGreatDoor.RfC
end

section
/-
  The document's Find over a row of codes, as the machine's symbol.
-/
namespace Go.Proofs.YtjejlhpnhkacmaaGreatDoor.RfC
open Go.RowKit Go.My BitMath CanMath TabMath CanC TabC

/-- A row of codes in memory. -/
structure CodeRow (w : World) (gl : Nat) (ls : List Nat) : Prop where
  blk : Blk w gl 9 (texts ls).toArray
  ok : InfMath.CodeOk ls
def zs (ls : List Nat) : List Int := ls.map fun n : Nat => (n : Int)
theorem nat_zs (ls : List Nat) : CanC.nat (zs ls) = ls := by
  unfold CanC.nat zs
  rw [List.map_map]
  conv => rhs; rw [← List.map_id ls]
  apply List.map_congr_left
  intro n _
  simp
theorem good_zs {ls : List Nat} (h : InfMath.CodeOk ls) : CanC.Good (zs ls) := by
  refine ⟨by unfold zs; rw [List.length_map]; have := h.len; omega, ?_⟩
  intro x hx
  unfold zs at hx
  obtain ⟨n, hn, rfl⟩ := List.mem_map.1 hx
  have := h.all n hn
  omega
theorem CodeRow.row {w : World} {gl : Nat} {ls : List Nat} (h : CodeRow w gl ls) : RowIn w (some ⟨gl, 0, none⟩) ls.length ls.length (texts ls) :=
  ⟨texts_len ls, Nat.le_refl _, by have := h.ok.len; omega, (fun e => by cases e), .inr ⟨gl, 0, rfl, h.blk.lt, fun i hi => by rw [h.blk.cell, Nat.zero_add]; simp [hi]⟩⟩
theorem sym_ans (ls : List Nat) (bs : List Bool) : ansV (who ls (num (bs.take 15) % 2 ^ (min bs.length 15))) (min bs.length 15) = .tuple #[.int .i64 (((InfMath.sym ls bs).1 : Nat) : Int), .int .i64 (((InfMath.sym ls bs).2.1 : Nat) : Int), .int .i64 (((InfMath.sym ls bs).2.2 : Nat) : Int)] := by
  have hl : (bs.take 15).length = min bs.length 15 := by rw [List.length_take, Nat.min_comm]
  rw [Nat.mod_eq_of_lt (by have := num_lt (bs.take 15); rwa [hl] at this)]
  unfold ansV InfMath.sym
  by_cases h1 : (who ls (num (bs.take 15))).l = 0
  · rw [if_pos h1, if_pos h1]; rfl
  · rw [if_neg h1, if_neg h1]
    by_cases h2 : min bs.length 15 < (who ls (num (bs.take 15))).l
    · rw [if_pos h2, if_pos h2]; rfl
    · rw [if_neg h2, if_neg h2]; rfl
theorem find_sym {w : World} {gl : Nat} {ls : List Nat} (h : CodeRow w gl ls) (bs : List Bool) :
    Calls Tryz.prog 36 #[.slice (some ⟨gl, 0, none⟩) ls.length ls.length, .string (txt (bs.take 15))] w fun e w' => e = .returned (.tuple #[.int .i64 (((InfMath.sym ls bs).1 : Nat) : Int), .int .i64 (((InfMath.sym ls bs).2.1 : Nat) : Int), .int .i64 (((InfMath.sym ls bs).2.2 : Nat) : Int)]) ∧ w = w' := by
  have hr := h.row
  have hk := h.ok.kr
  rw [← nat_zs ls] at hr hk
  have hl : (bs.take 15).length = min bs.length 15 := by rw [List.length_take, Nat.min_comm]
  have := reffind_any (num (bs.take 15)) (min bs.length 15) (txt (bs.take 15)) (by rw [nat_zs ls] at hr ⊢; exact hr) (by rw [lows_num_of _ _ hl]) (by omega) (good_zs h.ok) hk (by rw [nat_zs])
  rw [nat_zs, sym_ans] at this
  exact this
end Go.Proofs.YtjejlhpnhkacmaaGreatDoor.RfC
end

section
/-
  Laws of single operations over a frame that is a letter (as in PkLsA), for the document's token.
-/
namespace Go.Proofs.YtjejlhpnhkacmaaGreatDoor.RfC
open Go.RowKit Go.My

theorem x_nil {a : Act} {o : Oper} (s : Operand) {p : Addr} {w : World} (ho : o.op = .nilCheck s) (hs : a.eval s = .pointer (some p)) : (execOp a.eval o).run Tryz.prog w = .ok (.value (.pointer (some p))) w := by
  unfold execOp; rw [ho]; simp only [hs]; rfl
theorem x_field2 {a : Act} {o : Oper} (s : Operand) {g : Nat} {w : World} (ho : o.op = .fieldAddr 58 s 2) (hs : a.eval s = .pointer (some ⟨g, 0, none⟩)) : (execOp a.eval o).run Tryz.prog w = .ok (.value (.pointer (some ⟨g, 2, none⟩))) w := by
  unfold execOp; rw [ho]; simp only [hs]
  go_simp
theorem x_len {a : Act} {o : Oper} (s : Operand) {ad : Option Addr} {n c : Nat} {w : World} (ho : o.op = .call { callee := .builtin .len, args := #[s], argTypes := #[22] }) (hs : a.eval s = .slice ad n c) : (execOp a.eval o).run Tryz.prog w = .ok (.value (.int .i64 (n : Int))) w := by
  unfold execOp; rw [ho]
  simp only [resolve, List.map_toArray, List.map_cons, List.map_nil, hs]
  go_simp
theorem x_sub {a : Act} {o : Oper} (s t : Operand) {x y z : Int} {w : World} (ho : o.op = Op.binOp BinOp.sub 3 s t 3) (hs : a.eval s = .int .i64 x) (ht : a.eval t = .int .i64 y) (hz : IntKind.i64.wrap (x - y) = z) :
    (execOp a.eval o).run Tryz.prog w = .ok (.value (.int .i64 z)) w := by
  unfold execOp
  rw [ho]
  simp only [hs, ht]
  go_simp
theorem x_idx {a : Act} {o : Oper} (s i : Operand) {b off len cap k : Nat} {w : World} (ho : o.op = Op.indexAddr 22 s i) (hs : a.eval s = .slice (some ⟨b, off, none⟩) len cap) (hi : a.eval i = .int .i64 (k : Int)) (hk : k < len) :
    (execOp a.eval o).run Tryz.prog w = .ok (.value (.pointer (some ⟨b, off + k, none⟩))) w := by
  have hki : (k : Int) < (len : Int) := by omega
  unfold execOp
  rw [ho]
  simp only [hs, hi]
  go_simp
theorem x_load {a : Act} {o : Oper} (p : Operand) {x : Addr} {y : Int} {w : World} (ho : o.op = Op.load 5 p) (hp : a.eval p = .pointer (some x)) (hc : w.cell? x = some (.int .u8 y)) :
    (execOp a.eval o).run Tryz.prog w = .ok (.value (.int .u8 y)) w := by
  unfold execOp
  rw [ho]
  simp only [hp]
  go_simp
theorem x_loads {a : Act} {o : Oper} (p : Operand) {x : Addr} {ad : Option Addr} {n c : Nat} {w : World} (ho : o.op = Op.load 22 p) (hp : a.eval p = .pointer (some x)) (hc : w.cell? x = some (.slice ad n c)) :
    (execOp a.eval o).run Tryz.prog w = .ok (.value (.slice ad n c)) w := by
  unfold execOp
  rw [ho]
  simp only [hp]
  go_simp
theorem x_build {a : Act} {o : Oper} (s : Operand) {y : Int} {w : World} (ho : o.op = Op.buildSlice 22 1 #[(0, s)]) (hs : a.eval s = .int .u8 y) :
    (execOp a.eval o).run Tryz.prog w = .ok (.value (.slice (some ⟨w.heap.size, 0, none⟩) 1 1)) (w.alloc (.cells #[.int .u8 y] 5)) := by
  unfold execOp
  rw [ho]
  simp only [List.map_toArray, List.map_cons, List.map_nil, hs]
  go_simp
theorem x_store {a : Act} {o : Oper} (p v : Operand) {x : Addr} {ad ad' : Option Addr} {n c n' c' : Nat} {w : World} (ho : o.op = Op.store 22 p v) (hp : a.eval p = .pointer (some x)) (hv : a.eval v = .slice ad n c) (hc : w.cell? x = some (.slice ad' n' c')) (hf : w.frozen? x = false) :
    (execOp a.eval o).run Tryz.prog w = .ok .skip (w.setCell x (.slice ad n c)) := by
  unfold execOp
  rw [ho]
  simp only [hp, hv]
  go_simp
end Go.Proofs.YtjejlhpnhkacmaaGreatDoor.RfC
end

section
/-
  The document's Codes as rows of codes; the fixed ones.
-/
namespace Go.Proofs.YtjejlhpnhkacmaaGreatDoor.RfC
open Go.RowKit Go.My BitMath CanMath TabMath CanC

theorem infoI : (Tryz.prog.info? 3).map (fun i => (i.zero, i.size, i.bytes)) = some (some (.int .i64 0), 1, 8) := by kernel_rfl
theorem own_blk {E : TypeId} {B : Nat} {w : World} {g n : Nat} {vs : List Value} (h : OwnV E B w (.slice (some ⟨g, 0, none⟩) n n) vs) (hn : vs.length = n) : Blk w g E vs.toArray := by
  subst hn
  rcases h.2 with ⟨h1, _⟩ | ⟨g', cap, cur, h1, h2, h3, h4, h5, h6, h7⟩
  · cases h1
  · simp only [Value.slice.injEq, Option.some.injEq, Addr.mk.injEq, and_true, true_and] at h1
    obtain ⟨rfl, rfl⟩ := h1
    have e : cur = vs.toArray := by
      apply Array.ext'
      rw [List.take_of_length_le (by simp [h6])] at h7
      rw [h7]
    rw [← e]
    exact h3
theorem zs_append (a b : List Nat) : zs (a ++ b) = zs a ++ zs b := by unfold zs; rw [List.map_append]
theorem zs_len (ls : List Nat) : (zs ls).length = ls.length := by unfold zs; rw [List.length_map]
theorem nat_kr {ls : List Nat} (h : InfMath.CodeOk ls) : kr (CanC.nat (zs ls)) ≤ 32768 := by rw [nat_zs]; exact h.kr
/-- Codes of lengths that may be. -/
theorem codes_row {w : World} {a : Option Addr} {len cap : Nat} {ls : List Nat} (h : RowIn w a len cap ((zs ls).map iv)) (ok : InfMath.CodeOk ls) :
    Calls Tryz.prog 31 #[.slice a len cap] w fun e w' => ∃ g, e = .returned (.tuple #[.slice (some ⟨g, 0, none⟩) ls.length ls.length, .int .i64 0]) ∧ Hid (Blk w' g 9 (texts ls).toArray) ∧ Below w.heap.size w w' :=
  (refcodes_ok h (good_zs ok) (nat_kr ok)).mono fun e w' ⟨g, he, _, ho, hb⟩ => by
    rw [zs_len] at he ho
    rw [nat_zs] at ho
    exact ⟨g, he, Lib.hid (own_blk ho (texts_len ls)), hb⟩
def fixN (k : Nat) : Nat := if k < 144 then 8 else if k < 256 then 9 else if k < 280 then 7 else 8
theorem fixL_len : InfMath.fixL.length = 288 := by decide +kernel
theorem fixL_at : ∀ k : Fin 288, InfMath.fixL.getD k.val 0 = fixN k.val := by decide +kernel
theorem fixL_take (k : Nat) (h : k < 288) : InfMath.fixL.take (k + 1) = InfMath.fixL.take k ++ [fixN k] := by
  have hl : k < InfMath.fixL.length := by rw [fixL_len]; exact h
  have := fixL_at ⟨k, h⟩
  simp only at this
  rw [List.getD_eq_getElem?_getD, List.getElem?_eq_getElem hl] at this
  rw [List.take_succ_eq_append_getElem hl, ← this]
  rfl
theorem fixD_take (k : Nat) (h : k < 32) : InfMath.fixD.take (k + 1) = InfMath.fixD.take k ++ [5] := by
  unfold InfMath.fixD
  rw [List.take_replicate, List.take_replicate, Nat.min_eq_left (by omega), Nat.min_eq_left (by omega), List.replicate_succ']
/-- One number more behind a row of numbers. -/
theorem lit_int (w : World) (v : Nat) : RowIn (w.alloc (.cells #[.int .i64 (v : Int)] 3)) (some ⟨w.heap.size, 0, none⟩) 1 1 ((zs [v]).map iv) := by
  refine ⟨rfl, Nat.le_refl _, by omega, (fun e => by cases e), .inr ⟨w.heap.size, 0, rfl, by simp, fun i hi => ?_⟩⟩
  obtain rfl : i = 0 := by simp [zs] at hi; omega
  rw [(Blk.new w 3 #[.int .i64 (v : Int)]).cell]
  rfl
theorem one_int (v : Nat) : ∀ u ∈ (zs [v]).map iv, u.oneCell' = true := by
  intro u hu
  simp [zs] at hu
  subst hu
  rfl

set_option maxRecDepth 100000 in
set_option maxHeartbeats 8000000 in
theorem fixed_any (w : World) : Calls Tryz.prog 20 #[] w fun e w' => ∃ g1 g2, e = .returned (.tuple #[.slice (some ⟨g1, 0, none⟩) 288 288, .slice (some ⟨g2, 0, none⟩) 32 32]) ∧ Hid (Blk w' g1 9 (texts InfMath.fixL).toArray) ∧ Hid (Blk w' g2 9 (texts InfMath.fixD).toArray) ∧ Below w.heap.size w w' := by
  go_enter Tryz.func20, Tryz.ntmps20
  go_wp2_with fail
  go_loopw [2, 4] (fun lv iv' wr => ∃ k : Nat, k ≤ 288 ∧ iv' = .int .i64 (k : Int) ∧ Hid (OwnV 3 w.heap.size wr lv ((zs (InfMath.fixL.take k)).map iv)) ∧ Hid (Below w.heap.size w wr)) (fun _ iv' _ => 288 - (intOf iv').toNat)
  case atStart => exact ⟨0, by omega, rfl, Lib.hid (OwnV.nil _ _ _), Lib.hid (Below.refl _ _)⟩
  case round =>
    obtain ⟨k, hk, rfl, HO, HB⟩ := hrel
    by_cases hlt : k < 288
    · have HTK := Lib.hid (fixL_take k hlt)
      obtain ⟨n, hn⟩ : ∃ n, n = fixN k := ⟨_, rfl⟩
      rw [← hn] at HTK
      have HOA := Lib.hid (HO.out.below (Nat.le_refl _) ((Below.refl _ wr).alloc (Nat.le_refl _) (.cells #[.int .i64 (n : Int)] 3)))
      have HBA := Lib.hid (HB.out.alloc HB.out.size (.cells #[.int .i64 (n : Int)] 3))
      have HRI := Lib.hid (lit_int wr n)
      have HL : Hid (((zs (InfMath.fixL.take k)).map iv).length = k) := Lib.hid (by rw [List.length_map, zs_len, List.length_take, fixL_len]; omega)
      have hways : (k < 144 ∧ n = 8) ∨ (144 ≤ k ∧ k < 256 ∧ n = 9) ∨ (256 ≤ k ∧ k < 280 ∧ n = 7) ∨ (280 ≤ k ∧ n = 8) := by
        rw [hn]; unfold fixN
        by_cases h1 : k < 144
        · rw [if_pos h1]; omega
        · by_cases h2 : k < 256
          · rw [if_neg h1, if_pos h2]; omega
          · by_cases h3 : k < 280
            · rw [if_neg h1, if_neg h2, if_pos h3]; omega
            · rw [if_neg h1, if_neg h2, if_neg h3]; omega
      clear hn HO HB
      rcases hways with ⟨h1, rfl⟩ | ⟨h1, h2, rfl⟩ | ⟨h1, h2, rfl⟩ | ⟨h1, rfl⟩
      all_goals
        go_wp2_with (at_builtin; refine wpList_append_row (by rfl) (.tmp 27) (.tmp 29) 42 rfl w.heap.size 3 (.int .i64 0) 8 Tryz.underlying42 infoI rfl _ _ (by rfl) HOA.out (some ⟨wr.heap.size, 0, none⟩) 1 1 _ (by rfl) HRI.out (one_int _) (by rw [HL.out]; omega) (by rw [HL.out]; omega) HBA.out.size ?_)
        intro a2 c2 w2 hown hg _
        rw [show (zs (InfMath.fixL.take k)).length = k from by have := HL.out; rwa [List.length_map] at this] at hown ⊢
        have HO2 : Hid (OwnV 3 w.heap.size w2 (.slice a2 (k + 1) c2) ((zs (InfMath.fixL.take (k + 1))).map iv)) := Lib.hid (by rw [HTK.out, zs_append, List.map_append]; exact hown)
        have HB2 := Lib.hid (HOA.out.grown HBA.out hg HBA.out.size)
        clear hown hg HOA HBA HRI HTK HL
        go_wp2_with fail
        go_roundw
        case rel => exact ⟨k + 1, by omega, by go_num, HO2, HB2⟩
        case measure => simp [intOf]; omega
    · rw [List.take_of_length_le (by rw [fixL_len]; omega)] at HO
      have hkI : ¬ (k : Int) < 288 := by omega
      clear hk hlt
      obtain ⟨a1, c1, hv, hr⟩ := HO.out.row
      rw [List.length_map, zs_len, fixL_len] at hv hr
      subst hv
      have HR1 := Lib.hid hr
      clear HO hr
      go_wp2_with fail
      clear hkI
      obtain ⟨W2, hW2⟩ : ∃ W2, W2 = wr := ⟨_, rfl⟩
      rw [← hW2] at HR1 HB
      have HW2 := Lib.hid hW2
      clear hW2
      go_loopw [3, 6] (fun lv iv' wx => ∃ k : Nat, k ≤ 32 ∧ iv' = .int .i64 (k : Int) ∧ Hid (OwnV 3 W2.heap.size wx lv ((zs (InfMath.fixD.take k)).map iv)) ∧ Hid (Below W2.heap.size W2 wx)) (fun _ iv' _ => 32 - (intOf iv').toNat)
      case atStart => exact ⟨0, by omega, rfl, Lib.hid (OwnV.nil _ _ _), Lib.hid (by rw [HW2.out]; exact Below.refl _ _)⟩
      case round =>
        clear HW2
        obtain ⟨k, hk, rfl, HO, HB2⟩ := hrel
        by_cases hlt : k < 32
        · have HTK := Lib.hid (fixD_take k hlt)
          have HOA := Lib.hid (HO.out.below (Nat.le_refl _) ((Below.refl _ wr).alloc (Nat.le_refl _) (.cells #[.int .i64 ((5 : Nat) : Int)] 3)))
          have HBA := Lib.hid (HB2.out.alloc HB2.out.size (.cells #[.int .i64 ((5 : Nat) : Int)] 3))
          have HRI := Lib.hid (lit_int wr 5)
          have hL : (zs (InfMath.fixD.take k)).length = k := by rw [zs_len, List.length_take, show InfMath.fixD.length = 32 from by decide +kernel]; omega
          have HL := Lib.hid hL
          clear hL HO HB2
          go_wp2_with (at_builtin; refine wpList_append_row (by rfl) (.tmp 35) (.tmp 36) 42 rfl W2.heap.size 3 (.int .i64 0) 8 Tryz.underlying42 infoI rfl _ _ (by rfl) HOA.out (some ⟨wr.heap.size, 0, none⟩) 1 1 _ (by rfl) HRI.out (one_int _) (by rw [List.length_map, HL.out]; omega) (by rw [List.length_map, HL.out]; omega) HBA.out.size ?_)
          intro a2 c2 w2 hown hg _
          rw [HL.out] at hown ⊢
          have HO2 : Hid (OwnV 3 W2.heap.size w2 (.slice a2 (k + 1) c2) ((zs (InfMath.fixD.take (k + 1))).map iv)) := Lib.hid (by rw [HTK.out, zs_append, List.map_append]; exact hown)
          have HB3 := Lib.hid (HOA.out.grown HBA.out hg HBA.out.size)
          clear hown hg HOA HBA HRI HTK HL
          go_wp2_with fail
          go_roundw
          case rel => exact ⟨k + 1, by omega, by go_num, HO2, HB3⟩
          case measure => simp [intOf]; omega
        · obtain rfl : k = 32 := by omega
          rw [List.take_of_length_le (by rw [show InfMath.fixD.length = 32 from by decide +kernel]; omega)] at HO
          clear hk hlt
          obtain ⟨a2, c2, hv, hr⟩ := HO.out.row
          rw [List.length_map, zs_len, show InfMath.fixD.length = 32 from by decide +kernel] at hv hr
          subst hv
          have HR2 := Lib.hid hr
          have HC1 := Lib.hid (codes_row (HR1.out.below (Nat.le_refl _) HB2.out) InfMath.fixL_ok)
          have HB4 := Lib.hid (HB.out.trans (HB2.out.mono HB.out.size))
          clear HO hr
          go_wp2_with fail
          refine HC1.out.mono ?_
          rw [fixL_len]
          rintro e w3 ⟨g1, rfl, HK1, hb3⟩
          have HC2 := Lib.hid (codes_row (HR2.out.below (Nat.le_refl _) hb3) InfMath.fixD_ok)
          have HB5 := Lib.hid (HB4.out.trans (hb3.mono HB4.out.size))
          clear hb3
          go_wp2_with fail
          refine HC2.out.mono ?_
          rw [show InfMath.fixD.length = 32 from by decide +kernel]
          rintro e w4 ⟨g2, rfl, HK2, hb4⟩
          have HK3 := Lib.hid (HK1.out.same (hb4.block g1 HK1.out.lt))
          have HB6 := Lib.hid (HB5.out.trans (hb4.mono HB5.out.size))
          clear hb4
          go_wp2_with fail
          go_ret2
          exact ⟨g1, g2, rfl, HK3, HK2, HB6.out⟩
end Go.Proofs.YtjejlhpnhkacmaaGreatDoor.RfC
end
