/-
  The document's own answer for canon: Kraft, Kind.
-/
import Derived.Test.YtgmdbcmfncapdaaCanE
import Derived.Test.YtgmdbcmfncapdaaRefCode
namespace Go.Proofs.Ytgmdbcmfncapdaa.CanC
open Go.RowKit Go.My BitMath CanMath RefC

def BadAt (zs : List Int) : Prop := ∃ k, ∃ h : k < zs.length, zs[k] < 0 ∨ 15 < zs[k]

section
variable {a : Option Addr} {len cap : Nat} {zs : List Int} {w : World}
theorem good_take {zs : List Int} {k : Nat} (h : ∀ j (h : j < zs.length), j < k → 0 ≤ zs[j] ∧ zs[j] ≤ 15) (hl : zs.length = k) (h2 : k ≤ 65536) : Good zs :=
  ⟨by omega, fun z hz => by
    obtain ⟨j, hj, rfl⟩ := List.getElem_of_mem hz
    exact h j hj (by omega)⟩

/-- What ref Kraft hands back. -/
def KraftPost (zs : List Int) (e : Ending) : Prop := (Good zs → e = .returned (.int .i64 ((kr (nat zs) : Nat) : Int))) ∧ (¬ Good zs → e = .returned (.int .i64 (-1)))
set_option maxRecDepth 100000 in
set_option maxHeartbeats 2000000 in
theorem refkraft_any (h : RowIn w a len cap (zs.map iv)) :
    Calls Try.prog 17 #[.slice a len cap] w fun e w' => KraftPost zs e ∧ w = w' := by
  have hzl : zs.length = len := by have := h.len_eq; simpa using this
  have hlc := h.le_cap
  have hcl := h.cap_le
  have HZ := Lib.hid hzl
  have HR := Lib.hid h
  clear h hzl
  go_enter Try.func17, Try.ntmps17
  by_cases hbig : 65536 < len
  · go_wp2_with fail
    go_ret
    exact ⟨⟨fun hg => by have := hg.1; have := HZ.out; omega, fun _ => rfl⟩, rfl⟩
  go_wp2_with fail
  go_loop [3, 4] (fun s i => ∃ k : Nat, k ≤ len ∧ i = .int .i64 (k : Int) ∧ s = .int .i64 ((kr ((nat zs).take k) : Nat) : Int) ∧ Hid (∀ j (h : j < zs.length), j < k → 0 ≤ zs[j] ∧ zs[j] ≤ 15)) (fun _ i => len - (intOf i).toNat)
  case atStart => exact ⟨0, Nat.zero_le _, rfl, by simp [kr], Lib.hid (fun j _ h => by omega)⟩
  case round =>
    obtain ⟨k, hk, rfl, rfl, HG⟩ := hrel
    by_cases hlt : k < len
    · obtain ⟨b, off, rfl⟩ := HR.out.some_ (by omega)
      have hkz : k < zs.length := by rw [HZ.out]; exact hlt
      have hcz : w.cell? ⟨b, off + k, none⟩ = some (.int .i64 zs[k]) := by
        rw [HR.out.get k (by simpa using hkz)]
        simp [iv]
      obtain ⟨z, hz⟩ : ∃ z, z = zs[k] := ⟨_, rfl⟩
      rw [← hz] at hcz
      have HZK := Lib.hid hz
      clear hz
      by_cases hneg : z < 0
      · go_wp2_with fail
        go_ret
        exact ⟨⟨fun hg => by have := hg.2 z (by rw [HZK.out]; exact List.getElem_mem hkz); omega, fun _ => rfl⟩, rfl⟩
      · by_cases hgt : 15 < z
        · go_wp2_with fail
          go_ret
          exact ⟨⟨fun hg => by have := hg.2 z (by rw [HZK.out]; exact List.getElem_mem hkz); omega, fun _ => rfl⟩, rfl⟩
        · obtain ⟨n, rfl⟩ : ∃ n : Nat, z = (n : Int) := ⟨z.toNat, by omega⟩
          have HG1 : Hid (∀ j (h : j < zs.length), j < k + 1 → 0 ≤ zs[j] ∧ zs[j] ≤ 15) := Lib.hid (by
            intro j h hj
            by_cases he : j = k
            · subst he
              rw [← HZK.out]; omega
            · exact HG.out j h (by omega))
          have HTK : Hid (kr ((nat zs).take (k + 1)) = kr ((nat zs).take k) + share n) := Lib.hid (by rw [nat_snoc zs k hkz n HZK.out.symm, kr_append, kr_cons, kr_nil]; omega)
          have hkb : kr ((nat zs).take k) ≤ 16384 * 65536 := Nat.le_trans (kr_le _) (Nat.mul_le_mul_left _ (by rw [List.length_take]; omega))
          have HP : Hid (0 < n → share n = 2 ^ (15 - n)) := Lib.hid (fun h => share_eq h)
          have HP0 : Hid (n = 0 → share n = 0) := Lib.hid (fun h => by subst h; rfl)
          have hpl := share_le n
          generalize kr ((nat zs).take k) = x at *
          generalize share n = p at *
          by_cases h0 : 0 < n
          · have hp : (2 : Int) ^ (15 - n) = (p : Int) := by rw [HP.out h0]; push_cast; rfl
            have HP2 := Lib.hid hp
            have hs1 : (15 - (n : Int)).toNat = 15 - n := by omega
            have hs2 : min (15 - n) 64 = 15 - n := by omega
            have hs3 : IntKind.i64.wrap (2 ^ (15 - n)) = (p : Int) := by rw [hp, IntWalk.i64_in _ (by omega)]
            have hs4 : (1 : Int) * 2 ^ (15 - n) = (p : Int) := by rw [hp]; omega
            clear hp
            go_wp2_with fail
            go_round
            case rel => exact ⟨k + 1, by omega, by go_num, by rw [HTK.out]; go_num, HG1⟩
            case measure => simp [intOf]; omega
          · obtain rfl : n = 0 := by omega
            go_wp2_with fail
            go_round
            case rel => exact ⟨k + 1, by omega, by go_num, by rw [HTK.out, HP0.out rfl]; rfl, HG1⟩
            case measure => simp [intOf]; omega
    · obtain rfl : k = len := by omega
      have HT : Hid ((nat zs).take k = nat zs) := Lib.hid (List.take_of_length_le (by rw [nat_len, HZ.out]; omega))
      rw [HT.out]
      go_wp2_with fail
      go_ret
      exact ⟨⟨fun _ => rfl, fun hn => absurd (good_take HG.out HZ.out (by omega)) hn⟩, rfl⟩

set_option maxRecDepth 100000 in
set_option maxHeartbeats 2000000 in
theorem refkind_bad (h : RowIn w a len cap (zs.map iv)) (hg : ¬ Good zs) :
    Calls Try.prog 18 #[.slice a len cap] w fun e w' => e = .returned (.int .i64 4) ∧ w = w' := by
  have hzl : zs.length = len := by have := h.len_eq; simpa using this
  have h0 : 0 < len := by
    rcases Nat.eq_zero_or_pos len with h0 | h0
    · exact absurd ⟨by omega, fun z hz => by have : zs = [] := List.length_eq_zero_iff.1 (by omega); subst this; simp at hz⟩ hg
    · exact h0
  have HG := Lib.hid hg
  have HR := Lib.hid h
  have hlc := h.le_cap
  have hcl := h.cap_le
  clear h hg hzl
  go_enter Try.func18, Try.ntmps18
  go_wp2_with fail
  refine (refkraft_any HR.out).mono ?_
  rintro e w' ⟨he, rfl⟩
  obtain rfl := he.2 HG.out
  clear he
  go_wp2_with fail
  go_loop [4, 5, 6] (fun s o i => i = .int .i64 0) (fun _ _ _ => 0)
  case atStart => rfl
  case round =>
    obtain rfl := hrel
    go_wp2_with fail
    go_ret
    exact ⟨rfl, rfl⟩

set_option maxRecDepth 100000 in
set_option maxHeartbeats 4000000 in
theorem refkind_good (h : RowIn w a len cap (zs.map iv)) (hg : Good zs) :
    Calls Try.prog 18 #[.slice a len cap] w fun e w' => e = .returned (.int .i64 (kindN (nat zs))) ∧ w = w' := by
  have hzl : zs.length = len := by have := h.len_eq; simpa using this
  have hlen : len ≤ 65536 := by rw [← hzl]; exact hg.1
  have HKN : Hid (kindN (nat zs) = if 32768 < kr (nat zs) then 4 else if kr (nat zs) = 0 then 0 else if kr (nat zs) = 32768 then 1 else if kr (nat zs) = 16384 ∧ (nat zs).count 1 = 1 then 2 else 3) := Lib.hid rfl
  have HA := Lib.hid (some_none (nat zs))
  have HO := Lib.hid (single (nat zs))
  have hkr : kr (nat zs) ≤ 16384 * 65536 := Nat.le_trans (kr_le _) (Nat.mul_le_mul_left _ (by rw [nat_len]; exact hg.1))
  have HZ := Lib.hid hzl
  have HG := Lib.hid hg
  have HR := Lib.hid h
  clear h hg hzl
  generalize kindN (nat zs) = X at *
  go_enter Try.func18, Try.ntmps18
  go_wp2_with fail
  refine (refkraft_any HR.out).mono ?_
  rintro e w' ⟨he, rfl⟩
  obtain rfl := he.1 HG.out
  clear he
  generalize kr (nat zs) = K at *
  go_wp2_with fail
  go_loop [4, 5, 6] (fun s o i => ∃ k : Nat, k ≤ len ∧ i = .int .i64 (k : Int) ∧ s = .int .i64 (((some_ ((nat zs).take k)).length : Nat) : Int) ∧ o = .int .i64 (((some_ ((nat zs).take k)).getLastD 0 : Nat) : Int)) (fun _ _ i => len - (intOf i).toNat)
  case atStart => exact ⟨0, Nat.zero_le _, rfl, rfl, rfl⟩
  case round =>
    obtain ⟨k, hk, rfl, rfl, rfl⟩ := hrel
    by_cases hlt : k < len
    · obtain ⟨b, off, rfl⟩ := HR.out.some_ (by omega)
      have hkz : k < zs.length := by rw [HZ.out]; exact hlt
      obtain ⟨n, hn⟩ : ∃ n : Nat, zs[k] = (n : Int) := ⟨zs[k].toNat, by have := HG.out.2 _ (List.getElem_mem hkz); omega⟩
      have hcz : w.cell? ⟨b, off + k, none⟩ = some (.int .i64 (n : Int)) := by
        rw [HR.out.get k (by simpa using hkz)]
        simp [iv, hn]
      have HTK : Hid (some_ ((nat zs).take (k + 1)) = if 0 < n then some_ ((nat zs).take k) ++ [n] else some_ ((nat zs).take k)) := Lib.hid (by rw [nat_snoc zs k hkz n hn, some_snoc])
      have hsl : (some_ ((nat zs).take k)).length ≤ 65536 := Nat.le_trans (List.length_filter_le _ _) (by rw [List.length_take]; omega)
      clear hn
      generalize hq : some_ ((nat zs).take k) = q at *
      clear hq
      by_cases h0 : 0 < n
      · have HL : Hid ((q ++ [n]).length = q.length + 1) := Lib.hid (by simp)
        have HD : Hid ((q ++ [n]).getLastD 0 = n) := Lib.hid (by simp)
        have HT2 : Hid (some_ ((nat zs).take (k + 1)) = q ++ [n]) := Lib.hid (by rw [HTK.out, if_pos h0])
        clear HTK
        generalize q.length = y at *
        go_wp2_with fail
        go_round
        case rel => exact ⟨k + 1, by omega, by go_num, by rw [HT2.out, HL.out]; go_num, by rw [HT2.out, HD.out]⟩
        case measure => simp [intOf]; omega
      · have HT2 : Hid (some_ ((nat zs).take (k + 1)) = q) := Lib.hid (by rw [HTK.out, if_neg h0])
        clear HTK
        go_wp2_with fail
        go_round
        case rel => exact ⟨k + 1, by omega, by go_num, by rw [HT2.out], by rw [HT2.out]⟩
        case measure => simp [intOf]; omega
    · obtain rfl : k = len := by omega
      have HT : Hid ((nat zs).take k = nat zs) := Lib.hid (List.take_of_length_le (by rw [nat_len, HZ.out]; omega))
      rw [HT.out]
      clear HT
      have hsl : (some_ (nat zs)).length ≤ 65536 := Nat.le_trans (List.length_filter_le _ _) (by rw [nat_len, HZ.out]; omega)
      generalize (some_ (nat zs)).length = c at *
      generalize (some_ (nat zs)).getLastD 0 = o at *
      generalize (nat zs).count 1 = d at *
      by_cases h1 : 32768 < K
      · have HKN2 : Hid (X = 4) := Lib.hid (by rw [HKN.out, if_pos h1])
        clear HKN HA HO
        go_wp2_with fail
        go_ret
        exact ⟨ret_int (by rw [HKN2.out]), rfl⟩
      · by_cases h2 : c = 0
        · have HKN2 : Hid (X = 0) := Lib.hid (by rw [HKN.out, if_neg h1, if_pos (HA.out.1 h2)])
          subst h2
          clear HKN HA HO
          go_wp2_with fail
          go_ret
          exact ⟨ret_int (by rw [HKN2.out]), rfl⟩
        · have e2 : ((c : Int) == 0) = false := by simp; omega
          have hK0 : K ≠ 0 := fun h => h2 (HA.out.2 h)
          by_cases h3 : K = 32768
          · have HKN2 : Hid (X = 1) := Lib.hid (by rw [HKN.out, if_neg h1, if_neg hK0, if_pos h3])
            subst h3
            clear HKN HA HO h1 h2 hK0
            go_wp2_with fail
            go_ret
            exact ⟨ret_int (by rw [HKN2.out]), rfl⟩
          · have e3 : ((K : Int) == 32768) = false := by simp; omega
            by_cases h4 : c = 1
            · by_cases h5 : o = 1
              · have HKN2 : Hid (X = 2) := Lib.hid (by rw [HKN.out, if_neg h1, if_neg hK0, if_neg h3, if_pos (HO.out.1 ⟨h4, h5⟩)])
                subst h4
                subst h5
                clear HKN HA HO h2 h3 e2 hK0
                go_wp2_with fail
                go_ret
                exact ⟨ret_int (by rw [HKN2.out]), rfl⟩
              · have HKN2 : Hid (X = 3) := Lib.hid (by rw [HKN.out, if_neg h1, if_neg hK0, if_neg h3, if_neg (fun h => h5 (HO.out.2 h).2)])
                have e5 : ((o : Int) == 1) = false := by simp; omega
                subst h4
                clear HKN HA HO h2 h3 h5 e2 hK0
                go_wp2_with fail
                go_ret
                exact ⟨ret_int (by rw [HKN2.out]), rfl⟩
            · have HKN2 : Hid (X = 3) := Lib.hid (by rw [HKN.out, if_neg h1, if_neg hK0, if_neg h3, if_neg (fun h => h4 (HO.out.2 h).1)])
              have e4 : ((c : Int) == 1) = false := by simp; omega
              clear HKN HA HO h2 h3 h4 hK0
              go_wp2_with fail
              go_ret
              exact ⟨ret_int (by rw [HKN2.out]), rfl⟩
end
end Go.Proofs.Ytgmdbcmfncapdaa.CanC
