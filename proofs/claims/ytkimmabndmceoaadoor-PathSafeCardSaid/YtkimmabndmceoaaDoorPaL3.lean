/-
  PathSafe's law.
-/
import Derived.Test.YtkimmabndmceoaaDoorPaL1
import Derived.Test.YtkimmabndmceoaaDoorPaSf
import Derived.Test.YtkimmabndmceoaaDoorLater
namespace Go.Proofs.YtkimmabndmceoaaDoor.PaC
open Go.RowKit Go.My PaMath

theorem byte_no {c : UInt8} {n : Nat} (h : c ≠ UInt8.ofNat n) (hn : n < 256) : ((c.toNat : Int) == (n : Int)) = false := by
  rw [beq_eq_false_iff_ne]
  intro e
  apply h
  apply UInt8.toNat_inj.1
  rw [UInt8.toNat_ofNat']
  omega
set_option maxRecDepth 100000 in
set_option maxHeartbeats 4000000 in
theorem safe_law (s : ByteArray) (w : World) :
    Calls Tryd.prog 5 #[.string s] w fun e w' => e = .returned (.bool true) ∧ Below w.heap.size w w' := by
  by_cases hl : 300 < s.size
  · go_enter Tryd.func5, Tryd.ntmps5
    go_wp2_with fail
    refine (told_any w).mono ?_
    rintro e w1 ⟨rfl, hb⟩
    go_wp2_with fail
    go_ret
    exact ⟨rfl, hb⟩
  cases hc : clean (lst s) with
  | none =>
    have HV := Lib.hid (cleanV_none hc)
    clear hc
    go_enter Tryd.func5, Tryd.ntmps5
    go_wp2_with fail
    refine (pclean_any s (by omega) w).mono ?_
    rintro e w1 ⟨rfl, b1⟩
    rw [HV.out]
    have B1 := Lib.hid b1
    clear b1
    go_wp2_with fail
    refine (told_any w1).mono ?_
    rintro e w2 ⟨rfl, b2⟩
    have B2 := Lib.hid (B1.out.trans (b2.mono B1.out.size))
    clear b2
    go_wp2_with fail
    go_ret
    exact ⟨rfl, B2.out⟩
  | some o =>
    obtain ⟨A, hA⟩ : ∃ A, A = tx o := ⟨_, rfl⟩
    have hAo : lst A = o := by rw [hA, lst_tx]
    have hcl := clean_some hc
    rw [← hAo] at hc hcl
    have V1 : Hid (cleanV (lst s) = .tuple #[.string A, .bool true]) := Lib.hid (by rw [cleanV_some hc, tx_lst])
    have V2 : Hid (cleanV (lst A) = .tuple #[.string A, .bool true]) := Lib.hid (by rw [cleanV_some (clean_again hc), tx_lst])
    have hR : Hid (isR (lst A) = true) := Lib.hid (decide_eq_true (clean_again hc))
    have hlen : A.size ≤ 4096 := by rw [lst_size]; exact hcl.len
    have hne : lst A ≠ [] := hcl.again.s_ne
    obtain ⟨e0, e1⟩ := str_ne hne
    have hpos : 0 < A.size := by rw [lst_size]; exact List.length_pos_iff.2 hne
    have hh : A[0] ≠ 47 := by
      intro e
      apply hcl.again.head
      rw [List.head?_eq_getElem?, List.getElem?_eq_getElem (by rw [← lst_size]; exact hpos), lst_get A 0 hpos, e]
    have hla : A[A.size - 1] ≠ 47 := by
      intro e
      apply hcl.last
      rw [List.getLast?_eq_getElem?, ← lst_size, List.getElem?_eq_getElem (by rw [← lst_size]; omega), lst_get A _ (by omega), e]
    have e2 : ((A[0].toNat : Int) == 47) = false := byte_no (n := 47) hh (by decide)
    obtain ⟨z, hz⟩ : ∃ z, z = A.size - 1 := ⟨_, rfl⟩
    have hz1 : (A.size : Int) - 1 = (z : Int) := by omega
    have hz2 : IntKind.i64.wrap ((A.size : Int) - 1) = (z : Int) := by rw [IntKind.wrap_i64]; omega
    have hz3 : z < A.size := by omega
    have e3 : ((A[z].toNat : Int) == 47) = false := byte_no (n := 47) (by subst hz; exact hla) (by decide)
    obtain ⟨L, hL⟩ : ∃ L, L = parts (lst A) := ⟨_, rfl⟩
    have hsp : Hid (split (lst A) = L) := Lib.hid (by rw [hcl.split_eq, hL])
    have hby : Hid (∀ p ∈ L, p ≠ [] ∧ p ≠ [46] ∧ p ≠ [46, 46] ∧ ∀ c ∈ p, c ≠ 47 ∧ c ≠ 0) := Lib.hid (by rw [hL]; exact fun p hp => hcl.bytes hp)
    have hjo : Hid (join L = lst A) := Lib.hid (by rw [hL]; exact hcl.joins)
    have hL0 : 0 < L.length := by rw [hL]; exact List.length_pos_iff.2 (parts_ne _)
    have hpl : Hid (∀ p ∈ L, p.length ≤ 4096) := Lib.hid (by
      intro p hp
      rw [hL] at hp
      obtain ⟨i, hi, rfl⟩ := List.mem_iff_getElem.1 hp
      have := part_len hi
      rw [← lst_size] at this
      omega)
    clear hc hcl hA hAo hne hh hla hz hL
    go_enter Tryd.func5, Tryd.ntmps5
    go_wp2_with fail
    refine (pclean_any s (by omega) w).mono ?_
    rintro e w1 ⟨rfl, b1⟩
    rw [V1.out]
    have B1 := Lib.hid b1
    clear b1
    go_wp2_with fail
    refine (pclean_any A (by omega) w1).mono ?_
    rintro e w2 ⟨rfl, b2⟩
    rw [V2.out]
    have B2 := Lib.hid (B1.out.trans (b2.mono B1.out.size))
    clear b2
    go_wp2_with fail
    refine (right_any A (by omega) w2).mono ?_
    rintro e w3 ⟨rfl, b3⟩
    rw [hR.out]
    have B3 := Lib.hid (B2.out.trans (b3.mono B2.out.size))
    clear b3
    go_wp2_with fail
    refine (psplit_any A (by omega) w3).mono ?_
    rintro e w4 ⟨a4, c4, rfl, r4, b4⟩
    rw [hsp.out] at r4 ⊢
    have B4 := Lib.hid (B3.out.trans (b4.mono B3.out.size))
    clear b4 e2 e3
    obtain ⟨N, hN⟩ : ∃ N, N = L.length := ⟨_, rfl⟩
    have HN := Lib.hid hN
    have R4 := Lib.hid r4
    have hlc := r4.le_cap
    have hcc := r4.cap_le
    obtain ⟨bb, off, rfl⟩ := r4.some_ hL0
    rw [← hN] at hlc hL0 ⊢
    clear r4 hN
    go_wp2_with fail
    go_loop [8, 9, 10] (fun j i _ => ∃ (k : Nat) (J : ByteArray), i = .int .i64 (k : Int) ∧ j = .string J ∧ k ≤ N ∧ J.size ≤ 4096 ∧ Hid (lst J = join (L.take k))) (fun _ i _ => N - (intOf i).toNat)
    case atStart => exact ⟨0, ⟨#[]⟩, rfl, rfl, Nat.zero_le _, by decide, Lib.hid (by simp [join, lst])⟩
    case round =>
      obtain ⟨k, J, rfl, rfl, hk, hJ, HJ⟩ := hrel
      by_cases hlt : k < N
      · have hkl : k < L.length := by rw [← HN.out]; exact hlt
        have c0 := vals_get R4.out k hkl
        obtain ⟨p, hp⟩ : ∃ p : ByteArray, p = tx (L[k]) := ⟨_, rfl⟩
        have hpp : L[k] = lst p := by rw [hp, lst_tx]
        rw [← hp] at c0
        obtain ⟨q0, q1, q2, q3⟩ := hby.out L[k] (List.getElem_mem _)
        have q4 := hpl.out L[k] (List.getElem_mem _)
        rw [hpp] at q0 q1 q2 q3 q4
        rw [← lst_size] at q4
        obtain ⟨d0, d1⟩ := str_ne q0
        have d2 : (p.toList == [46]) = false := by rw [toList_lst]; simpa using q1
        have d3 : (p.toList == [46, 46]) = false := by rw [toList_lst]; simpa using q2
        have hnx := join_take_next hkl
        rw [hpp] at hnx
        have hsz := join_take_len L (k + 1)
        rw [hjo.out, ← lst_size] at hsz
        have HQ3 := Lib.hid q3
        have HNX := Lib.hid hnx
        have HSZ := Lib.hid hsz
        clear hp hpp q0 q1 q2 q3 hnx hsz hkl
        go_wp2_with fail
        clear d0 d1 d2 d3
        go_loop [10] (fun x => ∃ q : Nat, x = .int .i64 (q : Int) ∧ q ≤ p.size) (fun x => p.size - (intOf x).toNat)
        case atStart => exact ⟨0, rfl, Nat.zero_le _⟩
        case round =>
          obtain ⟨q, rfl, hq⟩ := hrel
          by_cases hqt : q < p.size
          · obtain ⟨m1, m2⟩ := HQ3.out p[q] (by rw [← lst_get p q hqt]; exact List.getElem_mem _)
            have d1 : ((p[q].toNat : Int) == 47) = false := byte_no (n := 47) m1 (by decide)
            have d2 : ((p[q].toNat : Int) == 0) = false := byte_no (n := 0) m2 (by decide)
            clear m1 m2
            go_wp2_with fail
            go_round
            case rel => exact ⟨q + 1, by simp, by omega⟩
            case measure => simp [intOf] <;> omega
          · by_cases hk0 : k = 0
            · have hk1 : decide (0 < k) = false := by simp; omega
              have HK0 := Lib.hid hk0
              have HO3 : Hid (∀ Q : ByteArray, Q = J ++ p → lst Q = join (L.take (k + 1)) ∧ Q.size ≤ 4096) := Lib.hid fun Q e => by
                subst e
                have e9 : lst (J ++ p) = join (L.take (k + 1)) := by
                  rw [HNX.out, if_pos HK0.out, lst_append, HJ.out, HK0.out]
                  simp [join]
                refine ⟨e9, ?_⟩
                rw [lst_size, e9]
                have := HSZ.out
                omega
              clear hk0
              go_wp2_with fail
              go_round
              case rel => exact ⟨k + 1, _, by simp, rfl, by omega, (HO3.out _ rfl).2, Lib.hid (HO3.out _ rfl).1⟩
              case measure => simp [intOf] <;> omega
            · have HO3 : Hid (∀ Q : ByteArray, Q = J ++ ⟨#[47]⟩ ++ p → lst Q = join (L.take (k + 1)) ∧ Q.size ≤ 4096) := Lib.hid fun Q e => by
                subst e
                have e9 : lst (J ++ ⟨#[47]⟩ ++ p) = join (L.take (k + 1)) := by rw [HNX.out, if_neg hk0, lst_append, lst_append, lst_47, HJ.out, List.append_assoc]; rfl
                refine ⟨e9, ?_⟩
                rw [lst_size, e9]
                have := HSZ.out
                omega
              have hk1 : 0 < k := by omega
              go_wp2_with fail
              go_round
              case rel => exact ⟨k + 1, _, by simp, rfl, by omega, (HO3.out _ rfl).2, Lib.hid (HO3.out _ rfl).1⟩
              case measure => simp [intOf] <;> omega
      · obtain rfl : k = N := by omega
        obtain rfl : J = A := lst_inj (by rw [HJ.out, HN.out, List.take_length, hjo.out])
        obtain ⟨y, hy⟩ : ∃ y, y + 1 = k := ⟨k - 1, by omega⟩
        have c0 := vals_get R4.out y (by rw [← HN.out]; omega)
        obtain ⟨p, hp⟩ : ∃ p : ByteArray, p = tx (L[y]'(by rw [← HN.out]; omega)) := ⟨_, rfl⟩
        rw [← hp] at c0
        have hlast : tx (lastOf (lst J)) = p := by
          have h9 : y < L.length := by rw [← HN.out]; omega
          have h8 : L.length - 1 = y := by rw [← HN.out]; omega
          unfold lastOf
          rw [hsp.out, hp, List.getLastD_eq_getLast?, List.getLast?_eq_getElem?, h8, List.getElem?_eq_getElem h9]
          rfl
        have f1 : IntKind.i64.wrap ((k : Int) - 1) = (y : Int) := by rw [IntKind.wrap_i64]; omega
        have f2 : (J.toList == J.toList) = true := by simp
        have f3 : decide (0 < k) = true := by simp; omega
        have f4 : (p.toList == p.toList) = true := by simp
        have f5 : (y : Int) < (k : Int) := by omega
        have HLA := Lib.hid hlast
        have hbl := RowIn.lt R4.out (by rw [← HN.out]; exact hL0)
        have cc : ∀ P : Later w4, P.at'.cell? ⟨bb, off + y, none⟩ = some (.string p) := fun P => (P.kept.cell (p := ⟨bb, off + y, none⟩) hbl).trans c0
        clear hlast hp c0 hbl HJ hy
        go_wp2_with (refine wp_region_later (by kernel_rfl) (by kernel_rfl) ?_)
        repeat (go_big_quiet_step (first | (go_at_call 8; refine later_of (v := .bool true) (told_any _)) | (go_at_call 16; refine later_of (v := .string p) (by rw [← HLA.out]; exact last_any J (by omega) _))))
        refine wpQuiet_nil ?_
        intro P
        have B9 := Lib.hid (B4.out.trans (P.kept.mono B4.out.size))
        generalize P.at' = W9 at *
        go_wp2_with fail
        go_ret
        exact ⟨rfl, B9.out⟩
end Go.Proofs.YtkimmabndmceoaaDoor.PaC
