/-
  The document's Clean.
-/
import Derived.Test.YtkimmabndmceoaaDoorPaH
import Derived.Test.YtkimmabndmceoaaDoorPaE
namespace Go.Proofs.YtkimmabndmceoaaDoor.PaC
open Go.RowKit Go.My PaMath

/-- What Clean tells. -/
def cleanV (l : List UInt8) : Value := match clean l with
  | some o => .tuple #[.string (tx o), .bool true]
  | none => .tuple #[.string ⟨#[]⟩, .bool false]
theorem cleanV_none {l : List UInt8} (h : clean l = none) : cleanV l = .tuple #[.string ⟨#[]⟩, .bool false] := by unfold cleanV; rw [h]
theorem cleanV_some {l o : List UInt8} (h : clean l = some o) : cleanV l = .tuple #[.string (tx o), .bool true] := by unfold cleanV; rw [h]
theorem clean_join_none {s : List UInt8} (h : join ((parts s).filter kept) = [] ∨ 4096 < (join ((parts s).filter kept)).length) : clean s = none := by
  unfold clean
  rw [if_pos h]
  split <;> rfl
theorem clean_join_some {s : List UInt8} (h1 : ¬ (s = [] ∨ s.head? = some 47 ∨ 0 ∈ s ∨ [46, 46] ∈ parts s)) (h : ¬ (join ((parts s).filter kept) = [] ∨ 4096 < (join ((parts s).filter kept)).length)) : clean s = some (join ((parts s).filter kept)) := by
  unfold clean
  rw [if_neg h1, if_neg h]
theorem str_ne {s : ByteArray} (h : lst s ≠ []) : s.toList.isEmpty = false ∧ s.toList ≠ [] := by
  have h1 : s.toList ≠ [] := by rw [toList_lst]; exact h
  exact ⟨by simpa using h1, h1⟩
set_option maxRecDepth 100000 in
set_option maxHeartbeats 4000000 in
theorem rclean_any (s : ByteArray) (hs : s.size ≤ 1000000) (w : World) :
    Calls Tryd.prog 10 #[.string s] w fun e w' => e = .returned (cleanV (lst s)) ∧ Below w.heap.size w w' := by
  by_cases h0 : lst s = []
  · have hc : clean (lst s) = none := by unfold clean; rw [if_pos (.inl h0)]
    rw [cleanV_none hc]
    obtain rfl : s = ⟨#[]⟩ := lst_inj h0
    clear hc h0
    go_enter Tryd.func10, Tryd.ntmps10
    go_wp2_with fail
    go_ret2
    exact ⟨rfl, Below.refl _ _⟩
  obtain ⟨e0, e1⟩ := str_ne h0
  have hpos : 0 < s.size := by rw [lst_size]; exact List.length_pos_iff.2 h0
  have hh : (lst s).head? = some s[0] := by
    rw [← lst_get s 0 hpos, List.head?_eq_getElem?, List.getElem?_eq_getElem]
  by_cases h1 : (lst s).head? = some 47
  · have hc : clean (lst s) = none := by unfold clean; rw [if_pos (.inr (.inl h1))]
    have HC := Lib.hid (cleanV_none hc)
    have e2 : ((s[0].toNat : Int) == 47) = true := by
      rw [hh] at h1
      injection h1 with h1
      rw [h1]; rfl
    clear hc h1 hh h0
    go_enter Tryd.func10, Tryd.ntmps10
    go_wp2_with fail
    go_ret2
    exact ⟨by rw [HC.out]; rfl, Below.refl _ _⟩
  have e2 : ((s[0].toNat : Int) == 47) = false := by
    rw [beq_eq_false_iff_ne]
    intro e
    apply h1
    rw [hh]
    congr 1
    exact UInt8.toNat_inj.1 (by have : (47 : UInt8).toNat = 47 := rfl; omega)
  have H0 := Lib.hid h0
  have H1 := Lib.hid h1
  clear h0 h1 hh
  go_enter Tryd.func10, Tryd.ntmps10
  go_wp2_with fail
  clear e2
  go_loop [4] (fun i => ∃ k : Nat, i = .int .i64 (k : Int) ∧ k ≤ s.size ∧ Hid (∀ j (h : j < s.size), j < k → s[j] ≠ 0)) (fun i => s.size - (intOf i).toNat)
  case atStart => exact ⟨0, rfl, Nat.zero_le _, Lib.hid (fun j _ h => by omega)⟩
  case round =>
    obtain ⟨k, rfl, hk, HZ⟩ := hrel
    by_cases hlt : k < s.size
    · by_cases hz : s[k] = 0
      · have hc : clean (lst s) = none := by
          unfold clean
          rw [if_pos]
          refine .inr (.inr (.inl ?_))
          rw [← hz, ← lst_get s k hlt]
          exact List.getElem_mem _
        have HC := Lib.hid (cleanV_none hc)
        have e3 : ((s[k].toNat : Int) == 0) = true := by rw [hz]; rfl
        clear hc hz
        go_wp2_with fail
        go_ret2
        exact ⟨by rw [HC.out]; rfl, Below.refl _ _⟩
      · have e3 : ((s[k].toNat : Int) == 0) = false := by
          rw [beq_eq_false_iff_ne]
          intro e
          exact hz (UInt8.toNat_inj.1 (by have : (0 : UInt8).toNat = 0 := rfl; omega))
        have HZ2 : Hid (∀ j (h : j < s.size), j < k + 1 → s[j] ≠ 0) := Lib.hid fun j h hj => by
          by_cases e : j = k
          · subst e; exact hz
          · exact HZ.out j h (by omega)
        clear hz
        go_wp2_with fail
        go_round
        case rel => exact ⟨k + 1, by simp, by omega, HZ2⟩
        case measure => simp [intOf] <;> omega
    · obtain rfl : k = s.size := by omega
      have HNZ : Hid (0 ∉ lst s) := Lib.hid fun hm => by
        obtain ⟨j, hj, he⟩ := List.mem_iff_getElem.1 hm
        have hj2 : j < s.size := by rw [lst_size]; exact hj
        exact HZ.out j hj2 hj2 (by rw [← lst_get s j hj2]; exact he)
      clear hk HZ
      go_wp2_with fail
      refine (rparts_any s hs w).mono ?_
      rintro e w1 ⟨a, c, rfl, hR, hb⟩
      have hcl := hR.le_cap
      have hcc := hR.cap_le
      have hpn := List.length_pos_iff.2 (parts_ne (lst s))
      obtain ⟨bb, off, rfl⟩ := hR.some_ hpn
      obtain ⟨N, hN⟩ : ∃ N, N = (parts (lst s)).length := ⟨_, rfl⟩
      have HN := Lib.hid hN
      have HR := Lib.hid hR
      have HB := Lib.hid hb
      rw [← hN] at hcl ⊢
      clear hR hb hN hpn
      go_wp2_with fail
      go_loop [5, 7] (fun o i => ∃ (k : Nat) (out : ByteArray), i = .int .i64 (k : Int) ∧ o = .string out ∧ k ≤ N ∧ out.size ≤ 1000000 ∧ Hid (lst out = sofar (lst s) k) ∧ Hid ([46, 46] ∉ (parts (lst s)).take k)) (fun _ i => N - (intOf i).toNat)
      case atStart => exact ⟨0, ⟨#[]⟩, rfl, rfl, Nat.zero_le _, by decide, Lib.hid (sofar_zero _).symm, Lib.hid (by simp)⟩
      case round =>
        obtain ⟨k, out, rfl, rfl, hk, ho, HO, HD⟩ := hrel
        by_cases hlt : k < N
        · have hkn : k < (parts (lst s)).length := by rw [← HN.out]; exact hlt
          have c0 := vals_get HR.out k hkn
          obtain ⟨p, hp⟩ : ∃ p : ByteArray, p = tx ((parts (lst s))[k]) := ⟨_, rfl⟩
          have hpl : (parts (lst s))[k] = lst p := by rw [hp, lst_tx]
          rw [← hp] at c0
          have hps : p.size ≤ 1000000 := by
            have := part_len hkn
            rw [lst_size] at hs ⊢
            rw [← hpl]
            omega
          by_cases hd : lst p = [46, 46]
          · have hc : clean (lst s) = none := by
              unfold clean
              rw [if_pos]
              refine .inr (.inr (.inr ?_))
              rw [← hd, ← hpl]
              exact List.getElem_mem _
            have HC := Lib.hid (cleanV_none hc)
            have e3 : (p.toList == [46, 46]) = true := by rw [toList_lst, hd]; rfl
            clear hc hd hp hpl hkn
            go_wp2_with fail
            go_ret2
            exact ⟨by rw [HC.out]; rfl, HB.out⟩
          have HD2 : Hid ([46, 46] ∉ (parts (lst s)).take (k + 1)) := Lib.hid (by
            rw [take_snoc hkn]
            intro hm
            rcases List.mem_append.1 hm with hm | hm
            · exact HD.out hm
            · simp only [List.mem_singleton] at hm
              exact hd (by rw [← hpl, hm]))
          cases hkp : kept (lst p)
          · have HO2 : Hid (lst out = sofar (lst s) (k + 1)) := Lib.hid (by rw [sofar_skip hkn (by rw [hpl]; exact hkp)]; exact HO.out)
            have hcase : lst p = [] ∨ lst p = [46] := by
              by_cases h : lst p = []
              · exact .inl h
              · by_cases h' : lst p = [46]
                · exact .inr h'
                · have := kept_spec.2 ⟨h, h'⟩
                  rw [hkp] at this
                  cases this
            rcases hcase with h | h
            · obtain rfl : p = ⟨#[]⟩ := lst_inj h
              clear hp hpl hd hkp h hkn
              go_wp2_with fail
              go_round
              case rel => exact ⟨k + 1, out, by simp, rfl, by omega, ho, HO2, HD2⟩
              case measure => simp [intOf] <;> omega
            · obtain rfl : p = ⟨#[46]⟩ := lst_inj h
              clear hp hpl hd hkp h hkn
              go_wp2_with fail
              go_round
              case rel => exact ⟨k + 1, out, by simp, rfl, by omega, ho, HO2, HD2⟩
              case measure => simp [intOf] <;> omega
          · obtain ⟨k0, k1⟩ := kept_spec.1 hkp
            obtain ⟨e3, e4⟩ := str_ne k0
            have e5 : (p.toList == [46, 46]) = false := by rw [toList_lst]; simpa using hd
            have e6 : (p.toList == [46]) = false := by rw [toList_lst]; simpa using k1
            have hmore := sofar_more hkn (by rw [hpl]; exact hkp)
            have hlen2 := sofar_len (lst s) (k + 1)
            rw [hpl] at hmore
            rw [← lst_size] at hlen2
            by_cases hq : lst out = []
            · obtain rfl : out = ⟨#[]⟩ := lst_inj hq
              have HO2 : Hid (lst p = sofar (lst s) (k + 1)) := Lib.hid (by rw [hmore, if_pos (by rw [← HO.out]; rfl)])
              have HO3 : Hid (∀ q : ByteArray, q = ⟨#[]⟩ ++ p → lst q = sofar (lst s) (k + 1) ∧ q.size ≤ 1000000) := Lib.hid fun q e => by
                subst e
                rw [lst_size, lst_append, lst_empty, List.nil_append, ← lst_size]
                exact ⟨HO2.out, hps⟩
              clear hmore hlen2 hq hp hpl hd hkp hkn k0 k1
              go_wp2_with fail
              go_round
              case rel => exact ⟨k + 1, _, by simp, rfl, by omega, (HO3.out _ rfl).2, Lib.hid (HO3.out _ rfl).1, HD2⟩
              case measure => simp [intOf] <;> omega
            · obtain ⟨f0, f1⟩ := str_ne hq
              have HO3 : Hid (∀ q : ByteArray, q = out ++ ⟨#[47]⟩ ++ p → lst q = sofar (lst s) (k + 1) ∧ q.size ≤ 1000000) := Lib.hid fun q e => by
                subst e
                have e9 : lst (out ++ ⟨#[47]⟩ ++ p) = sofar (lst s) (k + 1) := by
                  rw [hmore, if_neg (by rw [← HO.out]; exact hq), lst_append, lst_append, lst_47, HO.out, List.append_assoc]; rfl
                refine ⟨e9, ?_⟩
                rw [lst_size, e9]
                omega
              clear hmore hlen2 hq hp hpl hd hkp hkn k0 k1
              go_wp2_with fail
              go_round
              case rel => exact ⟨k + 1, _, by simp, rfl, by omega, (HO3.out _ rfl).2, Lib.hid (HO3.out _ rfl).1, HD2⟩
              case measure => simp [intOf] <;> omega
        · obtain rfl : k = N := by omega
          have hj : lst out = join ((parts (lst s)).filter kept) := by rw [HO.out, HN.out, sofar_end]
          have hnd : [46, 46] ∉ parts (lst s) := by have := HD.out; rw [HN.out, List.take_length] at this; exact this
          by_cases hq : lst out = []
          · obtain rfl : out = ⟨#[]⟩ := lst_inj hq
            have HC := Lib.hid (cleanV_none (clean_join_none (s := lst s) (.inl (by rw [← hj]; rfl))))
            clear hj hnd hq
            go_wp2_with fail
            go_ret2
            exact ⟨by rw [HC.out]; rfl, HB.out⟩
          · obtain ⟨f0, f1⟩ := str_ne hq
            by_cases hl : 4096 < out.size
            · have HC := Lib.hid (cleanV_none (clean_join_none (s := lst s) (.inr (by rw [← hj, ← lst_size]; exact hl))))
              clear hj hnd hq
              go_wp2_with fail
              go_ret2
              exact ⟨by rw [HC.out]; rfl, HB.out⟩
            · have HC := Lib.hid (cleanV_some (clean_join_some (s := lst s) (by simp only [not_or]; exact ⟨H0.out, H1.out, HNZ.out, hnd⟩) (by rw [← hj]; simp only [not_or]; exact ⟨hq, by rw [← lst_size]; exact hl⟩)))
              rw [← hj, tx_lst] at HC
              clear hj hnd hq
              go_wp2_with fail
              go_ret2
              exact ⟨by rw [HC.out]; rfl, HB.out⟩
end Go.Proofs.YtkimmabndmceoaaDoor.PaC
