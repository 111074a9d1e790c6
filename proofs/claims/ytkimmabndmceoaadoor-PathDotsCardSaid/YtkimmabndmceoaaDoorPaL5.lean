/-
  PathDots' law.
-/
import Derived.Test.YtkimmabndmceoaaDoorPaL1
import Derived.Test.YtkimmabndmceoaaDoorPaDt
namespace Go.Proofs.YtkimmabndmceoaaDoor.PaC
open Go.RowKit Go.My PaMath

theorem lst_app_size {a b : ByteArray} : (a ++ b).size = a.size + b.size := ByteArray.size_append
set_option maxRecDepth 100000 in
set_option maxHeartbeats 4000000 in
theorem dots_any (mid : ByteArray) (hm : lst mid ≠ []) (hms : mid.size ≤ 10) (L : List (List UInt8)) (k gl gk : Nat) (a : Option Addr) (c : Nat) (hk : k ≤ L.length) (hs : sum L ≤ 10000) (W : World)
    (hl : Blk W gl 27 #[.slice a L.length c]) (hb : Blk W gk 3 #[.int .i64 (k : Int)]) (hR : RowIn W a L.length c (vals L)) :
    Calls Tryd.prog 20 #[.string mid, .pointer (some ⟨gl, 0, none⟩), .pointer (some ⟨gk, 0, none⟩)] W fun e w' => e = .returned (.string (tx (ends (put L k (lst mid))))) ∧ W = w' := by
  obtain ⟨e0, e1⟩ := str_ne hm
  obtain ⟨N, hN⟩ : ∃ N, N = L.length := ⟨_, rfl⟩
  have HN := Lib.hid hN
  have HR := Lib.hid hR
  have hlc := hR.le_cap
  have hcc := hR.cap_le
  rw [← hN] at hlc hl hk
  have cl : W.cell? ⟨gl, 0, none⟩ = some (.slice a N c) := hl.cell 0
  have ck : W.cell? ⟨gk, 0, none⟩ = some (.int .i64 (k : Int)) := hb.cell 0
  have hNs : N ≤ 10000 := by
    have h1 : ∀ l : List (List UInt8), l.length ≤ sum l := by
      intro l
      induction l with
      | nil => simp
      | cons p r ih => rw [sum]; simp; omega
    have := h1 L
    omega
  have hfin : ends (put L k (lst mid)) = gg L k (lst mid) (N + 1) := by rw [hN]; exact (gg_last _ (by omega)).symm
  rw [hfin]
  have HG : Hid (∀ i, (gg L k (lst mid) i).length ≤ 10011) := Lib.hid fun i => by
    have := gg_len L k (lst mid) i
    rw [← lst_size] at this
    omega
  obtain ⟨F, hF⟩ : ∃ F, F = tx (gg L k (lst mid) (N + 1)) := ⟨_, rfl⟩
  rw [← hF]
  have HF := Lib.hid hF
  clear hm hR hl hb hfin hN hF
  go_enter Tryd.func20, Tryd.ntmps20
  go_wp2_with fail
  go_loop [5, 6] (fun t i => ∃ (j : Nat) (T : ByteArray), i = .int .i64 (j : Int) ∧ t = .string T ∧ j ≤ N + 1 ∧ T.size ≤ 10011 ∧ Hid (lst T = gg L k (lst mid) j)) (fun _ i => N + 1 - (intOf i).toNat)
  case atStart => exact ⟨0, ⟨#[]⟩, rfl, rfl, Nat.zero_le _, by decide, Lib.hid (gg_zero _ _ _).symm⟩
  case round =>
    obtain ⟨j, T, rfl, rfl, hj, hT, HT⟩ := hrel
    by_cases hjn : j ≤ N
    · have close : ∀ Q : ByteArray, lst Q = gg L k (lst mid) (j + 1) → Hid (lst Q = gg L k (lst mid) (j + 1)) ∧ Q.size ≤ 10011 := fun Q h => ⟨Lib.hid h, by rw [lst_size, h]; exact HG.out _⟩
      have HC := Lib.hid close
      clear close
      by_cases hjk : j = k
      · have g1 : ((j : Int) == (k : Int)) = true := by simp; omega
        by_cases hlt : j < N
        · obtain ⟨bb, off, rfl, c0⟩ := vals_ex HR.out j (by have := HN.out; omega)
          obtain ⟨p, hp⟩ : ∃ p : ByteArray, p = tx (L[j]'(by have := HN.out; omega)) := ⟨_, rfl⟩
          rw [← hp] at c0
          have hps : p.size ≤ 10000 := by
            have h4 := sum_take L (j + 1)
            rw [hp, tx_size]
            have h5 : sum (L.take (j + 1)) = sum (L.take j) + ((L[j]'(by have := HN.out; omega)).length + 1) := by
              rw [take_snoc (by have := HN.out; omega), sum_app]; rfl
            omega
          have HQ : Hid (∀ Q : ByteArray, Q = T ++ mid ++ ⟨#[47]⟩ ++ p ++ ⟨#[47]⟩ → lst Q = gg L k (lst mid) (j + 1)) := Lib.hid fun Q e => by
            subst hjk
            rw [e, gg_at (by have := HN.out; omega), lst_append, lst_append, lst_append, lst_append, lst_47, HT.out, hp, lst_tx]
          clear hp hjk
          go_wp2_with fail
          go_round
          case rel => exact ⟨j + 1, _, by simp, rfl, by omega, (HC.out _ (HQ.out _ rfl)).2, (HC.out _ (HQ.out _ rfl)).1⟩
          case measure => simp [intOf] <;> omega
        · have HQ : Hid (∀ Q : ByteArray, Q = T ++ mid ++ ⟨#[47]⟩ → lst Q = gg L k (lst mid) (j + 1)) := Lib.hid fun Q e => by
            have h1 : k = L.length := by have := HN.out; omega
            have h2 : j = L.length := by have := HN.out; omega
            rw [e, lst_append, lst_append, lst_47, HT.out, h1, h2, gg_at_end]
          clear hjk
          go_wp2_with fail
          go_round
          case rel => exact ⟨j + 1, _, by simp, rfl, by omega, (HC.out _ (HQ.out _ rfl)).2, (HC.out _ (HQ.out _ rfl)).1⟩
          case measure => simp [intOf] <;> omega
      · have g1 : ((j : Int) == (k : Int)) = false := by simp; omega
        by_cases hlt : j < N
        · obtain ⟨bb, off, rfl, c0⟩ := vals_ex HR.out j (by have := HN.out; omega)
          obtain ⟨p, hp⟩ : ∃ p : ByteArray, p = tx (L[j]'(by have := HN.out; omega)) := ⟨_, rfl⟩
          rw [← hp] at c0
          have hps : p.size ≤ 10000 := by
            have h4 := sum_take L (j + 1)
            rw [hp, tx_size]
            have h5 : sum (L.take (j + 1)) = sum (L.take j) + ((L[j]'(by have := HN.out; omega)).length + 1) := by
              rw [take_snoc (by have := HN.out; omega), sum_app]; rfl
            omega
          have HQ : Hid (∀ Q : ByteArray, Q = T ++ p ++ ⟨#[47]⟩ → lst Q = gg L k (lst mid) (j + 1)) := Lib.hid fun Q e => by
            rw [e, gg_other (by have := HN.out; omega) hjk, lst_append, lst_append, lst_47, HT.out, hp, lst_tx]
          clear hp
          go_wp2_with fail
          go_round
          case rel => exact ⟨j + 1, _, by simp, rfl, by omega, (HC.out _ (HQ.out _ rfl)).2, (HC.out _ (HQ.out _ rfl)).1⟩
          case measure => simp [intOf] <;> omega
        · have HQ : Hid (lst T = gg L k (lst mid) (j + 1)) := Lib.hid (by
            have h2 : j = L.length := by have := HN.out; omega
            rw [HT.out, h2, gg_other_end (by omega)])
          go_wp2_with fail
          go_round
          case rel => exact ⟨j + 1, T, by simp, rfl, by omega, hT, HQ⟩
          case measure => simp [intOf] <;> omega
    · obtain rfl : j = N + 1 := by omega
      have hTF : T = F := lst_inj (by rw [HT.out, HF.out, lst_tx])
      subst hTF
      go_wp2_with fail
      go_ret
      exact ⟨rfl, rfl⟩
theorem rem_any (z : Int) (m : Nat) (h : 0 < m) (h2 : m ≤ 1000000) : ∃ q : Nat, q < m ∧ (IntKind.u64.wrap z).tmod (m : Int) = (q : Int) := by
  have h0 : 0 ≤ IntKind.u64.wrap z := by rw [IntKind.wrap_u64]; omega
  rw [Int.tmod_eq_emod_of_nonneg h0]
  have h1 := Int.emod_nonneg (IntKind.u64.wrap z) (show (m : Int) ≠ 0 by omega)
  have h3 := Int.emod_lt_of_pos (IntKind.u64.wrap z) (show (0 : Int) < m by omega)
  generalize IntKind.u64.wrap z % (m : Int) = r at *
  exact ⟨r.toNat, by omega, by omega⟩
theorem pclean_none (s : ByteArray) (hs : s.size ≤ 1000000) (h : clean (lst s) = none) (w : World) :
    Calls Tryd.prog 9 #[.string s] w fun e w' => e = .returned (.tuple #[.string ⟨#[]⟩, .bool false]) ∧ Below w.heap.size w w' := pclean_no s hs h w
set_option maxRecDepth 100000 in
set_option maxHeartbeats 4000000 in
theorem dots_law (s : ByteArray) (z : Int) (w : World) :
    Calls Tryd.prog 7 #[.string s, .int .i64 z] w fun e w' => e = .returned (.bool true) ∧ Below w.heap.size w w' := by
  by_cases hl : 100 < s.size
  · go_enter Tryd.func7, Tryd.ntmps7
    go_wp2_with fail
    refine (told_any w).mono ?_
    rintro e w1 ⟨rfl, hb⟩
    go_wp2_with fail
    go_ret
    exact ⟨rfl, hb⟩
  cases hc : clean (lst s) with
  | none =>
    have HV := Lib.hid (cleanV_none hc)
    clear hc
    go_enter Tryd.func7, Tryd.ntmps7
    go_wp2_with fail
    refine (pclean_any s (by omega) w).mono ?_
    rintro e w1 ⟨rfl, b1⟩
    rw [HV.out]
    have B1 := Lib.hid b1
    clear b1
    go_wp2_with fail
    refine (told_any w1).mono ?_
    rintro e w2 ⟨rfl, b2⟩
    have B2 := Lib.hid (B1.out.trans (b2.mono B1.out.size))
    clear b2
    go_wp2_with fail
    go_ret
    exact ⟨rfl, B2.out⟩
  | some o =>
    obtain ⟨A, hA⟩ : ∃ A, A = tx o := ⟨_, rfl⟩
    have hAo : lst A = o := by rw [hA, lst_tx]
    have hcl := clean_some hc
    have V1 : Hid (cleanV (lst s) = .tuple #[.string A, .bool true]) := Lib.hid (by rw [cleanV_some hc, hA])
    rw [← hAo] at hc hcl
    have hlen : A.size ≤ 100 := by
      have h1 := hcl.o_eq
      have h2 := sofar_len (lst s) (parts (lst s)).length
      rw [sofar_end, ← h1, ← lst_size, ← lst_size] at h2
      omega
    obtain ⟨L, hL⟩ : ∃ L, L = parts (lst A) := ⟨_, rfl⟩
    have hsp : Hid (split (lst A) = L) := Lib.hid (by rw [hcl.split_eq, hL])
    have hsum : sum L = A.size + 1 := by rw [hL, sum_parts, lst_size]
    have hfew : L.length ≤ 101 := by rw [hL]; have := parts_few (lst A); rw [← lst_size] at this; omega
    obtain ⟨M, hM⟩ : ∃ M, M = L.length + 1 := ⟨_, rfl⟩
    obtain ⟨k, hk, hkq⟩ := rem_any z M (by omega) (by omega)
    have T1 : Hid (∀ Q : ByteArray, Q = tx (ends (put L k [46])) → Q.size ≤ 1000 ∧ cleanV (lst Q) = .tuple #[.string A, .bool true]) := Lib.hid fun Q e => by
      subst e
      refine ⟨by rw [tx_size, ends_len, put_sum]; simp; omega, ?_⟩
      rw [lst_tx, hL, cleanV_some (put_dot hcl k), tx_lst]
    have T2 : Hid (∀ Q : ByteArray, Q = tx (ends (put L k [46, 46])) → Q.size ≤ 1000 ∧ clean (lst Q) = none) := Lib.hid fun Q e => by
      subst e
      refine ⟨by rw [tx_size, ends_len, put_sum]; simp; omega, ?_⟩
      rw [lst_tx, hL]
      exact put_dots (lst A) k
    have T3 : Hid (∀ Q : ByteArray, Q = ⟨#[47]⟩ ++ A → Q.size ≤ 1000 ∧ clean (lst Q) = none) := Lib.hid fun Q e => by
      subst e
      refine ⟨by rw [lst_app_size]; have e3 : (⟨#[47]⟩ : ByteArray).size = 1 := rfl; omega, ?_⟩
      rw [lst_append, lst_47]
      exact clean_abs (lst A)
    have T4 : Hid (∀ Q : ByteArray, Q = A ++ ⟨#[0]⟩ → Q.size ≤ 1000 ∧ clean (lst Q) = none) := Lib.hid fun Q e => by
      subst e
      refine ⟨by rw [lst_app_size]; have e3 : (⟨#[0]⟩ : ByteArray).size = 1 := rfl; omega, ?_⟩
      rw [lst_append]
      exact clean_nul (lst A)
    obtain ⟨x, hx1, hx2⟩ := put_three hcl k (by rw [← lst_size]; omega)
    obtain ⟨X, hX⟩ : ∃ X, X = tx x := ⟨_, rfl⟩
    have hXs : X.size = A.size + 4 := by rw [hX, tx_size, hx2, lst_size]
    have T5 : Hid (∀ Q : ByteArray, Q = tx (ends (put L k [46, 46, 46])) → Q.size ≤ 1000 ∧ cleanV (lst Q) = .tuple #[.string X, .bool true]) := Lib.hid fun Q e => by
      subst e
      refine ⟨by rw [tx_size, ends_len, put_sum]; simp; omega, ?_⟩
      rw [lst_tx, hL, cleanV_some hx1, hX]
    have HS : Hid (sum L ≤ 10000) := Lib.hid (by omega)
    have HK : Hid (k ≤ L.length) := Lib.hid (by omega)
    obtain ⟨N, hN⟩ : ∃ N, N = L.length := ⟨_, rfl⟩
    have HN := Lib.hid hN
    have hMb : M ≤ 200 := by omega
    have f2 : IntKind.u64.wrap (M : Int) = (M : Int) := by rw [IntKind.wrap_u64]; omega
    have f4 : (N : Int) + 1 = (M : Int) := by omega
    have f5 : ¬ (M : Int) = 0 := by omega
    have HXS := Lib.hid hXs
    clear hc hcl hA hAo hL hsum hM hx1 hx2 hX hN hXs
    go_enter Tryd.func7, Tryd.ntmps7
    go_wp2_with fail
    refine (pclean_any s (by omega) w).mono ?_
    rintro e w1 ⟨rfl, b1⟩
    rw [V1.out]
    have B1 := Lib.hid b1
    clear b1
    go_wp2_with fail
    refine (psplit_any A (by omega) w1).mono ?_
    rintro e w2 ⟨a2, c2, rfl, r2, b2⟩
    rw [hsp.out] at r2 ⊢
    have R2 := Lib.hid r2
    have B2 := Lib.hid (B1.out.trans (b2.mono B1.out.size))
    rw [← HN.out]
    clear b2 r2
    go_wp2_with fail
    clear f2 f4 f5 hkq
    obtain ⟨W, hW⟩ : ∃ W, W = (w2.alloc (.cells #[.slice a2 N c2] 27)).alloc (.cells #[.int .i64 (k : Int)] 3) := ⟨_, rfl⟩
    have bl : Blk W w2.heap.size 27 #[.slice a2 L.length c2] := by rw [hW, ← HN.out]; exact (Blk.new _ _ _).alloc _
    have bk : Blk W (w2.heap.size + 1) 3 #[.int .i64 (k : Int)] := by
      have := Blk.new (w2.alloc (.cells #[.slice a2 N c2] 27)) 3 #[.int .i64 (k : Int)]
      rw [World.size_alloc] at this
      rw [hW]; exact this
    have hWb : Below w2.heap.size w2 W := by rw [hW]; exact ((Below.refl _ _).alloc (Nat.le_refl _) _).alloc (by simp) _
    have HRW := Lib.hid (R2.out.below (Nat.le_refl _) hWb)
    have B3 := Lib.hid (B2.out.trans (hWb.mono B2.out.size))
    have HC : Hid (∀ (W' : World) (mid : ByteArray), Below W.heap.size W W' → lst mid ≠ [] → mid.size ≤ 10 → Calls Tryd.prog 20 #[.string mid, .pointer (some ⟨w2.heap.size, 0, none⟩), .pointer (some ⟨w2.heap.size + 1, 0, none⟩)] W' fun e w' => e = .returned (.string (tx (ends (put L k (lst mid))))) ∧ W' = w') :=
      Lib.hid fun W' mid hb h1 h2 => dots_any mid h1 h2 L k _ _ a2 c2 HK.out HS.out W' (bl.same (hb.block _ bl.lt)) (bk.same (hb.block _ bk.lt)) (HRW.out.below (Nat.le_refl _) hb)
    rw [← hW]
    clear hW bl bk hWb
    obtain ⟨Q1, hQ1⟩ : ∃ Q, Q = tx (ends (put L k (lst ⟨#[46]⟩))) := ⟨_, rfl⟩
    obtain ⟨t1, t1'⟩ := T1.out Q1 hQ1
    have H1 := Lib.hid hQ1
    have K1 := Lib.hid t1'
    clear hQ1 t1'
    refine (HC.out W ⟨#[46]⟩ (Below.refl _ _) (by decide) (by decide)).mono ?_
    rintro e w3 ⟨rfl, rfl⟩
    rw [← H1.out]
    go_wp2_with fail
    refine (pclean_any Q1 (by omega) W).mono ?_
    rintro e w4 ⟨rfl, b4⟩
    rw [K1.out]
    have B4 := Lib.hid (B3.out.trans (b4.mono B3.out.size))
    have D4 := Lib.hid b4
    clear b4
    go_wp2_with fail
    obtain ⟨Q2, hQ2⟩ : ∃ Q, Q = tx (ends (put L k (lst ⟨#[46, 46]⟩))) := ⟨_, rfl⟩
    obtain ⟨t2, t2'⟩ := T2.out Q2 hQ2
    have H2 := Lib.hid hQ2
    have K2 := Lib.hid t2'
    clear hQ2 t2'
    refine (HC.out w4 ⟨#[46, 46]⟩ D4.out (by decide) (by decide)).mono ?_
    rintro e w5 ⟨rfl, rfl⟩
    rw [← H2.out]
    go_wp2_with fail
    refine (pclean_none Q2 (by omega) K2.out w4).mono ?_
    rintro e w5 ⟨rfl, b5⟩
    have B5 := Lib.hid (B4.out.trans (b5.mono B4.out.size))
    have D5 := Lib.hid (D4.out.trans (b5.mono D4.out.size))
    clear b5
    go_wp2_with fail
    obtain ⟨Q3, hQ3⟩ : ∃ Q, Q = ⟨#[47]⟩ ++ A := ⟨_, rfl⟩
    obtain ⟨t3, t3'⟩ := T3.out Q3 hQ3
    have H3 := Lib.hid hQ3
    have K3 := Lib.hid t3'
    clear hQ3 t3'
    rw [← H3.out]
    refine (pclean_none Q3 (by omega) K3.out w5).mono ?_
    rintro e w6 ⟨rfl, b6⟩
    have B6 := Lib.hid (B5.out.trans (b6.mono B5.out.size))
    have D6 := Lib.hid (D5.out.trans (b6.mono D5.out.size))
    clear b6
    go_wp2_with fail
    obtain ⟨Q4, hQ4⟩ : ∃ Q, Q = A ++ ⟨#[0]⟩ := ⟨_, rfl⟩
    obtain ⟨t4, t4'⟩ := T4.out Q4 hQ4
    have H4 := Lib.hid hQ4
    have K4 := Lib.hid t4'
    clear hQ4 t4'
    rw [← H4.out]
    refine (pclean_none Q4 (by omega) K4.out w6).mono ?_
    rintro e w7 ⟨rfl, b7⟩
    have B7 := Lib.hid (B6.out.trans (b7.mono B6.out.size))
    have D7 := Lib.hid (D6.out.trans (b7.mono D6.out.size))
    clear b7
    go_wp2_with fail
    obtain ⟨Q5, hQ5⟩ : ∃ Q, Q = tx (ends (put L k (lst ⟨#[46, 46, 46]⟩))) := ⟨_, rfl⟩
    obtain ⟨t5, t5'⟩ := T5.out Q5 hQ5
    have H5 := Lib.hid hQ5
    have K5 := Lib.hid t5'
    clear hQ5 t5'
    refine (HC.out w7 ⟨#[46, 46, 46]⟩ D7.out (by decide) (by decide)).mono ?_
    rintro e w8 ⟨rfl, rfl⟩
    rw [← H5.out]
    go_wp2_with fail
    refine (pclean_any Q5 (by omega) w7).mono ?_
    rintro e w8 ⟨rfl, b8⟩
    rw [K5.out]
    have B8 := Lib.hid (B7.out.trans (b8.mono B7.out.size))
    clear b8
    go_wp2_with fail
    refine (told_any w8).mono ?_
    rintro e w9 ⟨rfl, b9⟩
    have B9 := Lib.hid (B8.out.trans (b9.mono B8.out.size))
    clear b9
    have x1 : (A.toList == A.toList) = true := by simp
    have x2 : (A.size : Int) + 3 ≤ (X.size : Int) := by have := HXS.out; omega
    go_wp2_with fail
    go_ret
    exact ⟨rfl, B9.out⟩
end Go.Proofs.YtkimmabndmceoaaDoor.PaC
