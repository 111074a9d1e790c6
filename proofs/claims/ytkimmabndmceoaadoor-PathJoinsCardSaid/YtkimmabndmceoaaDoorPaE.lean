/-
  slices.Compare of rows of texts; path.Less.
-/
import Derived.Test.YtkimmabndmceoaaDoorPaD
import Derived.Test.YtkimmabndmceoaaDoorPaLt
namespace Go.Proofs.YtkimmabndmceoaaDoor.PaC
open Go.RowKit Go.My PaMath

theorem nan_any (s : ByteArray) (w : World) : Calls Tryd.prog 53 #[.string s] w fun e w' => e = .returned (.bool false) ∧ w = w' := by
  go_enter Tryd.func53, Tryd.ntmps53
  go_wp2_with fail
  go_ret
  exact ⟨rfl, rfl⟩
/-- -1, 0 or 1 of two texts. -/
def cmp1 (a b : List UInt8) : Int := if a = b then 0 else if lt a b then -1 else 1
theorem cmp_any (x y : ByteArray) (w : World) : Calls Tryd.prog 43 #[.string x, .string y] w fun e w' => e = .returned (.int .i64 (cmp1 (lst x) (lst y))) ∧ w = w' := by
  by_cases h : lst x = lst y
  · obtain rfl := lst_inj h
    have e0 : Op.bytesLess x.toList x.toList = false := by rw [less_lt, lt_irr]
    have hr : cmp1 (lst x) (lst x) = 0 := by unfold cmp1; rw [if_pos rfl]
    clear h
    go_enter Tryd.func43, Tryd.ntmps43
    go_wp2_with fail
    refine (nan_any x w).mono ?_
    rintro e w' ⟨rfl, rfl⟩
    go_wp2_with fail
    refine (nan_any x w).mono ?_
    rintro e w' ⟨rfl, rfl⟩
    go_wp2_with fail
    go_ret
    exact ⟨ret_int hr.symm, rfl⟩
  cases hl : lt (lst x) (lst y)
  · have e0 : Op.bytesLess x.toList y.toList = false := by rw [less_lt, toList_lst, toList_lst, hl]
    have e1 : (x.toList == y.toList) = false := pstr_no h
    have hr : cmp1 (lst x) (lst y) = 1 := by unfold cmp1; rw [if_neg h, hl]; rfl
    have HR := Lib.hid hr
    clear h hr
    go_enter Tryd.func43, Tryd.ntmps43
    go_wp2_with fail
    refine (nan_any x w).mono ?_
    rintro e w' ⟨rfl, rfl⟩
    go_wp2_with fail
    refine (nan_any y w).mono ?_
    rintro e w' ⟨rfl, rfl⟩
    go_wp2_with fail
    go_ret
    exact ⟨ret_int HR.out.symm, rfl⟩
  · have e0 : Op.bytesLess x.toList y.toList = true := by rw [less_lt, toList_lst, toList_lst, hl]
    have hr : cmp1 (lst x) (lst y) = -1 := by unfold cmp1; rw [if_neg h, hl]; rfl
    have HR := Lib.hid hr
    clear h hr
    go_enter Tryd.func43, Tryd.ntmps43
    go_wp2_with fail
    refine (nan_any x w).mono ?_
    rintro e w' ⟨rfl, rfl⟩
    go_wp2_with fail
    refine (nan_any y w).mono ?_
    rintro e w' ⟨rfl, rfl⟩
    go_wp2_with fail
    go_ret
    exact ⟨ret_int HR.out.symm, rfl⟩
theorem vals_get {w : World} {b off c n : Nat} {l : List (List UInt8)} (h : RowIn w (some ⟨b, off, none⟩) n c (vals l)) (k : Nat) (hk : k < l.length) : w.cell? ⟨b, off + k, none⟩ = some (.string (tx l[k])) := by
  have := h.get k (by rw [vals_len]; exact hk)
  rw [this]
  simp [vals]
set_option maxRecDepth 100000 in
set_option maxHeartbeats 2000000 in
theorem compare_any (xs ys : List (List UInt8)) (ax ay : Option Addr) (cx cy : Nat) (w : World) (hx : RowIn w ax xs.length cx (vals xs)) (hy : RowIn w ay ys.length cy (vals ys)) :
    Calls Tryd.prog 32 #[.slice ax xs.length cx, .slice ay ys.length cy] w fun e w' => e = .returned (.int .i64 (cmp3 xs ys)) ∧ w = w' := by
  have hlx := hx.le_cap
  have hly := hy.le_cap
  have hcx := hx.cap_le
  have hcy := hy.cap_le
  obtain ⟨lx, hLx⟩ : ∃ n, n = xs.length := ⟨_, rfl⟩
  obtain ⟨ly, hLy⟩ : ∃ n, n = ys.length := ⟨_, rfl⟩
  have HX := Lib.hid hx
  have HY := Lib.hid hy
  have HLX := Lib.hid hLx
  have HLY := Lib.hid hLy
  rw [← hLx] at hlx ⊢
  rw [← hLy] at hly ⊢
  clear hx hy hLx hLy
  go_enter Tryd.func32, Tryd.ntmps32
  go_wp2_with fail
  go_loop [11, 5, 6, 7, 8] (fun s _ _ _ _ => ∃ k : Nat, s = .int .i64 (k : Int) ∧ k ≤ lx ∧ k ≤ ly ∧ Hid (xs.take k = ys.take k)) (fun s _ _ _ _ => lx - (intOf s).toNat)
  case atStart => exact ⟨0, rfl, Nat.zero_le _, Nat.zero_le _, Lib.hid rfl⟩
  case round =>
    obtain ⟨k, rfl, hk1, hk2, HK⟩ := hrel
    by_cases hlt : k < lx
    · obtain ⟨bx, ox, rfl⟩ := HX.out.some_ (by have := HLX.out; omega)
      have cx0 := vals_get HX.out k (by have := HLX.out; omega)
      by_cases hl2 : k < ly
      · obtain ⟨by_, oy, rfl⟩ := HY.out.some_ (by have := HLY.out; omega)
        have cy0 := vals_get HY.out k (by have := HLY.out; omega)
        obtain ⟨p, hp⟩ : ∃ p : ByteArray, p = tx (xs[k]'(by have := HLX.out; omega)) := ⟨_, rfl⟩
        obtain ⟨q, hq⟩ : ∃ p : ByteArray, p = tx (ys[k]'(by have := HLY.out; omega)) := ⟨_, rfl⟩
        rw [← hp] at cx0
        rw [← hq] at cy0
        have hl3 : ¬ (ly ≤ k) := by omega
        by_cases hpq : lst p = lst q
        · have HE := Lib.hid (take_more (a := xs) (b := ys) (k := k) (by have := HLX.out; omega) (by have := HLY.out; omega) HK.out (by rw [hp, hq] at hpq; exact hpq))
          have HC : Hid (cmp1 (lst p) (lst q) = 0) := Lib.hid (by unfold cmp1; rw [if_pos hpq])
          clear hp hq hpq
          go_wp2_with fail
          refine (cmp_any p q w).mono ?_
          rintro e w' ⟨rfl, rfl⟩
          rw [HC.out]
          go_wp2_with fail
          go_round
          case rel => exact ⟨k + 1, by simp, by omega, by omega, HE⟩
          case measure => simp [intOf]; omega
        · have hne : xs[k]'(by have := HLX.out; omega) ≠ ys[k]'(by have := HLY.out; omega) := fun e => hpq (by rw [hp, hq, e])
          have HE := Lib.hid (cmp3_at (a := xs) (b := ys) (k := k) (by have := HLX.out; omega) (by have := HLY.out; omega) HK.out hne)
          have hc : cmp1 (lst p) (lst q) = cmp3 xs ys := by rw [HE.out]; unfold cmp1; rw [if_neg hpq, hp, hq, lst_tx, lst_tx]
          have h0 : ((cmp3 xs ys : Int) == 0) = false := by rw [HE.out]; split <;> rfl
          have h1 : ((cmp3 xs ys : Int) != 0) = true := by rw [HE.out]; split <;> rfl
          have HC := Lib.hid hc
          clear hp hq hpq hne hc
          go_wp2_with fail
          refine (cmp_any p q w).mono ?_
          rintro e w' ⟨rfl, rfl⟩
          rw [HC.out]
          go_wp2_with fail
          go_ret
          exact ⟨rfl, rfl⟩
      · have hl3 : ly ≤ k := by omega
        have hr : cmp3 xs ys = 1 := cmp3_short (k := k) (by have := HLX.out; omega) (by have := HLY.out; omega) HK.out
        have HR := Lib.hid hr
        clear hr
        go_wp2_with fail
        go_ret
        exact ⟨ret_int HR.out.symm, rfl⟩
    · obtain rfl : k = lx := by omega
      by_cases hl2 : k < ly
      · have hr : cmp3 xs ys = -1 := cmp3_long (by have := HLX.out; have := HLY.out; omega) (by rw [← HLX.out]; exact HK.out)
        have HR := Lib.hid hr
        clear hr
        go_wp2_with fail
        go_ret
        exact ⟨ret_int HR.out.symm, rfl⟩
      · have hr : cmp3 xs ys = 0 := cmp3_same (by have := HLX.out; have := HLY.out; omega) (by rw [← HLX.out]; exact HK.out)
        have HR := Lib.hid hr
        clear hr
        go_wp2_with fail
        go_ret
        exact ⟨ret_int HR.out.symm, rfl⟩
set_option maxRecDepth 100000 in
theorem less_any (a b : ByteArray) (ha : a.size ≤ 1000000) (hb : b.size ≤ 1000000) (w : World) :
    Calls Tryd.prog 18 #[.string a, .string b] w fun e w' => e = .returned (.bool (lts (key (lst a)) (key (lst b)))) ∧ Below w.heap.size w w' := by
  obtain ⟨K, hK⟩ : ∃ K, K = key (lst a) := ⟨_, rfl⟩
  obtain ⟨L, hL⟩ : ∃ K, K = key (lst b) := ⟨_, rfl⟩
  have HK := Lib.hid hK
  have HL := Lib.hid hL
  rw [← hK, ← hL]
  clear hK hL
  go_enter Tryd.func18, Tryd.ntmps18
  go_wp2_with fail
  refine (pparts_any a ha w).mono ?_
  rintro e w1 ⟨a1, c1, rfl, hR1, hb1⟩
  rw [← HK.out] at hR1 ⊢
  go_wp2_with fail
  refine (pparts_any b hb w1).mono ?_
  rintro e w2 ⟨a2, c2, rfl, hR2, hb2⟩
  rw [← HL.out] at hR2 ⊢
  have hR3 := hR1.below (Nat.le_refl _) hb2
  go_wp2_with fail
  refine (compare_any K L a1 a2 c1 c2 w2 hR3 hR2).mono ?_
  rintro e w3 ⟨rfl, rfl⟩
  go_wp2_with fail
  go_ret
  exact ⟨by rw [← cmp3_neg]; rfl, hb1.trans (hb2.mono hb1.size)⟩
end Go.Proofs.YtkimmabndmceoaaDoor.PaC
