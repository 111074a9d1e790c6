import Derived.Test.YtdbcendnibgcaaaGreatDoorMgBu
import Derived.Test.YtdbcendnibgcaaaGreatDoorMgBx

section
/-
  The document's own inflate: lengths.
-/
namespace Go.Proofs.YtdbcendnibgcaaaGreatDoor.RfC
open Go.RowKit Go.My BitMath CanMath TabMath WinMath CanC RefC
open InfMath (Stn St5 St6 St7 St8 St9 Bad CodeOk sym)

/-- What lengths hands back. -/
def LenR (w0 : World) (g : Nat) (a : Option Addr) (len cap : Nat) (l : List UInt8) (ov : Value) (out : List UInt8) (wide : Bool) (S most : Nat) (R : List (Nat × TypeId × Array Value)) (fin : Bool) (s : InfMath.M) (p : Nat) (e : Ending) (w' : World) : Prop :=
  (∃ (g1 g2 p' code' : Nat) (ls ds : List Nat), e = .returned (.tuple #[.slice (some ⟨g1, 0, none⟩) ls.length ls.length, .slice (some ⟨g2, 0, none⟩) ds.length ds.length, .bool true]) ∧
    Hid (XAt w0 w' g a len cap l p' ov out wide S most code' ((g1, 9, (texts ls).toArray) :: (g2, 9, (texts ds).toArray) :: R)) ∧ CodeOk ls ∧ CodeOk ds ∧ p < p' ∧ ∃ s', InfMath.Steps s s' ∧ St9 l p' out wide S most ls ds fin s') ∨
  (∃ (p' code' : Nat), e = .returned (.tuple #[.slice none 0 0, .slice none 0 0, .bool false]) ∧ Hid (XAt w0 w' g a len cap l p' ov out wide S most code' R) ∧ code' ≠ 0 ∧ Bad s)
def lenOf : Value → Nat | .slice _ n _ => n | _ => 0
section
variable {w0 w w' : World} {g : Nat} {a : Option Addr} {len cap : Nat} {l : List UInt8} {p : Nat} {ov : Value} {out : List UInt8} {wide : Bool} {S most code : Nat} {R : List (Nat × TypeId × Array Value)}
/-- A store into another block. -/
theorem XAt.aside (h : XAt w0 w g a len cap l p ov out wide S most code R) {k : Nat} (hk : w0.heap.size ≤ k) (h1 : k ≠ g) (h2 : ov.ownBlock ≠ some k) (h3 : ∀ x ∈ R, x.1 ≠ k) (i : Nat) (u : Value) : XAt w0 (w.setCell ⟨k, i, none⟩ u) g a len cap l p ov out wide S most code R := by
  have hO : Only (fun j => j = k) w (w.setCell ⟨k, i, none⟩ u) := (Only.refl (fun j => j = k) w).setCell (p := ⟨k, i, none⟩) (fun _ => rfl) u
  exact ⟨hO.blk h.blk (fun e => h1 e.symm), hO.own h.own (fun j hj e => h2 (by rw [hj, e])), h.base, h.byt, h.below.trans (hO.below h.below.size (fun j hj => by rw [hj]; exact hk)), h.lt, h.short, fun x hx => ⟨hO.blk (h.rows x hx).1 (fun e => h3 x hx e), (h.rows x hx).2⟩⟩
theorem take_lt (bs : List Bool) (n : Nat) : num (bs.take n) < 2 ^ n := Nat.lt_of_lt_of_le (num_lt _) (Nat.pow_le_pow_right (by omega) (by rw [List.length_take]; omega))

theorem order_at {w : World} {k : Nat} (h : Blk w k 3 #[.int .i64 16, .int .i64 17, .int .i64 18, .int .i64 0, .int .i64 8, .int .i64 7, .int .i64 9, .int .i64 6, .int .i64 10, .int .i64 5, .int .i64 11, .int .i64 4, .int .i64 12, .int .i64 3, .int .i64 13, .int .i64 2, .int .i64 14, .int .i64 1, .int .i64 15]) (i : Nat) (hi : i < 19) : w.cell? ⟨k, i, none⟩ = some (.int .i64 ((InfMath.order.getD i 0 : Nat) : Int)) := by
  rw [h.cell]
  have : i = 0 ∨ i = 1 ∨ i = 2 ∨ i = 3 ∨ i = 4 ∨ i = 5 ∨ i = 6 ∨ i = 7 ∨ i = 8 ∨ i = 9 ∨ i = 10 ∨ i = 11 ∨ i = 12 ∨ i = 13 ∨ i = 14 ∨ i = 15 ∨ i = 16 ∨ i = 17 ∨ i = 18 := by omega
  rcases this with rfl | rfl | rfl | rfl | rfl | rfl | rfl | rfl | rfl | rfl | rfl | rfl | rfl | rfl | rfl | rfl | rfl | rfl | rfl <;> rfl
theorem order_lt (k : Nat) : InfMath.order.getD k 0 < 19 := by
  rw [List.getD_eq_getElem?_getD]
  by_cases h : k < 19
  · rw [List.getElem?_eq_getElem (show k < InfMath.order.length from h)]
    exact (by decide : ∀ x ∈ InfMath.order, x < 19) _ (List.getElem_mem _)
  · rw [List.getElem?_eq_none (by show 19 ≤ k; omega)]; decide
theorem scat_len (L : List Nat) : ∀ i, (InfMath.scat L i).length = 19
  | 0 => rfl
  | i + 1 => by unfold InfMath.scat; rw [List.length_set]; exact scat_len L i
theorem scat_le (L : List Nat) (h : ∀ x ∈ L, x ≤ 15) : ∀ i, ∀ x ∈ InfMath.scat L i, x ≤ 15
  | 0, x, hx => by obtain ⟨_, rfl⟩ := List.mem_replicate.1 hx; omega
  | i + 1, x, hx => by
    unfold InfMath.scat at hx
    rcases List.mem_or_eq_of_mem_set hx with hx | rfl
    · exact scat_le L h i x hx
    · rw [List.getD_eq_getElem?_getD]
      cases he : L[i]? with
      | none => simp
      | some y => exact h y (List.mem_of_getElem? he)
theorem le_lit {out : List UInt8} {wide : Bool} {S most hl hd p v n : Nat} {l : List UInt8} {fin : Bool} {cl L : List Nat} {s : InfMath.M} (h : St8 l p out wide S most fin hl hd cl L s) (hk : L.length < hl + hd) (he : sym cl ((bitsOf l).drop p) = (v, n, 0)) (hv : v < 16) (hs : ¬ 8 * l.length - p < n) : ∃ s', InfMath.Steps s s' ∧ St8 l (p + n) out wide S most fin hl hd cl (L ++ [v]) s' := by
  have e1 : InfMath.extra v = 0 := by unfold InfMath.extra; rw [if_neg (by omega), if_neg (by omega), if_neg (by omega)]
  have e2 : InfMath.least v = 1 := by unfold InfMath.least; rw [if_neg (by omega), if_neg (by omega), if_neg (by omega)]
  have e3 : InfMath.length_ v L = v := by unfold InfMath.length_; rw [if_neg (by omega), if_neg (by omega), if_neg (by omega)]
  have e4 : num (((bitsOf l).drop (p + n)).take 0) = 0 := rfl
  have := InfMath.le_ok h hk he (by omega) (by rw [e1]; omega) (by rw [e1, e2, e4]; omega)
  rw [e1, e2, e3, e4] at this
  exact this
theorem extra_bd (u : Nat) (hu : u < 3) : 2 ≤ InfMath.extra (16 + u) ∧ InfMath.extra (16 + u) ≤ 7 ∧ 3 ≤ InfMath.least (16 + u) ∧ InfMath.least (16 + u) ≤ 11 := by
  have : u = 0 ∨ u = 1 ∨ u = 2 := by omega
  rcases this with rfl | rfl | rfl <;> decide
theorem extra_at (w : World) (u : Nat) (hu : u < 3) : (w.alloc (.cells #[.int .i64 2, .int .i64 3, .int .i64 7] 3)).cell? ⟨w.heap.size, u, none⟩ = some (.int .i64 ((InfMath.extra (16 + u) : Nat) : Int)) := by
  rw [(Blk.new w 3 #[.int .i64 2, .int .i64 3, .int .i64 7]).cell]
  have : u = 0 ∨ u = 1 ∨ u = 2 := by omega
  rcases this with rfl | rfl | rfl <;> rfl
theorem least_at (w : World) (u : Nat) (hu : u < 3) : (w.alloc (.cells #[.int .i64 3, .int .i64 3, .int .i64 11] 3)).cell? ⟨w.heap.size, u, none⟩ = some (.int .i64 ((InfMath.least (16 + u) : Nat) : Int)) := by
  rw [(Blk.new w 3 #[.int .i64 3, .int .i64 3, .int .i64 11]).cell]
  have : u = 0 ∨ u = 1 ∨ u = 2 := by omega
  rcases this with rfl | rfl | rfl <;> rfl
theorem length_le {v : Nat} {L : List Nat} (hv : v < 19) (hL : ∀ x ∈ L, x ≤ 15) (h : 16 ≤ v) : InfMath.length_ v L ≤ 15 := by
  unfold InfMath.length_
  split
  · cases hl : L.getLast? with
    | none => rw [List.getLastD_eq_getLast?, hl]; decide
    | some x => rw [List.getLastD_eq_getLast?, hl]; exact hL x (List.mem_of_getLast? hl)
  · split
    · omega
    · rw [if_pos (by omega)]; omega
theorem length_no {v : Nat} {L : List Nat} (hv : v < 19) (h16 : v ≠ 16) (h : 16 ≤ v) : InfMath.length_ v L = 0 := by
  unfold InfMath.length_
  rw [if_neg h16]
  split
  · rfl
  · rw [if_pos (by omega)]
theorem last_at (L : List Nat) (v val y : Nat) (hy : y < ((zs L).map CanC.iv).length) (hv : v = 16) (hval : val = InfMath.length_ v L) (hyl : y = L.length - 1) : ((zs L).map CanC.iv)[y] = .int .i64 (val : Int) := by
  subst hv hyl
  have hl : L.length - 1 < L.length := by rw [List.length_map, zs_len] at hy; exact hy
  have e : InfMath.length_ 16 L = L[L.length - 1] := by
    unfold InfMath.length_
    rw [if_pos rfl, List.getLastD_eq_getLast?, List.getLast?_eq_getElem?, List.getElem?_eq_getElem hl]
    rfl
  rw [hval, e, List.getElem_map]
  unfold zs
  rw [List.getElem_map]
  rfl
theorem quiet_below' (w : World) (n : Nat) : Below w.heap.size w (w.drewN n) := ⟨rfl, rfl, rfl, Nat.le_refl _, fun _ _ => rfl⟩
theorem row_take {w : World} {a : Option Addr} {len cap : Nat} {vs : List Value} (h : RowIn w a len cap vs) (k : Nat) (hk : k ≤ len) : RowIn w a k cap (vs.take k) := by
  obtain ⟨h1, h2, h3, h4, h5⟩ := h
  refine ⟨by rw [List.length_take, h1]; omega, by omega, h3, fun h => ⟨by have := (h4 h).1; omega, (h4 h).2⟩, ?_⟩
  rcases h5 with h5 | ⟨b, off, ha, hs, hc⟩
  · left; omega
  · exact .inr ⟨b, off, ha, hs, fun i hi => by rw [hc i (by rw [List.length_take] at hi; omega), List.getElem_take]⟩
theorem row_drop {w : World} {b off len cap : Nat} {vs : List Value} (h : RowIn w (some ⟨b, off, none⟩) len cap vs) (k : Nat) (hk : k ≤ len) : RowIn w (some ⟨b, off + k, none⟩) (len - k) (cap - k) (vs.drop k) := by
  obtain ⟨h1, h2, h3, h4, h5⟩ := h
  refine ⟨by rw [List.length_drop, h1], by omega, by omega, (fun h => by cases h), ?_⟩
  rcases h5 with h5 | ⟨b', off', ha, hs, hc⟩
  · left; omega
  · cases ha
    exact .inr ⟨b, off + k, rfl, hs, fun i hi => by rw [List.getElem_drop, ← hc (k + i) (by rw [List.length_drop] at hi; omega), Nat.add_assoc]⟩
theorem not_good (A B : List Nat) (hb : InfMath.kd B ≤ 4) : (!InfMath.goodCodes A B) = (A.getD 256 0 == 0 || (InfMath.kd A != 1 && InfMath.kd A != 2) || InfMath.kd B == 3 || InfMath.kd B == 4) := by
  unfold InfMath.goodCodes InfMath.usable
  generalize A.getD 256 0 = x
  generalize InfMath.kd A = ka
  generalize InfMath.kd B = kb at *
  rw [Bool.eq_iff_iff]
  simp
  omega
theorem good_ok {A B : List Nat} (h : InfMath.goodCodes A B = true) (ha : A.length ≤ 288) (hb : B.length ≤ 288) (ha2 : ∀ x ∈ A, x ≤ 15) (hb2 : ∀ x ∈ B, x ≤ 15) : CodeOk A ∧ CodeOk B := by
  unfold InfMath.goodCodes at h
  simp only [Bool.and_eq_true, Bool.or_eq_true, beq_iff_eq] at h
  refine ⟨⟨ha, ha2, InfMath.usable_kr h.1.2⟩, ⟨hb, hb2, ?_⟩⟩
  rcases h.2 with h | h
  · exact InfMath.kd_kr h (by decide)
  · exact InfMath.usable_kr h
theorem kd_le' (l : List Nat) : InfMath.kd l ≤ 4 := by
  unfold InfMath.kd
  repeat' split
  all_goals omega

set_option maxRecDepth 100000 in
set_option maxHeartbeats 16000000 in
theorem lengths_any {fin : Bool} {s : InfMath.M} (hx : Hid (XAt w0 w g a len cap l p ov out wide S most code R)) (h4 : Stn 4 l p out wide S most fin s) (hR : ∀ x ∈ R, x.2.1 = 9) :
    Calls Tryz.prog 45 #[.pointer (some ⟨g, 0, none⟩)] w (LenR w0 g a len cap l ov out wide S most R fin s p) := by
  have HLE := Lib.hid hx.out.byt.len_eq
  have H4 := Lib.hid h4
  have HRS := Lib.hid hR
  have hsh := hx.out.short
  have HG1 := Lib.hid (get_any 5 (by omega) hx)
  clear h4 hR
  unfold LenR
  go_enter Tryz.func45, Tryz.ntmps45
  go_wp2_with fail
  refine HG1.out.mono ?_
  rintro e w1 (⟨hno, rfl, HX1⟩ | ⟨hyes, rfl, HX1⟩)
  · have HG2 := Lib.hid (get_any 5 (by omega) HX1)
    clear HG1
    go_wp2_with fail
    refine HG2.out.mono ?_
    rintro e w2 (⟨-, rfl, HX2⟩ | ⟨hyes2, -, -⟩)
    · have HB : Hid (Bad s) := Lib.hid (InfMath.hlit_short H4.out (by rw [HLE.out]; omega))
      have HG3 := Lib.hid (get_any 4 (by omega) HX2)
      clear HG2 HX1
      go_wp2_with fail
      refine HG3.out.mono ?_
      rintro e w3 (⟨-, rfl, HX3⟩ | ⟨hyes3, rfl, HX3⟩)
      · clear HG3 HX2
        have x6 : _ := (HX3).out.blk.cell 6
        have f6 := (HX3).out.blk.frozen 6
        go_wp2_with fail
        go_ret3
        exact .inr ⟨_, 5, rfl, Lib.hid ((HX3).out.code_ 5), by decide, HB.out⟩
      · have hdeg : 8 * len < p + 4 + 3 := by omega
        have hfew := take_lt ((bitsOf l).drop p) 4
        generalize num (((bitsOf l).drop p).take 4) = few at *
        obtain ⟨P, hP⟩ : ∃ P, P = p + 4 := ⟨_, rfl⟩
        rw [← hP] at HX3 hdeg
        clear HG3 HX2 hyes3 hP hno
        go_upto_region 11 with (fail)
        have HX5 := Lib.hid (HX3.out.later ((Below.refl _ w3).alloc (Nat.le_refl _) (.cells #[.int .i64 16, .int .i64 17, .int .i64 18, .int .i64 0, .int .i64 8, .int .i64 7, .int .i64 9, .int .i64 6, .int .i64 10, .int .i64 5, .int .i64 11, .int .i64 4, .int .i64 12, .int .i64 3, .int .i64 13, .int .i64 2, .int .i64 14, .int .i64 1, .int .i64 15] 3)))
        generalize w3.alloc (.cells #[.int .i64 16, .int .i64 17, .int .i64 18, .int .i64 0, .int .i64 8, .int .i64 7, .int .i64 9, .int .i64 6, .int .i64 10, .int .i64 5, .int .i64 11, .int .i64 4, .int .i64 12, .int .i64 3, .int .i64 13, .int .i64 2, .int .i64 14, .int .i64 1, .int .i64 15] 3) = w4 at *
        go_wp2_with (at_make; refine wpList_make_row w4 rfl (.const (.int .i64 19)) (.const (.int .i64 19)) 92 rfl w4.heap.size 3 (.int .i64 0) 8 Tryz.underlying92 infoI rfl .i64 .i64 19 rfl rfl (by omega) (by omega) (Nat.le_refl _) ?_)
        intro w5 _ hg
        have HX6 := Lib.hid (HX5.out.later (grown_none_below (Below.refl _ _) hg (Nat.le_refl _)))
        clear hg HX3 HX5
        go_wp2_with fail
        go_loopw [13] (fun iv wr => iv = .int .i64 0 ∧ Hid (XAt w0 wr g a len cap l P ov out wide S most code R)) (fun _ _ => 0)
        case atStart => exact ⟨rfl, HX6⟩
        case round =>
          clear HX6
          obtain ⟨rfl, HX7⟩ := hrel
          have HG4 := Lib.hid (get_any 3 (by omega) HX7)
          go_wp2_with fail
          refine HG4.out.mono ?_
          rintro e w6 (⟨-, rfl, HX8⟩ | ⟨hyes4, -, -⟩)
          · clear HG4 HX7
            have x6 : _ := (HX8).out.blk.cell 6
            have f6 := (HX8).out.blk.frozen 6
            go_wp2_with fail
            go_ret3
            exact .inr ⟨_, 5, rfl, Lib.hid ((HX8).out.code_ 5), by decide, HB.out⟩
          · exact absurd hyes4 (by omega)
    · exact absurd hyes2 (by omega)
  · have ha := take_lt ((bitsOf l).drop p) 5
    obtain ⟨lit, hlit⟩ : ∃ lit, lit = num (((bitsOf l).drop p).take 5) := ⟨_, rfl⟩
    rw [← hlit] at ha ⊢
    have HLI := Lib.hid hlit
    have HG2 := Lib.hid (get_any 5 (by omega) HX1)
    clear HG1 hlit
    by_cases h29 : 29 < lit
    · have HB : Hid (Bad s) := Lib.hid (InfMath.hlit_bad H4.out HLI.out.symm h29)
      have h29I : (lit : Int) > 29 := by omega
      go_wp2_with fail
      refine HG2.out.mono ?_
      rintro e w2 (⟨hno2, rfl, HX2⟩ | ⟨hyes2, rfl, HX2⟩)
      all_goals
        clear HG2 HX1
        have x6 : _ := (HX2).out.blk.cell 6
        have f6 := (HX2).out.blk.frozen 6
        go_wp2_with fail
        go_ret3
        exact .inr ⟨_, 2, rfl, Lib.hid ((HX2).out.code_ 2), by decide, HB.out⟩
    · have h29I : ¬ (lit : Int) > 29 := by omega
      obtain ⟨s5, hs5, h5⟩ := InfMath.hlit_ok H4.out HLI.out.symm h29 (by rw [HLE.out]; omega)
      have H5 := Lib.hid (And.intro hs5 h5)
      clear hs5 h5
      go_wp2_with fail
      refine HG2.out.mono ?_
      rintro e w2 (⟨hno2, rfl, HX2⟩ | ⟨hyes2, rfl, HX2⟩)
      · have HB : Hid (Bad s) := Lib.hid (.of H5.out.1 (InfMath.hdist_short H5.out.2 (by rw [HLE.out]; omega)))
        have HG3 := Lib.hid (get_any 4 (by omega) HX2)
        clear HG2 HX1
        go_wp2_with fail
        refine HG3.out.mono ?_
        rintro e w3 (⟨-, rfl, HX3⟩ | ⟨hyes3, rfl, HX3⟩)
        · clear HG3 HX2
          have x6 : _ := (HX3).out.blk.cell 6
          have f6 := (HX3).out.blk.frozen 6
          go_wp2_with fail
          go_ret3
          exact .inr ⟨_, 5, rfl, Lib.hid ((HX3).out.code_ 5), by decide, HB.out⟩
        · have hdeg : 8 * len < p + 5 + 4 + 3 := by omega
          have hfew := take_lt ((bitsOf l).drop (p + 5)) 4
          generalize num (((bitsOf l).drop (p + 5)).take 4) = few at *
          obtain ⟨P, hP⟩ : ∃ P, P = p + 5 + 4 := ⟨_, rfl⟩
          rw [← hP] at HX3 hdeg
          clear HG3 HX2 hyes3 hP hno2
          go_upto_region 11 with (fail)
          have HX5 := Lib.hid (HX3.out.later ((Below.refl _ w3).alloc (Nat.le_refl _) (.cells #[.int .i64 16, .int .i64 17, .int .i64 18, .int .i64 0, .int .i64 8, .int .i64 7, .int .i64 9, .int .i64 6, .int .i64 10, .int .i64 5, .int .i64 11, .int .i64 4, .int .i64 12, .int .i64 3, .int .i64 13, .int .i64 2, .int .i64 14, .int .i64 1, .int .i64 15] 3)))
          generalize w3.alloc (.cells #[.int .i64 16, .int .i64 17, .int .i64 18, .int .i64 0, .int .i64 8, .int .i64 7, .int .i64 9, .int .i64 6, .int .i64 10, .int .i64 5, .int .i64 11, .int .i64 4, .int .i64 12, .int .i64 3, .int .i64 13, .int .i64 2, .int .i64 14, .int .i64 1, .int .i64 15] 3) = w4 at *
          go_wp2_with (at_make; refine wpList_make_row w4 rfl (.const (.int .i64 19)) (.const (.int .i64 19)) 92 rfl w4.heap.size 3 (.int .i64 0) 8 Tryz.underlying92 infoI rfl .i64 .i64 19 rfl rfl (by omega) (by omega) (Nat.le_refl _) ?_)
          intro w5 _ hg
          have HX6 := Lib.hid (HX5.out.later (grown_none_below (Below.refl _ _) hg (Nat.le_refl _)))
          clear hg HX3 HX5
          go_wp2_with fail
          go_loopw [13] (fun iv wr => iv = .int .i64 0 ∧ Hid (XAt w0 wr g a len cap l P ov out wide S most code R)) (fun _ _ => 0)
          case atStart => exact ⟨rfl, HX6⟩
          case round =>
            clear HX6
            obtain ⟨rfl, HX7⟩ := hrel
            have HG4 := Lib.hid (get_any 3 (by omega) HX7)
            go_wp2_with fail
            refine HG4.out.mono ?_
            rintro e w6 (⟨-, rfl, HX8⟩ | ⟨hyes4, -, -⟩)
            · clear HG4 HX7
              have x6 : _ := (HX8).out.blk.cell 6
              have f6 := (HX8).out.blk.frozen 6
              go_wp2_with fail
              go_ret3
              exact .inr ⟨_, 5, rfl, Lib.hid ((HX8).out.code_ 5), by decide, HB.out⟩
            · exact absurd hyes4 (by omega)
      · have hb := take_lt ((bitsOf l).drop (p + 5)) 5
        obtain ⟨dist, hdist⟩ : ∃ dist, dist = num (((bitsOf l).drop (p + 5)).take 5) := ⟨_, rfl⟩
        rw [← hdist] at hb ⊢
        have HDI := Lib.hid hdist
        have HY2 := Lib.hid hyes2
        have HG3 := Lib.hid (get_any 4 (by omega) HX2)
        clear HG2 hdist hyes2
        by_cases hd : InfMath.lastD wide < dist
        · have HB : Hid (Bad s) := Lib.hid (.of H5.out.1 (InfMath.hdist_bad H5.out.2 HDI.out.symm hd))
          obtain rfl : wide = false := by
            cases wide
            · rfl
            · simp [InfMath.lastD] at hd; omega
          have hdI : (dist : Int) > 29 := by simp [InfMath.lastD] at hd; omega
          have x3 : w2.cell? ⟨g, 3, none⟩ = some (.bool false) := (HX2).out.blk.cell 3
          have x6 : _ := (HX2).out.blk.cell 6
          have f6 := (HX2).out.blk.frozen 6
          clear HX1
          go_wp2_with fail
          go_ret3
          exact .inr ⟨_, 2, rfl, Lib.hid ((HX2).out.code_ 2), by decide, HB.out⟩
        · obtain ⟨s6, hs6, h6⟩ := InfMath.hdist_ok H5.out.2 HDI.out.symm hd (by have := HY2.out; rw [HLE.out]; omega)
          have H6 := Lib.hid (And.intro (H5.out.1.trans hs6) h6)
          have HW : Hid ((dist : Int) > 29 → wide = true) := Lib.hid fun h => by
            cases wide
            · simp [InfMath.lastD] at hd; omega
            · rfl
          have x3 : w2.cell? ⟨g, 3, none⟩ = some (.bool wide) := (HX2).out.blk.cell 3
          clear hs6 h6 HX1 hd H5 H4
          go_upto_region 3 with (fail)
          go_cut [61] (fun bv wx => bv = .bool false ∧ wx = w2)
          case first =>
            by_cases hd29 : (dist : Int) > 29
            · obtain rfl := HW.out hd29
              go_wp2_with fail
              go_meet
              case rel => exact ⟨by rw [decide_eq_false (by omega)], rfl⟩
            · go_wp2_with fail
              go_meet
              case rel => exact ⟨by rw [decide_eq_false (by omega)], rfl⟩
          obtain ⟨rfl, rfl⟩ := hcut
          clear x3 HW
          go_wp2_with fail
          refine HG3.out.mono ?_
          rintro e w3 (⟨hno3, rfl, HX3⟩ | ⟨hyes3, rfl, HX3⟩)
          · have HB : Hid (Bad s) := Lib.hid (.of H6.out.1 (InfMath.hclen_short H6.out.2 (by have := hno3; rw [HLE.out]; omega)))
            clear HG3 HX2
            have x6 : _ := (HX3).out.blk.cell 6
            have f6 := (HX3).out.blk.frozen 6
            go_wp2_with fail
            go_ret3
            exact .inr ⟨_, 5, rfl, Lib.hid ((HX3).out.code_ 5), by decide, HB.out⟩
          · have hfew := take_lt ((bitsOf l).drop (p + 5 + 5)) 4
            obtain ⟨few, hfw⟩ : ∃ few, few = num (((bitsOf l).drop (p + 5 + 5)).take 4) := ⟨_, rfl⟩
            rw [← hfw] at hfew ⊢
            obtain ⟨s7, hs7, h7⟩ := InfMath.hclen_ok H6.out.2 hfw.symm (by rw [HLE.out]; omega)
            have H7 := Lib.hid (And.intro (H6.out.1.trans hs7) h7)
            obtain ⟨P, hP⟩ : ∃ P, P = p + 5 + 5 + 4 := ⟨_, rfl⟩
            rw [← hP] at HX3 H7
            have HP := Lib.hid hP
            clear hs7 h7 HG3 HX2 hyes3 hP hfw H6
            go_upto_region 11 with (fail)
            have HO4 := Lib.hid (Blk.new w3 3 #[.int .i64 16, .int .i64 17, .int .i64 18, .int .i64 0, .int .i64 8, .int .i64 7, .int .i64 9, .int .i64 6, .int .i64 10, .int .i64 5, .int .i64 11, .int .i64 4, .int .i64 12, .int .i64 3, .int .i64 13, .int .i64 2, .int .i64 14, .int .i64 1, .int .i64 15])
            have HX4 := Lib.hid (HX3.out.later ((Below.refl _ w3).alloc (Nat.le_refl _) (.cells #[.int .i64 16, .int .i64 17, .int .i64 18, .int .i64 0, .int .i64 8, .int .i64 7, .int .i64 9, .int .i64 6, .int .i64 10, .int .i64 5, .int .i64 11, .int .i64 4, .int .i64 12, .int .i64 3, .int .i64 13, .int .i64 2, .int .i64 14, .int .i64 1, .int .i64 15] 3)))
            have hgo : w3.heap.size < (w3.alloc (.cells #[.int .i64 16, .int .i64 17, .int .i64 18, .int .i64 0, .int .i64 8, .int .i64 7, .int .i64 9, .int .i64 6, .int .i64 10, .int .i64 5, .int .i64 11, .int .i64 4, .int .i64 12, .int .i64 3, .int .i64 13, .int .i64 2, .int .i64 14, .int .i64 1, .int .i64 15] 3)).heap.size := HO4.out.lt
            generalize w3.alloc (.cells #[.int .i64 16, .int .i64 17, .int .i64 18, .int .i64 0, .int .i64 8, .int .i64 7, .int .i64 9, .int .i64 6, .int .i64 10, .int .i64 5, .int .i64 11, .int .i64 4, .int .i64 12, .int .i64 3, .int .i64 13, .int .i64 2, .int .i64 14, .int .i64 1, .int .i64 15] 3) = w4 at *
            have HX5 : Hid (XAt w0 w4 g a len cap l P ov out wide S most code ((w3.heap.size, 3, #[.int .i64 16, .int .i64 17, .int .i64 18, .int .i64 0, .int .i64 8, .int .i64 7, .int .i64 9, .int .i64 6, .int .i64 10, .int .i64 5, .int .i64 11, .int .i64 4, .int .i64 12, .int .i64 3, .int .i64 13, .int .i64 2, .int .i64 14, .int .i64 1, .int .i64 15]) :: R)) := Lib.hid (HX4.out.more (A := [(w3.heap.size, 3, #[.int .i64 16, .int .i64 17, .int .i64 18, .int .i64 0, .int .i64 8, .int .i64 7, .int .i64 9, .int .i64 6, .int .i64 10, .int .i64 5, .int .i64 11, .int .i64 4, .int .i64 12, .int .i64 3, .int .i64 13, .int .i64 2, .int .i64 14, .int .i64 1, .int .i64 15])]) (fun x hx => by
              obtain rfl : x = (w3.heap.size, 3, #[.int .i64 16, .int .i64 17, .int .i64 18, .int .i64 0, .int .i64 8, .int .i64 7, .int .i64 9, .int .i64 6, .int .i64 10, .int .i64 5, .int .i64 11, .int .i64 4, .int .i64 12, .int .i64 3, .int .i64 13, .int .i64 2, .int .i64 14, .int .i64 1, .int .i64 15]) := by simpa using hx
              exact ⟨HO4.out, (by decide : 3 ≠ 76), (by decide : 3 ≠ 5)⟩))
            obtain ⟨gs, hgs⟩ : ∃ gs, gs = w4.heap.size := ⟨_, rfl⟩
            have HFAR : Hid (w0.heap.size ≤ gs ∧ gs ≠ g ∧ ov.ownBlock ≠ some gs ∧ ∀ x ∈ (w3.heap.size, 3, #[.int .i64 16, .int .i64 17, .int .i64 18, .int .i64 0, .int .i64 8, .int .i64 7, .int .i64 9, .int .i64 6, .int .i64 10, .int .i64 5, .int .i64 11, .int .i64 4, .int .i64 12, .int .i64 3, .int .i64 13, .int .i64 2, .int .i64 14, .int .i64 1, .int .i64 15]) :: R, x.1 ≠ gs) := Lib.hid ⟨by rw [hgs]; exact HX5.out.below.size, by rw [hgs]; exact Nat.ne_of_gt HX5.out.blk.lt, fun e => by have := (World.ownsRow.lt HX5.out.own gs e).2; omega, fun x hx => by rw [hgs]; exact Nat.ne_of_lt (HX5.out.rows x hx).1.lt⟩
            go_wp2_with (at_make; refine wpList_make_row w4 rfl (.const (.int .i64 19)) (.const (.int .i64 19)) 92 rfl w4.heap.size 3 (.int .i64 0) 8 Tryz.underlying92 infoI rfl .i64 .i64 19 rfl rfl (by omega) (by omega) (Nat.le_refl _) ?_)
            intro w5 hown hg
            have HX6 := Lib.hid (HX5.out.later (grown_none_below (Below.refl _ _) hg (Nat.le_refl _)))
            have HS6 : Hid (OwnV 3 gs w5 (.slice (some ⟨gs, 0, none⟩) 19 19) ((zs (InfMath.scat [] 0)).map CanC.iv)) := Lib.hid (by rw [hgs]; exact hown)
            rw [← hgs]
            clear hg HX3 HX4 HX5 HO4 hown hgs hgo
            go_wp2_with fail
            go_loopw [13] (fun iv wr => ∃ (k : Nat) (L : List Nat), iv = .int .i64 (k : Int) ∧ k ≤ few + 4 ∧ P + 3 * k ≤ 8 * len ∧ Hid (L.length = k ∧ ∀ x ∈ L, x < 8) ∧ Hid (XAt w0 wr g a len cap l (P + 3 * k) ov out wide S most code ((w3.heap.size, 3, #[.int .i64 16, .int .i64 17, .int .i64 18, .int .i64 0, .int .i64 8, .int .i64 7, .int .i64 9, .int .i64 6, .int .i64 10, .int .i64 5, .int .i64 11, .int .i64 4, .int .i64 12, .int .i64 3, .int .i64 13, .int .i64 2, .int .i64 14, .int .i64 1, .int .i64 15]) :: R)) ∧ Hid (OwnV 3 gs wr (.slice (some ⟨gs, 0, none⟩) 19 19) ((zs (InfMath.scat L L.length)).map CanC.iv)) ∧ Hid (∃ s', InfMath.Steps s s' ∧ St7 l (P + 3 * k) out wide S most fin (257 + lit) (1 + dist) (4 + few) L s')) (fun iv _ => few + 4 - (intOf iv).toNat)
            case atStart => exact ⟨0, [], rfl, by omega, HX6.out.lt, Lib.hid ⟨rfl, by simp⟩, HX6, HS6, Lib.hid ⟨_, H7.out⟩⟩
            case round =>
              clear HX6 HS6 H7
              obtain ⟨k, L, rfl, hk, hPk, HL, HX7, HS7, HST⟩ := hrel
              by_cases hlt : k < few + 4
              · have hltI : decide ((k : Int) < (few : Int) + 4) = true := by simp; omega
                have HG4 := Lib.hid (get_own 3 (by omega) HX7 HS7.out)
                go_wp2_with fail
                refine HG4.out.mono ?_
                rintro e w6 ⟨(⟨hno4, rfl, HX8⟩ | ⟨hyes4, rfl, HX8⟩), HS8⟩
                · have HB : Hid (Bad s) := Lib.hid (by
                    obtain ⟨s', hs, h7⟩ := HST.out
                    exact .of hs (InfMath.cl_short h7 (by have := HL.out.1; omega) (by rw [HLE.out]; omega)))
                  clear HG4 HX7 HS7
                  have x6 : _ := (HX8).out.blk.cell 6
                  have f6 := (HX8).out.blk.frozen 6
                  go_wp2_with fail
                  go_ret3
                  exact .inr ⟨_, 5, rfl, Lib.hid (((HX8).out.code_ 5).less fun x hx => List.mem_cons_of_mem _ hx), by decide, HB.out⟩
                · have hn := take_lt ((bitsOf l).drop (P + 3 * k)) 3
                  obtain ⟨n, hne⟩ : ∃ n, n = num (((bitsOf l).drop (P + 3 * k)).take 3) := ⟨_, rfl⟩
                  rw [← hne] at hn ⊢
                  obtain ⟨o, ho⟩ : ∃ o, o = InfMath.order.getD k 0 := ⟨_, rfl⟩
                  have hyo := order_at (HX8.out.rows _ List.mem_cons_self).1 k (by omega)
                  rw [← ho] at hyo
                  have ho19 : o < 19 := by rw [ho]; exact order_lt k
                  have hoI : (o : Int) < 19 := by omega
                  have hkI : (k : Int) < 19 := by omega
                  have yf := HS8.out.free (by rw [List.length_map, zs_len, scat_len]) o
                  have yc := HS8.out.cell (by rw [List.length_map, zs_len, scat_len]) o (by rw [List.length_map, zs_len, scat_len]; exact ho19)
                  have HN := Lib.hid (And.intro hne ho)
                  clear HG4 HX7 HS7 hne ho
                  go_upto_region 14 with (fail)
                  have HX9 := Lib.hid (HX8.out.aside HFAR.out.1 HFAR.out.2.1 HFAR.out.2.2.1 HFAR.out.2.2.2 o (.int .i64 (n : Int)))
                  have HS9 : Hid (OwnV 3 gs (w6.setCell ⟨gs, o, none⟩ (.int .i64 (n : Int))) (.slice (some ⟨gs, 0, none⟩) 19 19) ((zs (InfMath.scat (L ++ [n]) (L ++ [n]).length)).map CanC.iv)) := Lib.hid (by
                    have := HS8.out.store (by rw [List.length_map, zs_len, scat_len]) o (.int .i64 (n : Int))
                    rw [InfMath.scat_one, HL.out.1, ← HN.out.2]
                    rw [HL.out.1] at this
                    unfold zs at this ⊢
                    rw [List.map_set, List.map_set]
                    exact this)
                  have HST2 : Hid (∃ s', InfMath.Steps s s' ∧ St7 l (P + 3 * k + 3) out wide S most fin (257 + lit) (1 + dist) (4 + few) (L ++ [n]) s') := Lib.hid (by
                    obtain ⟨s', hs, h7⟩ := HST.out
                    obtain ⟨s8, hs8, h8⟩ := InfMath.cl_one h7 (by have := HL.out.1; omega) (by rw [HLE.out]; omega)
                    rw [← HN.out.1] at h8
                    exact ⟨s8, hs.trans hs8, h8⟩)
                  have HL2 : Hid ((L ++ [n]).length = k + 1 ∧ ∀ x ∈ L ++ [n], x < 8) := Lib.hid ⟨by rw [List.length_append, HL.out.1]; rfl, fun x hx => by
                    rcases List.mem_append.1 hx with hx | hx
                    · exact HL.out.2 x hx
                    · obtain rfl : x = n := by simpa using hx
                      omega⟩
                  generalize w6.setCell ⟨gs, o, none⟩ (.int .i64 (n : Int)) = w7 at *
                  rw [show P + 3 * k + 3 = P + 3 * (k + 1) from by omega] at HX9 HST2
                  clear HX8 HS8 HST HL HN yf yc hyo
                  go_wp2_with fail
                  go_roundw
                  case rel => exact ⟨k + 1, L ++ [n], by go_num, by omega, by omega, HL2, HX9, HS9, HST2⟩
                  case measure => simp [intOf]; omega
              · have hltI : decide ((k : Int) < (few : Int) + 4) = false := by simp; omega
                obtain rfl : k = few + 4 := by omega
                obtain ⟨Q, hQ⟩ : ∃ Q, Q = P + 3 * (few + 4) := ⟨_, rfl⟩
                rw [← hQ] at HX7 HST hPk
                obtain ⟨sm, hsm⟩ : ∃ sm, sm = InfMath.scat L L.length := ⟨_, rfl⟩
                rw [← hsm] at HS7
                have HSM : Hid (sm.length = 19 ∧ ∀ x ∈ sm, x ≤ 15) := Lib.hid ⟨by rw [hsm]; exact scat_len L _, by rw [hsm]; exact scat_le L (fun x hx => by have := HL.out.2 x hx; omega) _⟩
                have HSQ := Lib.hid hsm
                have HRI : Hid (RowIn wr (some ⟨gs, 0, none⟩) 19 19 ((zs sm).map CanC.iv)) := Lib.hid (HS7.out.rowIn (by rw [List.length_map, zs_len, HSM.out.1]))
                have HK := Lib.hid (kind_row HRI.out HSM.out.2 (by rw [HSM.out.1]; decide))
                clear hsm
                go_wp2_with fail
                refine HK.out.mono ?_
                rintro e w8 ⟨rfl, rfl⟩
                by_cases hkd : InfMath.kd sm = 1
                · rw [hkd]
                  have HOK : Hid (CodeOk sm) := Lib.hid ⟨by rw [HSM.out.1]; decide, HSM.out.2, InfMath.kd_kr hkd (by decide)⟩
                  have HC := Lib.hid (codes_row HRI.out HOK.out)
                  rw [HSM.out.1] at HC
                  have HST3 : Hid (∃ s', InfMath.Steps s s' ∧ St8 l Q out wide S most fin (257 + lit) (1 + dist) sm [] s') := Lib.hid (by
                    obtain ⟨s', hs, h7⟩ := HST.out
                    obtain ⟨s8, hs8, h8⟩ := InfMath.cl_ok h7 (by have := HL.out.1; omega) (by rw [← HSQ.out]; exact hkd)
                    rw [← HSQ.out] at h8
                    exact ⟨s8, hs.trans hs8, h8⟩)
                  clear HK HS7 HRI HST hkd
                  go_wp2_with fail
                  refine HC.out.mono ?_
                  rintro e w9 ⟨gc, rfl, HKC, hb9⟩
                  have HX9 : Hid (XAt w0 w9 g a len cap l Q ov out wide S most code ((gc, 9, (texts sm).toArray) :: R)) := Lib.hid (((HX7.out.later hb9).less fun x hx => List.mem_cons_of_mem _ hx).more (A := [(gc, 9, (texts sm).toArray)]) (fun x hx => by
                    obtain rfl : x = (gc, 9, (texts sm).toArray) := by simpa using hx
                    exact ⟨HKC.out, (by decide : 9 ≠ 76), (by decide : 9 ≠ 5)⟩))
                  have HR9 : Hid (∀ x ∈ (gc, 9, (texts sm).toArray) :: R, x.2.1 ≠ 3) := Lib.hid (fun x hx => by
                    rcases List.mem_cons.1 hx with rfl | hx
                    · exact (by decide : 9 ≠ 3)
                    · rw [HRS.out x hx]; exact (by decide : 9 ≠ 3))
                  clear HC HX7 HKC hb9
                  obtain ⟨N, hN⟩ : ∃ N, N = 257 + lit + (1 + dist) := ⟨_, rfl⟩
                  have hN2 : N ≤ 320 := by omega
                  have hNI : (lit : Int) + 257 + (dist : Int) + 1 = (N : Int) := by omega
                  have HNQ := Lib.hid hN
                  clear hN
                  go_wp2_with fail
                  go_loopw [18] (fun av wr => ∃ (L : List Nat) (q : Nat), L.length ≤ N ∧ Q ≤ q ∧ q ≤ 8 * len ∧ Hid (∀ x ∈ L, x ≤ 15) ∧ Hid (OwnV 3 w0.heap.size wr av ((zs L).map CanC.iv)) ∧ lenOf av = L.length ∧ Hid (XAt w0 wr g a len cap l q ov out wide S most code ((gc, 9, (texts sm).toArray) :: R)) ∧ Hid (∃ s', InfMath.Steps s s' ∧ St8 l q out wide S most fin (257 + lit) (1 + dist) sm L s')) (fun av _ => N - lenOf av)
                  case atStart => exact ⟨[], Q, Nat.zero_le _, Nat.le_refl _, HX9.out.lt, Lib.hid (by simp), Lib.hid (OwnV.nil _ _ _), rfl, HX9, HST3⟩
                  case round =>
                    clear HX9 HST3
                    obtain ⟨L, q, hLN, hQq, hq, HLA, HO, hlo, HX, HST⟩ := hrel
                    obtain ⟨a1, c1, hv, hrow⟩ := HO.out.row
                    rw [List.length_map, zs_len] at hv hrow
                    subst hv
                    clear hlo
                    have HRW := Lib.hid hrow
                    clear hrow
                    obtain ⟨z, hz⟩ : ∃ z, z = L.length := ⟨_, rfl⟩
                    rw [← hz] at HO HRW hLN ⊢
                    have HZ := Lib.hid hz
                    clear hz
                    by_cases hlt : z < N
                    · have hltI : decide ((z : Int) < (N : Int)) = true := by simp; omega
                      have hltJ : (z : Int) < (lit : Int) + 257 + (dist : Int) + 1 := by omega
                      have HQ1 := Lib.hid (look_any 0 15 HX (by omega) (by omega))
                      rw [Nat.add_zero] at HQ1
                      obtain ⟨v, n, e0, hsym⟩ : ∃ v n e0, sym sm ((bitsOf l).drop q) = (v, n, e0) := ⟨_, _, _, rfl⟩
                      have HSY := Lib.hid hsym
                      have HF1 := Lib.hid (fun W (h : CodeRow W gc sm) => find_sym h ((bitsOf l).drop q))
                      rw [hsym] at HF1
                      have HOKS : Hid (e0 = 0 → 1 ≤ n ∧ n ≤ 8 * len - q ∧ n ≤ 15 ∧ v < 19) := Lib.hid (fun he => by
                        have h2 : (sym sm ((bitsOf l).drop q)).2.2 = 0 := by rw [hsym]; exact he
                        obtain ⟨-, -, h5, h6, h7, h8⟩ := InfMath.sym_ok h2
                        rw [hsym] at h5 h6 h7 h8
                        rw [List.length_drop, bitsOf_len, HLE.out] at h6
                        rw [HSM.out.1] at h8
                        exact ⟨h5, h6, h7, h8⟩)
                      rw [HSM.out.1] at HF1
                      obtain ⟨t1, ht1⟩ : ∃ t1, t1 = txt (((bitsOf l).drop q).take 15) := ⟨_, rfl⟩
                      rw [← ht1] at HQ1 HF1
                      clear hsym ht1
                      go_wp2_with fail
                      refine HQ1.out.mono ?_
                      rintro e w10 ⟨rfl, hb10⟩
                      have HX2 := Lib.hid (HX.out.later hb10)
                      have HO2 := Lib.hid (HO.out.below (Nat.le_refl _) hb10)
                      have HF := Lib.hid (HF1.out w10 ⟨(HX2.out.rows _ List.mem_cons_self).1, HOK.out⟩)
                      clear hb10 HQ1 HF1 HX HO
                      go_wp2_with fail
                      refine HF.out.mono ?_
                      rintro e w11 ⟨rfl, rfl⟩
                      clear HF
                      by_cases he : e0 = 0
                      · subst he
                        have hok := HOKS.out rfl
                        have x1 : w10.cell? ⟨g, 1, none⟩ = some (.int .i64 (q : Int)) := HX2.out.blk.cell 1
                        have f1 : w10.frozen? ⟨g, 1, none⟩ = false := HX2.out.blk.frozen 1
                        have HX3 := Lib.hid (HX2.out.at_ (q + n) code (by omega) rfl)
                        have HO3 := Lib.hid (ownV_put HX2.out HO2.out 1 (.int .i64 ((q + n : Nat) : Int)))
                        rw [show ((q + n : Nat) : Int) = (q : Int) + (n : Int) from by omega] at HX3 HO3
                        have hqn : (q : Int) + (n : Int) ≤ 800000000 := by omega
                        clear HX2 HO2 HOKS
                        go_upto_region 31 with (fail)
                        generalize w10.setCell ⟨g, 1, none⟩ (.int .i64 ((q : Int) + (n : Int))) = w12 at *
                        clear x1 f1
                        have HLn : Hid (((zs L).map CanC.iv).length = z) := Lib.hid (by rw [List.length_map, zs_len, HZ.out])
                        by_cases h16 : v < 16
                        · have h16I : (v : Int) < 16 := by omega
                          have HST2 : Hid (∃ s', InfMath.Steps s s' ∧ St8 l (q + n) out wide S most fin (257 + lit) (1 + dist) sm (L ++ [v]) s') := Lib.hid (by
                            obtain ⟨s', hs, h8⟩ := HST.out
                            obtain ⟨s9, hs9, h9⟩ := le_lit h8 (by have := HNQ.out; have := HZ.out; omega) HSY.out h16 (by rw [HLE.out]; omega)
                            exact ⟨s9, hs.trans hs9, h9⟩)
                          have HOA := Lib.hid (HO3.out.below (Nat.le_refl _) ((Below.refl _ w12).alloc (Nat.le_refl _) (.cells #[.int .i64 (v : Int)] 3)))
                          have HXA := Lib.hid (HX3.out.later ((Below.refl _ w12).alloc (Nat.le_refl _) (.cells #[.int .i64 (v : Int)] 3)))
                          have HRI := Lib.hid (lit_int w12 v)
                          clear HST HRW
                          go_wp2_with (at_builtin; refine wpList_append_row (by rfl) (.tmp 144) (.tmp 146) 92 rfl w0.heap.size 3 (.int .i64 0) 8 Tryz.underlying92 infoI rfl _ _ (by rfl) HOA.out (some ⟨w12.heap.size, 0, none⟩) 1 1 _ (by rfl) HRI.out (one_int _) (by rw [HLn.out]; omega) (by rw [HLn.out]; omega) HXA.out.below.size ?_)
                          intro a2 c2 w13 hown hg _
                          rw [show (zs L).length = z from by have := HLn.out; rwa [List.length_map] at this] at hown ⊢
                          have HO4 : Hid (OwnV 3 w0.heap.size w13 (.slice a2 (z + 1) c2) ((zs (L ++ [v])).map CanC.iv)) := Lib.hid (by rw [zs_append, List.map_append]; exact hown)
                          have HX4 := Lib.hid (HX3.out.grown HO3.out (Nat.le_refl _) HR9.out hg)
                          have HLA2 : Hid (∀ x ∈ L ++ [v], x ≤ 15) := Lib.hid (fun x hx => by
                            rcases List.mem_append.1 hx with hx | hx
                            · exact HLA.out x hx
                            · obtain rfl : x = v := by simpa using hx
                              omega)
                          have HZ2 : Hid ((L ++ [v]).length = z + 1) := Lib.hid (by rw [List.length_append, HZ.out]; rfl)
                          clear hown hg HOA HXA HRI HX3 HO3
                          go_wp2_with fail
                          go_roundw
                          case rel => exact ⟨L ++ [v], q + n, by rw [HZ2.out]; omega, by omega, by omega, HLA2, HO4, by rw [HZ2.out]; rfl, HX4, HST2⟩
                          case measure => simp [lenOf]; omega
                        · have h16I : ¬ (v : Int) < 16 := by omega
                          by_cases hv0 : v = 16 ∧ z = 0
                          · have HB : Hid (Bad s) := Lib.hid (by
                              obtain ⟨s', hs, h8⟩ := HST.out
                              exact .of hs (InfMath.le_none h8 (by have := HNQ.out; have := HZ.out; omega) HSY.out hv0.1 (List.length_eq_zero_iff.1 (by rw [← HZ.out]; exact hv0.2))))
                            obtain ⟨hv1, hv2⟩ := hv0
                            have hv1I : ((v : Int) == 16) = true := by simp; omega
                            have hv2I : ((z : Int) == 0) = true := by simp; omega
                            have x6 : _ := (HX3).out.blk.cell 6
                            have f6 := (HX3).out.blk.frozen 6
                            go_wp2_with fail
                            go_ret3
                            exact .inr ⟨_, 2, rfl, Lib.hid (((HX3).out.code_ 2).less fun x hx => List.mem_cons_of_mem _ hx), by decide, HB.out⟩
                          · go_upto_region 33 with (fail)
                            go_cut [154] (fun bv wx => bv = .bool false ∧ wx = w12)
                            case first =>
                              by_cases hv : v = 16
                              · have hz0 : ((z : Int) == 0) = false := by simp; omega
                                subst hv
                                go_wp2_with fail
                                go_meet
                                case rel => exact ⟨by simp, rfl⟩
                              · have hv1I : ((v : Int) == 16) = false := by simp; omega
                                go_wp2_with fail
                                go_meet
                                case rel => exact ⟨by simp, rfl⟩
                            obtain ⟨rfl, rfl⟩ := hcut
                            as_aux_lemma =>
                              obtain ⟨u, hvu, hu3⟩ : ∃ u, v = 16 + u ∧ u < 3 := ⟨v - 16, by omega, by omega⟩
                              have hvI : (v : Int) - 16 = (u : Int) := by omega
                              have hu3I : (u : Int) < 3 := by omega
                              obtain ⟨ex, hex⟩ : ∃ ex, ex = InfMath.extra v := ⟨_, rfl⟩
                              obtain ⟨ls, hls⟩ : ∃ ls, ls = InfMath.least v := ⟨_, rfl⟩
                              have hexb : 2 ≤ ex ∧ ex ≤ 7 ∧ 3 ≤ ls ∧ ls ≤ 11 := by rw [hex, hls, hvu]; exact extra_bd u hu3
                              have y36 : (wc.alloc (.cells #[.int .i64 2, .int .i64 3, .int .i64 7] 3)).cell? ⟨wc.heap.size, u, none⟩ = some (.int .i64 (ex : Int)) := by rw [hex, hvu]; exact extra_at wc u hu3
                              have HX4 := Lib.hid (HX3.out.later ((Below.refl _ wc).alloc (Nat.le_refl _) (.cells #[.int .i64 2, .int .i64 3, .int .i64 7] 3)))
                              have HO4 := Lib.hid (HO3.out.below (Nat.le_refl _) ((Below.refl _ wc).alloc (Nat.le_refl _) (.cells #[.int .i64 2, .int .i64 3, .int .i64 7] 3)))
                              have HG5 := Lib.hid (get_own ex (by omega) HX4 HO4.out)
                              have HVX := Lib.hid (And.intro hex (And.intro hls hvu))
                              have HV0 := Lib.hid hv0
                              clear hex hls hvu HX3 HO3 HRW hv0
                              go_wp2_with fail
                              refine HG5.out.mono ?_
                              rintro e w14 ⟨(⟨hno5, rfl, HX5⟩ | ⟨hyes5, rfl, HX5⟩), HO5⟩
                              · have HB : Hid (Bad s) := Lib.hid (by
                                  obtain ⟨s', hs, h8⟩ := HST.out
                                  exact .of hs (InfMath.le_short h8 (by have := HNQ.out; have := HZ.out; omega) HSY.out (by rw [HLE.out, ← HVX.out.1]; omega)))
                                clear HG5 HX4 HO4 y36
                                have x6 : _ := (HX5).out.blk.cell 6
                                have f6 := (HX5).out.blk.frozen 6
                                as_aux_lemma =>
                                  go_wp2_with fail
                                  go_ret3
                                  exact .inr ⟨_, 5, rfl, Lib.hid (((HX5).out.code_ 5).less fun x hx => List.mem_cons_of_mem _ hx), by decide, HB.out⟩
                              · have hk0 := take_lt ((bitsOf l).drop (q + n)) ex
                                obtain ⟨k0, hk0e⟩ : ∃ k0, k0 = num (((bitsOf l).drop (q + n)).take ex) := ⟨_, rfl⟩
                                rw [← hk0e] at hk0 ⊢
                                have hk0b : k0 < 128 := Nat.lt_of_lt_of_le hk0 (Nat.pow_le_pow_right (n := 2) (by omega) (show ex ≤ 7 by omega))
                                obtain ⟨kk, hkk⟩ : ∃ kk, kk = ls + k0 := ⟨_, rfl⟩
                                have hkI : (k0 : Int) + (ls : Int) = (kk : Int) := by omega
                                have hkb : kk < 200 := by omega
                                have y40 : (w14.alloc (.cells #[.int .i64 3, .int .i64 3, .int .i64 11] 3)).cell? ⟨w14.heap.size, u, none⟩ = some (.int .i64 (ls : Int)) := by rw [HVX.out.2.1, HVX.out.2.2]; exact least_at w14 u hu3
                                have HX6 := Lib.hid (HX5.out.later ((Below.refl _ w14).alloc (Nat.le_refl _) (.cells #[.int .i64 3, .int .i64 3, .int .i64 11] 3)))
                                have HO6 := Lib.hid (HO5.out.below (Nat.le_refl _) ((Below.refl _ w14).alloc (Nat.le_refl _) (.cells #[.int .i64 3, .int .i64 3, .int .i64 11] 3)))
                                have HKK : Hid (kk = InfMath.least v + num (((bitsOf l).drop (q + n)).take (InfMath.extra v))) := Lib.hid (by rw [← HVX.out.1, ← HVX.out.2.1, hkk, hk0e])
                                have hnE : ¬ 8 * len - q < n + ex := by omega
                                clear hk0 hk0e hkk HG5 HX4 HO4 HX5 HO5 y36 hyes5
                                by_cases hov : N < z + kk
                                · have hovI : (N : Int) < (z : Int) + (kk : Int) := by omega
                                  have HB : Hid (Bad s) := Lib.hid (by
                                    obtain ⟨s', hs, h8⟩ := HST.out
                                    exact .of hs (InfMath.le_over h8 (by have := HNQ.out; have := HZ.out; omega) HSY.out (by rw [← HKK.out]; have := HNQ.out; have := HZ.out; omega)))
                                  have x6 : _ := (HX6).out.blk.cell 6
                                  have f6 := (HX6).out.blk.frozen 6
                                  as_aux_lemma =>
                                    go_wp2_with fail
                                    go_ret3
                                    exact .inr ⟨_, 2, rfl, Lib.hid (((HX6).out.code_ 2).less fun x hx => List.mem_cons_of_mem _ hx), by decide, HB.out⟩
                                · have hovI : (z : Int) + (kk : Int) ≤ (N : Int) := by omega
                                  obtain ⟨val, hval⟩ : ∃ val, val = InfMath.length_ v L := ⟨_, rfl⟩
                                  have HVAL := Lib.hid hval
                                  have HST2 : Hid (∃ s', InfMath.Steps s s' ∧ St8 l (q + n + ex) out wide S most fin (257 + lit) (1 + dist) sm (L ++ List.replicate kk val) s') := Lib.hid (by
                                    obtain ⟨s', hs, h8⟩ := HST.out
                                    obtain ⟨s9, hs9, h9⟩ := InfMath.le_ok h8 (by have := HNQ.out; have := HZ.out; omega) HSY.out (fun hc => HV0.out ⟨hc.1, by rw [HZ.out, hc.2]; rfl⟩) (by rw [HLE.out, ← HVX.out.1]; exact hnE) (by rw [← HKK.out]; have := HNQ.out; have := HZ.out; omega)
                                    rw [← HVX.out.1] at h9
                                    rw [HVX.out.1, ← HKK.out, ← HVX.out.1, ← hval] at h9
                                    exact ⟨s9, hs.trans hs9, h9⟩)
                                  have hvl : val ≤ 15 := by
                                    rw [hval]
                                    exact length_le (by have := hok.2.2.2; omega) HLA.out (by omega)
                                  clear hval HST
                                  go_upto_if 194 with (fail)
                                  generalize w14.alloc (.cells #[.int .i64 3, .int .i64 3, .int .i64 11] 3) = w15 at *
                                  clear y40
                                  go_cut [24] (fun vv wx => vv = .int .i64 (val : Int) ∧ wx = w15)
                                  case first =>
                                    by_cases hv : v = 16
                                    · have hv16 : ((v : Int) == 16) = true := by simp; omega
                                      have hzp : 0 < z := by
                                        by_cases hz0 : z = 0
                                        · exact absurd ⟨hv, hz0⟩ HV0.out
                                        · omega
                                      have HRI := HO6.out.rowIn HLn.out
                                      obtain ⟨ra, ro, rfl⟩ := HRI.some_ hzp
                                      obtain ⟨y, hy⟩ : ∃ y, y = z - 1 := ⟨_, rfl⟩
                                      have hyI : (z : Int) - 1 = (y : Int) := by omega
                                      have hyz : (y : Int) < (z : Int) := by omega
                                      have hyl : y < ((zs L).map CanC.iv).length := by rw [HLn.out]; omega
                                      have yl := HRI.get y hyl
                                      rw [last_at L v val y hyl hv HVAL.out (by rw [← HZ.out]; exact hy)] at yl
                                      clear HRI hy hyl hv
                                      as_aux_lemma =>
                                        go_wp2_with fail
                                        go_meet
                                        case rel => exact ⟨rfl, rfl⟩
                                    · have hv16 : ((v : Int) == 16) = false := by simp; omega
                                      have HV1 : Hid (val = 0) := Lib.hid (by rw [HVAL.out]; exact length_no (by have := hok.2.2.2; omega) hv (by omega))
                                      clear hv
                                      as_aux_lemma =>
                                        go_wp2_with fail
                                        go_meet
                                        case rel => exact ⟨by rw [HV1.out]; rfl, rfl⟩
                                  obtain ⟨rfl, rfl⟩ := hcut
                                  generalize wc = w15 at *
                                  have HO7 : Hid (OwnV 3 w0.heap.size w15 (.slice a1 (z + 0) c1) ((zs (L ++ List.replicate 0 val)).map CanC.iv)) := Lib.hid (by rw [List.replicate_zero, List.append_nil]; exact HO6.out)
                                  have HLL : Hid (∀ i, (zs (L ++ List.replicate i val)).length = z + i) := Lib.hid (fun i => by rw [zs_len, List.length_append, List.length_replicate, HZ.out])
                                  clear HO6 HLn
                                  go_wp2_with fail
                                  go_loopw [18, 22] (fun av kv wr => ∃ (j i : Nat) (aa : Option Addr) (ca : Nat), i + j = kk ∧ kv = .int .i64 (j : Int) ∧ av = .slice aa (z + i) ca ∧ Hid (OwnV 3 w0.heap.size wr (.slice aa (z + i) ca) ((zs (L ++ List.replicate i val)).map CanC.iv)) ∧ Hid (XAt w0 wr g a len cap l (q + n + ex) ov out wide S most code ((gc, 9, (texts sm).toArray) :: R))) (fun _ kv _ => (intOf kv).toNat)
                                  case atStart => exact ⟨kk, 0, a1, c1, by omega, rfl, rfl, HO7, HX6⟩
                                  case round =>
                                    clear HO7 HX6
                                    obtain ⟨j, i, aa, ca, hji, rfl, rfl, HO7, HX7⟩ := hrel
                                    by_cases hj : 0 < j
                                    · have hjI : decide ((j : Int) > 0) = true := by simp; omega
                                      have hjI' : decide (0 < j) = true := by simp; omega
                                      have hlz := HLL.out i
                                      have HLn : Hid (((zs (L ++ List.replicate i val)).map CanC.iv).length = z + i) := Lib.hid (by rw [List.length_map, hlz])
                                      obtain ⟨Z, hZ⟩ : ∃ Z, Z = z + i := ⟨_, rfl⟩
                                      rw [← hZ] at HO7 HLn hlz ⊢
                                      have HOA := Lib.hid (HO7.out.below (Nat.le_refl _) ((Below.refl _ wr).alloc (Nat.le_refl _) (.cells #[.int .i64 (val : Int)] 3)))
                                      have HXA := Lib.hid (HX7.out.later ((Below.refl _ wr).alloc (Nat.le_refl _) (.cells #[.int .i64 (val : Int)] 3)))
                                      have HRI := Lib.hid (lit_int wr val)
                                      have hZb : Z ≤ 400 := by omega
                                      have HZZ := Lib.hid hZ
                                      clear hZ hlz
                                      go_wp2_with (at_builtin; refine wpList_append_row (by rfl) (.tmp 205) (.tmp 207) 92 rfl w0.heap.size 3 (.int .i64 0) 8 Tryz.underlying92 infoI rfl _ _ (by rfl) HOA.out (some ⟨wr.heap.size, 0, none⟩) 1 1 _ (by rfl) HRI.out (one_int _) (by rw [HLn.out]; omega) (by rw [HLn.out]; omega) HXA.out.below.size ?_)
                                      intro a2 c2 w16 hown hg _
                                      rw [show (zs (L ++ List.replicate i val)).length = Z from by have := HLn.out; rwa [List.length_map] at this] at hown ⊢
                                      have HO8 : Hid (OwnV 3 w0.heap.size w16 (.slice a2 (z + (i + 1)) c2) ((zs (L ++ List.replicate (i + 1) val)).map CanC.iv)) := Lib.hid (by
                                        rw [List.replicate_succ', ← List.append_assoc, zs_append, List.map_append, ← Nat.add_assoc, ← HZZ.out]
                                        exact hown)
                                      have HX8 := Lib.hid (HX7.out.grown HO7.out (Nat.le_refl _) HR9.out hg)
                                      clear hown hg HOA HXA HRI HX7 HO7
                                      as_aux_lemma =>
                                        go_wp2_with fail
                                        go_roundw
                                        case rel => exact ⟨j - 1, i + 1, a2, c2, by omega, by rw [show ((j - 1 : Nat) : Int) = (j : Int) - 1 by omega], by rw [← Nat.add_assoc, ← HZZ.out], HO8, HX8⟩
                                        case measure => simp [intOf]; omega
                                    · have hjI : decide ((j : Int) > 0) = false := by simp; omega
                                      have hjI' : decide (0 < j) = false := by simp; omega
                                      obtain rfl : j = 0 := by omega
                                      obtain rfl : i = kk := by omega
                                      have HLA2 : Hid (∀ x ∈ L ++ List.replicate i val, x ≤ 15) := Lib.hid (fun x hx => by
                                        rcases List.mem_append.1 hx with hx | hx
                                        · exact HLA.out x hx
                                        · rw [(List.mem_replicate.1 hx).2]; exact hvl)
                                      have HZ2 : Hid ((L ++ List.replicate i val).length = z + i) := Lib.hid (by rw [List.length_append, List.length_replicate, HZ.out])
                                      as_aux_lemma =>
                                        go_wp2_with fail
                                        go_roundw
                                        case rel => exact ⟨L ++ List.replicate i val, q + n + ex, by rw [HZ2.out]; omega, by omega, by omega, HLA2, HO7, by rw [HZ2.out]; rfl, HX7, HST2⟩
                                        case measure => simp [lenOf]; omega
                      · have HB : Hid (Bad s) := Lib.hid (by
                          obtain ⟨s', hs, h8⟩ := HST.out
                          exact .of hs (InfMath.le_err h8 (by have := HNQ.out; have := HZ.out; omega) (by rw [HSY.out]; exact he)))
                        have heI : (e0 : Int) ≠ 0 := by omega
                        have x6 : _ := (HX2).out.blk.cell 6
                        have f6 := (HX2).out.blk.frozen 6
                        go_wp2_with fail
                        go_ret3
                        exact .inr ⟨_, e0, rfl, Lib.hid (((HX2).out.code_ e0).less fun x hx => List.mem_cons_of_mem _ hx), he, HB.out⟩
                    · have hltI : decide ((z : Int) < (N : Int)) = false := by simp; omega
                      as_aux_lemma =>
                        have hzN : z = N := by omega
                        obtain ⟨H, hH⟩ : ∃ H, H = 257 + lit := ⟨_, rfl⟩
                        obtain ⟨D, hD⟩ : ∃ D, D = 1 + dist := ⟨_, rfl⟩
                        have hHD : H + D = z := by have := HNQ.out; omega
                        have hHI : (lit : Int) + 257 = (H : Int) := by omega
                        have hHw : IntKind.i64.wrap (H : Int) = (H : Int) := IntWalk.i64_in _ (by omega)
                        have hHb : 257 ≤ H ∧ H ≤ 288 ∧ 1 ≤ D ∧ D ≤ 32 := by omega
                        have HHD := Lib.hid (And.intro hH hD)
                        clear hH hD
                        obtain ⟨ra, ro, rfl⟩ := HRW.out.some_ (by omega)
                        have hc1 := HRW.out.le_cap
                        have f1 : (H : Int) ≤ (c1 : Int) := by omega
                        have f2 : (H : Int) ≤ (z : Int) := by omega
                        have f3 : ¬ c1 = H := by omega
                        have f4 : z - H = D := by omega
                        have HHZ := Lib.hid hHD
                        clear hzN hHD
                        go_upto_region 50 with (fail)
                        go_quiet (fail)
                        have HX2 := Lib.hid (HX.out.later (quiet_below' wr nq))
                        have HRW2 := Lib.hid (HRW.out.below (Nat.le_refl _) (quiet_below' wr nq))
                        clear f1 f2 f3 f4 hHI hHw HX HO HRW
                        generalize wr.drewN nq = w10 at *
                        obtain ⟨A, hA⟩ : ∃ A, A = L.take H := ⟨_, rfl⟩
                        obtain ⟨B, hB⟩ : ∃ B, B = L.drop H := ⟨_, rfl⟩
                        have HAL : Hid (A.length = H) := Lib.hid (by have := HHZ.out; rw [hA, List.length_take, ← HZ.out]; omega)
                        have HBL : Hid (B.length = D) := Lib.hid (by have := HHZ.out; rw [hB, List.length_drop, ← HZ.out]; omega)
                        have HAA : Hid ((∀ x ∈ A, x ≤ 15) ∧ ∀ x ∈ B, x ≤ 15) := Lib.hid ⟨fun x hx => HLA.out x (by rw [hA] at hx; exact List.mem_of_mem_take hx), fun x hx => HLA.out x (by rw [hB] at hx; exact List.mem_of_mem_drop hx)⟩
                        have HRA : Hid (RowIn w10 (some ⟨ra, ro, none⟩) H c1 ((zs A).map CanC.iv)) := Lib.hid (by
                          have := row_take HRW2.out H (by have := HHZ.out; omega)
                          rw [← List.map_take] at this
                          rw [hA]; unfold zs at this ⊢; rw [List.map_take]; exact this)
                        have HRB : Hid (RowIn w10 (some ⟨ra, ro + H, none⟩) D (c1 - H) ((zs B).map CanC.iv)) := Lib.hid (by
                          have := row_drop HRW2.out H (by have := HHZ.out; omega)
                          rw [← List.map_drop, show z - H = D by have := HHZ.out; omega] at this
                          rw [hB]; unfold zs at this ⊢; rw [List.map_drop]; exact this)
                        obtain ⟨x, hx⟩ : ∃ x, x = A.getD 256 0 := ⟨_, rfl⟩
                        have y256 : w10.cell? ⟨ra, ro + 256, none⟩ = some (.int .i64 (x : Int)) := by
                          rw [HRA.out.get 256 (by rw [List.length_map, zs_len, HAL.out]; omega), List.getElem_map]
                          unfold zs
                          rw [List.getElem_map, hx, List.getD_eq_getElem?_getD, List.getElem?_eq_getElem (by rw [HAL.out]; omega)]
                          rfl
                        have HK1 := Lib.hid (kind_row HRA.out HAA.out.1 (by rw [HAL.out]; omega))
                        have HK2 := Lib.hid (kind_row HRB.out HAA.out.2 (by rw [HBL.out]; omega))
                        have hkb := kd_le' B
                        obtain ⟨ka, hka⟩ : ∃ ka, ka = InfMath.kd A := ⟨_, rfl⟩
                        obtain ⟨kb, hkbe⟩ : ∃ kb, kb = InfMath.kd B := ⟨_, rfl⟩
                        have HG : Hid ((!InfMath.goodCodes A B) = (x == 0 || (ka != 1 && ka != 2) || kb == 3 || kb == 4)) := Lib.hid (by rw [hx, hka, hkbe]; exact not_good A B hkb)
                        have HKQ := Lib.hid (And.intro hka hkbe)
                        rw [← hka] at HK1
                        rw [← hkbe] at HK2 hkb
                        have HAB := Lib.hid (And.intro hA hB)
                        have hxH : (256 : Int) < (H : Int) := by omega
                        clear hA hB hx hka hkbe HRW2
                        go_wp2_with fail
                        refine HK1.out.mono ?_
                        rintro e w8 ⟨rfl, rfl⟩
                        go_wp2_with fail
                        refine HK2.out.mono ?_
                        rintro e w8 ⟨rfl, rfl⟩
                        clear HK1 HK2
                        go_upto_region 52 with (fail)
                        go_cut [240] (fun bv wx => bv = .bool (!InfMath.goodCodes A B) ∧ wx = w10)
                        case first =>
                          by_cases hx0 : x = 0
                          · have g1 : ((x : Int) == 0) = true := by simp; omega
                            have HE : Hid ((!InfMath.goodCodes A B) = true) := Lib.hid (by rw [HG.out, hx0]; simp)
                            clear hx0
                            as_aux_lemma =>
                              go_wp2_with fail
                              go_meet
                              case rel => exact ⟨by rw [HE.out], rfl⟩
                          · have g1 : ((x : Int) == 0) = false := by simp; omega
                            have b1 : (x == 0) = false := by simpa using hx0
                            by_cases hk12 : ka = 1 ∨ ka = 2
                            · have b2 : (ka != 1 && ka != 2) = false := by rcases hk12 with rfl | rfl <;> rfl
                              by_cases h3 : kb = 3
                              · have g5 : ((kb : Int) == 3) = true := by simp; omega
                                have HE : Hid ((!InfMath.goodCodes A B) = true) := Lib.hid (by rw [HG.out, h3]; simp)
                                clear h3 hx0
                                rcases hk12 with hk | hk
                                · have g2 : ((ka : Int) != 1) = false := by simp; omega
                                  clear hk
                                  as_aux_lemma =>
                                    go_wp2_with fail
                                    go_meet
                                    case rel => exact ⟨by rw [HE.out], rfl⟩
                                · have g2 : ((ka : Int) != 1) = true := by simp; omega
                                  have g3 : ((ka : Int) != 2) = false := by simp; omega
                                  clear hk
                                  as_aux_lemma =>
                                    go_wp2_with fail
                                    go_meet
                                    case rel => exact ⟨by rw [HE.out], rfl⟩
                              · have g5 : ((kb : Int) == 3) = false := by simp; omega
                                obtain ⟨K4, hK4⟩ : ∃ K4, ((kb : Int) == 4) = K4 := ⟨_, rfl⟩
                                have HE : Hid ((!InfMath.goodCodes A B) = K4) := Lib.hid (by
                                  rw [HG.out, b1, b2, ← hK4]
                                  have : (kb == 3) = false := by simpa using h3
                                  rw [this]
                                  simp only [Bool.false_or]
                                  rw [Bool.eq_iff_iff]
                                  simp
                                  omega)
                                clear h3 hx0
                                rcases hk12 with hk | hk
                                · have g2 : ((ka : Int) != 1) = false := by simp; omega
                                  clear hk
                                  as_aux_lemma =>
                                    go_wp2_with fail
                                    go_meet
                                    case rel => exact ⟨by rw [HE.out], rfl⟩
                                · have g2 : ((ka : Int) != 1) = true := by simp; omega
                                  have g3 : ((ka : Int) != 2) = false := by simp; omega
                                  clear hk
                                  as_aux_lemma =>
                                    go_wp2_with fail
                                    go_meet
                                    case rel => exact ⟨by rw [HE.out], rfl⟩
                            · have g2 : ((ka : Int) != 1) = true := by simp; omega
                              have g3 : ((ka : Int) != 2) = true := by simp; omega
                              have HE : Hid ((!InfMath.goodCodes A B) = true) := Lib.hid (by
                                rw [HG.out]
                                have b2 : (ka != 1 && ka != 2) = true := by simp; omega
                                rw [b2]; simp)
                              clear hx0 hk12
                              as_aux_lemma =>
                                go_wp2_with fail
                                go_meet
                                case rel => exact ⟨by rw [HE.out], rfl⟩
                        obtain ⟨rfl, rfl⟩ := hcut
                        generalize wc = w10 at *
                        clear y256
                        cases hg : InfMath.goodCodes A B with
                        | false =>
                          as_aux_lemma =>
                            have HB : Hid (Bad s) := Lib.hid (by
                              obtain ⟨s', hs, h8⟩ := HST.out
                              exact .of hs (InfMath.le_bad h8 (by have := HNQ.out; have := HZ.out; omega) (by rw [← HHD.out.1, ← HAB.out.1, ← HAB.out.2]; exact hg)))
                            have x6 : _ := (HX2).out.blk.cell 6
                            have f6 := (HX2).out.blk.frozen 6
                            clear hg
                            simp only [Bool.not_false]
                            as_aux_lemma =>
                              go_wp2_with fail
                              go_ret3
                              exact .inr ⟨_, 2, rfl, Lib.hid (((HX2).out.code_ 2).less fun x hx => List.mem_cons_of_mem _ hx), by decide, HB.out⟩
                        | true =>
                          as_aux_lemma =>
                            have HST2 : Hid (∃ s', InfMath.Steps s s' ∧ St9 l q out wide S most A B fin s') := Lib.hid (by
                              obtain ⟨s', hs, h8⟩ := HST.out
                              obtain ⟨s9, hs9, h9⟩ := InfMath.le_end h8 (by have := HNQ.out; have := HZ.out; omega) (by rw [← HHD.out.1, ← HAB.out.1, ← HAB.out.2]; exact hg)
                              rw [← HHD.out.1, ← HAB.out.1, ← HAB.out.2] at h9
                              exact ⟨s9, hs.trans hs9, h9⟩)
                            have HCO : Hid (CodeOk A ∧ CodeOk B) := Lib.hid (good_ok hg (by rw [HAL.out]; omega) (by rw [HBL.out]; omega) HAA.out.1 HAA.out.2)
                            have HC1 := Lib.hid (codes_row HRA.out HCO.out.1)
                            rw [HAL.out] at HC1
                            clear hg HST HG
                            simp only [Bool.not_true]
                            go_wp2_with fail
                            refine HC1.out.mono ?_
                            rintro e w11 ⟨g1, rfl, HK1, hb11⟩
                            have HX3 := Lib.hid (HX2.out.later hb11)
                            have HC2 := Lib.hid (codes_row (HRB.out.below (Nat.le_refl _) hb11) HCO.out.2)
                            rw [HBL.out] at HC2
                            clear HC1 hb11 HX2
                            go_wp2_with fail
                            refine HC2.out.mono ?_
                            rintro e w12 ⟨g2, rfl, HK2, hb12⟩
                            have HX4 : Hid (XAt w0 w12 g a len cap l q ov out wide S most code ((g1, 9, (texts A).toArray) :: (g2, 9, (texts B).toArray) :: R)) := Lib.hid (((HX3.out.later hb12).less fun x hx => List.mem_cons_of_mem _ hx).more (A := [(g1, 9, (texts A).toArray), (g2, 9, (texts B).toArray)]) (fun x hx => by
                              simp only [List.mem_cons, List.not_mem_nil, or_false] at hx
                              rcases hx with rfl | rfl
                              · exact ⟨(hb12.block g1 HK1.out.lt).trans HK1.out, (by decide : 9 ≠ 76), (by decide : 9 ≠ 5)⟩
                              · exact ⟨HK2.out, (by decide : 9 ≠ 76), (by decide : 9 ≠ 5)⟩))
                            have hpq : p < q := by have := HP.out; omega
                            clear HC2 hb12 HX3
                            as_aux_lemma =>
                              go_wp2_with fail
                              go_ret3
                              exact .inl ⟨g1, g2, q, code, A, B, by rw [HAL.out, HBL.out]; rfl, HX4, HCO.out.1, HCO.out.2, hpq, HST2.out⟩
                · have HB : Hid (Bad s) := Lib.hid (by
                    obtain ⟨s', hs, h7⟩ := HST.out
                    exact .of hs (InfMath.cl_bad h7 (by have := HL.out.1; omega) (by rw [← HSQ.out]; exact hkd)))
                  have hkdI : ((InfMath.kd sm : Nat) : Int) ≠ 1 := by omega
                  generalize InfMath.kd sm = kk at *
                  clear HK HS7 HRI
                  have x6 : _ := (HX7).out.blk.cell 6
                  have f6 := (HX7).out.blk.frozen 6
                  go_wp2_with fail
                  go_ret3
                  exact .inr ⟨_, 2, rfl, Lib.hid (((HX7).out.code_ 2).less fun x hx => List.mem_cons_of_mem _ hx), by decide, HB.out⟩
end
end Go.Proofs.YtdbcendnibgcaaaGreatDoor.RfC
end
