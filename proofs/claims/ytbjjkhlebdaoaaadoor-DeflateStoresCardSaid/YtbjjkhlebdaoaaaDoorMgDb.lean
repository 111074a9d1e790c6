import Derived.Test.YtbjjkhlebdaoaaaDoorMgDw
import Derived.Test.YtbjjkhlebdaoaaaDoorMgE
import Derived.Test.YtbjjkhlebdaoaaaDoorMgH
import Derived.Test.YtbjjkhlebdaoaaaDoorMgA
import Derived.Lib.SlBytesConst
import Derived.Test.YtbjjkhlebdaoaaaDoorMgBu
import Derived.Test.YtbjjkhlebdaoaaaDoorMgDa

section
/-
  deflate.All.
-/
namespace Go.Proofs.YtbjjkhlebdaoaaaDoor.DfC
open Go.RowKit Go.My BitMath BitC BlkC MatMath
open LzMath (Tok tot ex)
open InfMath (Rd gap stbs stos)
open EfC (lv lv_le st ch lz Pls)

/-- The plan of a level. -/
def plw (n : Nat) (wide : Bool) : Pl := ⟨st n, ch n, lz n, EfC.gd n, wide⟩
/-- The bytes that All makes. -/
def Dfl (n : Nat) (wide : Bool) (s P : List UInt8) : Prop :=
  (st n = true ∧ P = stos s true) ∨
  (st n = false ∧ ∃ X K, P = pack X ∧ Many (plw n wide) s K ∧ Rd wide 0 X s true ∧ X.length ≤ rfx wide (tk (plw n wide) s) K ∧ X.length ≤ 8 * sto s.length ∧ Bits wide 0 (tk (plw n wide) s) K true X)
theorem Dfl.same {n : Nat} {wide : Bool} {s P Q : List UInt8} (h : Dfl n wide s P) (h' : Dfl n wide s Q) : P = Q := by
  rcases h with ⟨e, rfl⟩ | ⟨e, X, K, rfl, hm, -, -, -, hb⟩
  · rcases h' with ⟨-, rfl⟩ | ⟨e', -⟩
    · rfl
    · rw [e] at e'; cases e'
  · rcases h' with ⟨e', -⟩ | ⟨-, X', K', rfl, hm', -, -, -, hb'⟩
    · rw [e] at e'; cases e'
    · obtain rfl := many_one hm hm'
      rw [hb.same hb']
theorem sto_pos (n : Nat) : 5 ≤ sto n := by unfold sto; omega
theorem pack_stos (s : List UInt8) (last : Bool) : pack (stbs 0 s last) = stos s last := by
  rw [InfMath.stbs_zero last _ 0 s (Nat.le_refl _) rfl]
  exact pack_bitsOf _
theorem gap0 {L n : Nat} (h : L ≤ 3 + gap 0 + 8 * (sto n - 1)) : L ≤ 8 * sto n := by
  have h1 : gap 0 = 5 := rfl
  have := sto_pos n
  omega
theorem Dfl.len {n : Nat} {wide : Bool} {s P : List UInt8} (h : Dfl n wide s P) : P.length ≤ sto s.length := by
  rcases h with ⟨-, rfl⟩ | ⟨-, X, K, rfl, -, -, -, hx, -⟩
  · rw [InfMath.stos_len _ s true (Nat.le_refl _)]; exact Nat.le_refl _
  · rw [pack_len]; omega
set_option maxRecDepth 100000 in
set_option maxHeartbeats 4000000 in
theorem all_any (x : Nat) (wide : Bool) (a : Option Addr) (c : Nat) (s : List UInt8) (w : World) (hb : Bytes w a s.length c s) (hl : s.length ≤ 100000) (hT : Tbls w.heap.size w) (hP : Pls w) :
    Calls Tryd.prog 8 #[.slice a s.length c, .float .f64 x, .bool wide] w fun e w' => ∃ P, Dfl (lv x) wide s P ∧ OwnRet 5 w P e w' := by
  have HB := Lib.hid hb
  have HT := Lib.hid hT
  have HP := Lib.hid hP
  have hlc := hb.le_cap
  have hcm := hb.cap_le
  obtain ⟨len, hlen⟩ : ∃ len, len = s.length := ⟨_, rfl⟩
  rw [← hlen] at hl hlc ⊢
  have HLE := Lib.hid hlen
  obtain ⟨n, hn⟩ : ∃ n, n = lv x := ⟨_, rfl⟩
  have HN : Hid (n = lv x) := Lib.hid hn
  rw [← hn]
  clear hb hT hP hlen hn
  go_enter Tryd.func8, Tryd.ntmps8
  go_wp2_with fail
  refine (new_writer w).mono ?_
  rintro e w1 ⟨rfl, hw1⟩
  have HW : Hid (Wr w.heap.size w1 w.heap.size none [] ∧ Below w.heap.size w w1) := Lib.hid (by rw [← hw1]; exact ⟨wr_new w, (Below.refl _ w).alloc (Nat.le_refl _) _⟩)
  clear hw1
  have HPL := Lib.hid (EfC.plan_any x w1 (HP.out.below (Nat.le_refl _) HW.out.2))
  rw [← HN.out] at HPL
  unfold EfC.pl EfC.pv at HPL
  have hnw : Lit.wf (.int .i64 (ch n)) = true := by
    have h9 : n ≤ 9 := by rw [HN.out]; exact lv_le x
    exact (show ∀ k : Fin 10, Lit.wf (.int .i64 (ch k.val)) = true by decide +kernel) ⟨n, by omega⟩
  have HNW := Lib.hid hnw
  clear hnw
  obtain ⟨S, hS⟩ : ∃ S, S = st n := ⟨_, rfl⟩
  rw [← hS] at HPL
  have HSN := Lib.hid hS
  clear hS
  cases S
  · go_wp2_with fail
    refine HPL.out.mono ?_
    rintro e w2 ⟨rfl, hb2⟩
    obtain ⟨Y, hY⟩ : ∃ Y, Y = w2.alloc (.cells #[.bool false, .int .i64 (ch n), .bool (lz n), .int .i64 (EfC.gd n)] 36) := ⟨_, rfl⟩
    have hwy : Below w1.heap.size w1 Y := by rw [hY]; exact hb2.alloc hb2.size _
    have hwY : Below w.heap.size w Y := HW.out.2.trans (hwy.mono HW.out.2.size)
    have HWY := Lib.hid hwY
    have HWR := Lib.hid (write_piece w.heap.size w.heap.size none [] (plw n wide) a c s Y (HB.out.below (Nat.le_refl _) hwY) (by have := HLE.out; omega) HNW.out (HW.out.1.below hwy) (by simp) (HT.out.below hwY (Nat.le_refl _)))
    unfold MatC.pv plw at HWR
    simp only [← HSN.out, ← HLE.out] at HWR
    clear hwy hwY hb2
    go_wp2_with fail
    rw [← hY]
    refine HWR.out.mono ?_
    rintro e w3 ⟨rfl, X, r', K, hw3, ho3, -, hm, hrd, hx1, hx2, hbi⟩
    rw [List.nil_append] at hw3
    have HBY := Lib.hid (bytes_any w.heap.size w.heap.size r' X w3 hw3 (by have h5 := gap0 hx2; have h6 : sto s.length ≤ 1000000 := (by unfold sto; have := HLE.out; omega); omega))
    have HB3 : Hid (Below w.heap.size w w3) := Lib.hid (HWY.out.trans (ho3.below (Nat.le_trans (Nat.le_refl _) HWY.out.size) fun k hk => by rcases hk with rfl | hk <;> first | omega | cases hk))
    have HD : Hid (Dfl n wide s (pack X)) := Lib.hid (.inr ⟨HSN.out.symm, X, K, rfl, by unfold plw; rw [← HSN.out]; exact hm, hrd, by unfold plw; rw [← HSN.out]; exact hx1, gap0 hx2, by unfold plw; rw [← HSN.out]; exact hbi⟩)
    clear hw3 ho3 hm hrd hx1 hx2 hbi hY HWR HPL
    go_wp2_with fail
    refine HBY.out.mono ?_
    rintro e w4 ⟨v, rfl, hown, hb4⟩
    have HF : Hid (OwnRet 5 w (pack X) (.returned v) w4) := Lib.hid ⟨v, rfl, LzC.own_from hown HB3.out.size, HB3.out.trans (hb4.mono HB3.out.size)⟩
    clear hown hb4
    go_wp2_with fail
    go_ret
    exact ⟨_, HD.out, HF.out⟩
  · go_wp2_with fail
    refine HPL.out.mono ?_
    rintro e w2 ⟨rfl, hb2⟩
    obtain ⟨Y, hY⟩ : ∃ Y, Y = w2.alloc (.cells #[.bool true, .int .i64 (ch n), .bool (lz n), .int .i64 (EfC.gd n)] 36) := ⟨_, rfl⟩
    have hwy : Below w1.heap.size w1 Y := by rw [hY]; exact hb2.alloc hb2.size _
    have hwY : Below w.heap.size w Y := HW.out.2.trans (hwy.mono HW.out.2.size)
    have HWY := Lib.hid hwY
    have HWR := Lib.hid (store_any w.heap.size w.heap.size none [] s true a len c Y (by omega) (HW.out.1.below hwy) (by simp) (by rw [HLE.out]; exact HB.out.below (Nat.le_refl _) hwY) (fun h0 b off e => by
      rcases HB.out.at_ with h9 | ⟨b', off', ha, hs9, -⟩
      · have := HLE.out; omega
      · rw [e] at ha
        injection ha with ha
        injection ha with e1 _
        rintro (h4 | h4)
        · omega
        · cases h4))
    clear hwy hwY hb2
    go_wp2_with fail
    rw [← hY]
    refine HWR.out.mono ?_
    rintro e w3 ⟨r', rfl, hw3, ho3, -⟩
    rw [List.nil_append, List.length_nil] at hw3
    have HBY := Lib.hid (bytes_any w.heap.size w.heap.size r' (stbs 0 s true) w3 hw3 (by have h5 := stored_room len 0 s true (by rw [HLE.out]; exact Nat.le_refl _); omega))
    have HB3 : Hid (Below w.heap.size w w3) := Lib.hid (HWY.out.trans (ho3.below (Nat.le_trans (Nat.le_refl _) HWY.out.size) fun k hk => by rcases hk with rfl | hk <;> first | omega | cases hk))
    rw [pack_stos] at HBY
    have HD : Hid (Dfl n wide s (stos s true)) := Lib.hid (.inl ⟨HSN.out.symm, rfl⟩)
    clear hw3 ho3 hY HWR HPL
    go_wp2_with fail
    refine HBY.out.mono ?_
    rintro e w4 ⟨v, rfl, hown, hb4⟩
    have HF : Hid (OwnRet 5 w (stos s true) (.returned v) w4) := Lib.hid ⟨v, rfl, LzC.own_from hown HB3.out.size, HB3.out.trans (hb4.mono HB3.out.size)⟩
    clear hown hb4
    go_wp2_with fail
    go_ret
    exact ⟨_, HD.out, HF.out⟩
end Go.Proofs.YtbjjkhlebdaoaaaDoor.DfC
end

section
/-
  Law 16's long, told.
-/
namespace Go.Proofs.YtbjjkhlebdaoaaaDoor.DfC
open Go.RowKit Go.My BitMath BitC BlkC MatMath
open InfMath (stos)
open EfC (lv Pls)

/-- A text so many times. -/
def rep (b : List UInt8) : Nat → List UInt8
  | 0 => []
  | k + 1 => rep b k ++ b
theorem rep_len (b : List UInt8) (k : Nat) : (rep b k).length = k * b.length := by
  induction k with
  | zero => simp [rep]
  | succ k ih => show (rep b k ++ b).length = _; rw [List.length_append, ih, Nat.succ_mul]
/-- How many times. -/
def times (n : Int) : Nat := 1 + (n % 16).toNat
theorem times_le (n : Int) : 1 ≤ times n ∧ times n ≤ 16 := by unfold times; omega
theorem rep_le (b : List UInt8) (n : Int) (m : Nat) (h : b.length ≤ m) : (rep b (times n)).length ≤ 16 * m := by
  rw [rep_len]
  exact Nat.mul_le_mul (times_le n).2 h
theorem conv_own {w : World} {a : Option Addr} {n c : Nat} {l : List UInt8} (h : Bytes w a n c l) : (convert 22 9 (.slice a n c)).run Tryd.prog w = .ok (.string ⟨l.toArray⟩) w :=
  run_string_bytes w 22 9 5 Tryd.underlying22 Tryd.underlying5 Tryd.underlying9 h
theorem own_ret {w w' : World} {l : List UInt8} {e : Ending} (h : My.OwnRet 5 w l e w') : ∃ a c, e = .returned (.slice a l.length c) ∧ Bytes w' a l.length c l ∧ Below w.heap.size w w' := by
  obtain ⟨v, rfl, ho, hb⟩ := h
  obtain ⟨a, c, rfl, h2⟩ := ho.bytes
  exact ⟨a, c, rfl, h2, hb⟩
set_option maxHeartbeats 4000000 in
theorem long_any {a : Option Addr} {len cap : Nat} {b : List UInt8} (n : Int) (w : World) (hb : Bytes w a len cap b) (hl : len ≤ 100000) :
    Calls Tryd.prog 6 #[.slice a len cap, .int .i64 n] w (My.OwnRet 5 w (rep b (times n))) := by
  have HB := Lib.hid hb
  have HL := Lib.hid hb.len_eq
  clear hb
  have hm := i64_and_mask n 4 (by omega) 15 16 (by decide) (by decide)
  obtain ⟨t, ht⟩ : ∃ t, t = times n := ⟨_, rfl⟩
  have hn8 : (1 : Int) + n % 16 = (t : Int) := by rw [ht]; unfold times; omega
  have hn9 : 0 ≤ n % 16 ∧ n % 16 < 16 := by omega
  have ht8 := (times_le n).2
  rw [← ht] at ht8 ⊢
  clear ht
  generalize n % 16 = n8 at *
  go_enter Tryd.func6, Tryd.ntmps6
  go_wp2_with fail
  go_loopw [5, 6] (fun ov iv wr => ∃ (k : Nat) (aa : Option Addr) (ca : Nat), k ≤ t ∧ iv = .int .i64 (k : Int) ∧ ov = .slice aa (k * len) ca ∧ Hid (My.Own 5 w.heap.size wr (.slice aa (k * len) ca) (rep b k)) ∧ Hid (Below w.heap.size w wr)) (fun _ iv _ => t - (intOf iv).toNat)
  case atStart => exact ⟨0, none, 0, Nat.zero_le _, rfl, by simp, Lib.hid (by simpa [rep] using My.Own.nil _ _ _), Lib.hid (Below.refl _ _)⟩
  case round =>
    obtain ⟨k, aa, ca, hk, rfl, rfl, HO, HW⟩ := hrel
    by_cases hlt : k < t
    · have g1 : decide (k < t) = true := by simp; omega
      have HBr := Lib.hid (HB.out.below (Nat.le_refl _) HW.out)
      have HRL : Hid ((rep b k).length = k * len) := Lib.hid (by rw [rep_len, HL.out])
      have hkl : k * len ≤ 16 * 100000 := Nat.mul_le_mul (by omega) hl
      have hk1 : k * len + len = (k + 1) * len := by rw [Nat.succ_mul]
      obtain ⟨M, hM⟩ : ∃ M, M = k * len := ⟨_, rfl⟩
      rw [← hM] at HO HRL hkl hk1 ⊢
      have HK1 := Lib.hid hk1
      clear hk1 hM
      go_wp2_with (at_builtin; refine wpList_append_lie (by rfl) (.tmp 14) (.tmp 15) 22 (by rfl) w.heap.size 5 Tryd.underlying22 BitC.info5 (.slice aa M ca) (rep b k) (by rfl) HO.out a len cap b (by rfl) HBr.out (by rw [HRL.out]; omega) HW.out.size ?_)
      rw [HRL.out]
      intro a2 c2 w2 hown hg _
      have HO2 : Hid (My.Own 5 w.heap.size w2 (.slice a2 ((k + 1) * len) c2) (rep b (k + 1))) := Lib.hid (by rw [← HK1.out]; exact hown)
      have HW2 := Lib.hid (grown_below HO.out HW.out hg HW.out.size)
      clear hown hg HO HW
      go_wp2_with fail
      go_roundw
      case rel => exact ⟨k + 1, a2, c2, by omega, by go_num, by rw [HK1.out], HO2, HW2⟩
      case measure => simp [intOf]; omega
    · obtain rfl : k = t := by omega
      have g1 : decide (k < k) = false := by simp
      go_wp2_with fail
      go_ret
      exact ⟨_, rfl, HO.out, HW.out⟩
theorem lv_0 : lv 0 = 0 := EfC.lv_lo (by rw [EfC.num_of EfC.n_0, EfC.K_0]; exact Flt.U_pos)
theorem stos_nil : stos [] true = [1, 0, 0, 255, 255] := by rw [InfMath.stos_one _ _ (by decide)]; rfl
set_option maxRecDepth 100000 in
set_option maxHeartbeats 4000000 in
theorem told_any (w : World) (hT : Tbls w.heap.size w) (hP : Pls w) : Calls Tryd.prog 5 #[] w fun e w' => e = .returned (.bool true) ∧ Below w.heap.size w w' := by
  have HA := Lib.hid (all_any 0 false none 0 [] w (nil_bytes w) (by simp) hT hP)
  rw [lv_0, List.length_nil] at HA
  have HM1 := Lib.hid (fun w => most_any 0 w (by decide))
  have HM2 := Lib.hid (fun w => most_any (-1) w (by decide))
  rw [show mostZ 0 = 5 by decide +kernel] at HM1
  rw [show mostZ (-1) = 0 by decide +kernel] at HM2
  clear hT hP
  go_enter Tryd.func5, Tryd.ntmps5
  go_wp2_with fail
  refine HA.out.mono ?_
  rintro e w1 ⟨P, hd, hown⟩
  obtain rfl : P = [1, 0, 0, 255, 255] := by
    rcases hd with ⟨-, rfl⟩ | ⟨h, -⟩
    · exact stos_nil
    · exact absurd h (by decide)
  obtain ⟨a1, c1, rfl, hb1, hbl⟩ := own_ret hown
  have hcv := conv_own hb1
  rw [show ([1, 0, 0, 255, 255] : List UInt8).length = 5 from rfl] at hcv
  have HBL := Lib.hid hbl
  clear hd hown hb1 hbl
  go_wp2_with fail
  refine (HM1.out _).mono ?_
  rintro e w2 ⟨rfl, rfl⟩
  go_wp2_with fail
  refine (HM2.out _).mono ?_
  rintro e w2 ⟨rfl, rfl⟩
  go_wp2_with fail
  go_ret
  exact ⟨rfl, HBL.out⟩
end Go.Proofs.YtbjjkhlebdaoaaaDoor.DfC
end

section
/-
  A later world with a text in it: All, told there.
-/
namespace Go.Proofs.YtbjjkhlebdaoaaaDoor.DfC
open Go.RowKit Go.My BitMath BlkC
open EfC (lv Pls)

theorem own_by {base n c : Nat} {w : World} {a : Option Addr} {l : List UInt8} (h : My.Own 5 base w (.slice a n c) l) : n = l.length ∧ Bytes w a n c l := by
  obtain ⟨a', c', e, hb⟩ := h.bytes
  injection e with e1 e2 e3
  subst e1 e3 e2
  exact ⟨rfl, hb⟩
/-- A later world with a text in it. -/
structure Ctx (w w' : World) (a : Option Addr) (c : Nat) (s : List UInt8) : Prop where
  bel : Below w.heap.size w w'
  by_ : Bytes w' a s.length c s
theorem Ctx.next {w w1 w2 : World} {a : Option Addr} {c : Nat} {s : List UInt8} (h : Ctx w w1 a c s) (hb : Below w1.heap.size w1 w2) : Ctx w w2 a c s :=
  ⟨h.bel.trans (hb.mono h.bel.size), h.by_.below (Nat.le_refl _) hb⟩
theorem all_at {w w' : World} {a : Option Addr} {c : Nat} {s : List UInt8} (x : Nat) (wide : Bool) (hl : s.length ≤ 100000) (hT : Tbls w.heap.size w) (hP : Pls w) (h : Ctx w w' a c s) :
    Calls Tryd.prog 8 #[.slice a s.length c, .float .f64 x, .bool wide] w' fun e w2 => ∃ P, Dfl (lv x) wide s P ∧ My.OwnRet 5 w' P e w2 :=
  all_any x wide a c s w' h.by_ hl ((hT.below h.bel (Nat.le_refl _)).more h.bel.size) (hP.below (Nat.le_refl _) h.bel)
theorem told_at {w w' : World} (hT : Tbls w.heap.size w) (hP : Pls w) (h : Below w.heap.size w w') :
    Calls Tryd.prog 5 #[] w' fun e w2 => e = .returned (.bool true) ∧ Below w'.heap.size w' w2 :=
  told_any w' ((hT.below h (Nat.le_refl _)).more h.size) (hP.below (Nat.le_refl _) h)
end Go.Proofs.YtbjjkhlebdaoaaaDoor.DfC
end

section
/-
  What is laid: plans, and behind them the tables of blocks.
-/
namespace Go.Proofs.YtbjjkhlebdaoaaaDoor.DfC
open Go.RowKit Go.My BlkC

theorem laid_tail {P : Program} {k : String × DataW Unit} {rest : List (String × DataW Unit)} {W : World} (h : laidMet P (k :: rest) W) : laidMet P rest W := by
  obtain ⟨ps, ⟨g1, t1, cs1, f1, p1, q1, hg1, ht1, hv1, hd1, hr, e⟩, hn, hc⟩ := h
  subst e
  exact ⟨q1, hr, (List.nodup_append.1 hn).2.1, fun b off hm => hc b off (List.mem_append_right _ hm)⟩
end Go.Proofs.YtbjjkhlebdaoaaaDoor.DfC
end

section
/-
  What All makes is shown to be read.
-/
namespace Go.Proofs.YtbjjkhlebdaoaaaDoor.DfC
open Go.RowKit Go.My BitMath BlkC
open InfMath (Rd stbs stos)

theorem most_len {n : Nat} (h : n ≤ 1073741824) : (sto n : Int) ≤ mostZ (n : Int) := by
  have e : cut (n : Int) = n := (cut_le n).2 (by omega)
  unfold mostZ
  rw [e]
  have h1 : stoZ (n : Int) = sto n := by unfold stoZ; rw [if_neg (by omega)]; congr 1; omega
  have h2 := grp_le (n : Int) (by omega)
  rw [h1]; omega
theorem Dfl.most {n : Nat} {wide : Bool} {s P : List UInt8} (h : Dfl n wide s P) (hs : s.length ≤ 100000) : ((P.length : Nat) : Int) ≤ mostZ (s.length : Int) := by
  have h1 := h.len
  have h2 := most_len (n := s.length) (by omega)
  omega
end Go.Proofs.YtbjjkhlebdaoaaaDoor.DfC
end
