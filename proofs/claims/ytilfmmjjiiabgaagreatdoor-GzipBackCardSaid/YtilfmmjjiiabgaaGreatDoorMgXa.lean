import Derived.Test.YtilfmmjjiiabgaaGreatDoorMgBr
import Derived.Test.YtilfmmjjiiabgaaGreatDoorMgXt
import Derived.Test.YtilfmmjjiiabgaaGreatDoorMgXs

section
/-
  GzipTurned's law.
-/
namespace Go.Proofs.YtilfmmjjiiabgaaGreatDoor.GzC
open Go.RowKit Go.My GzMath CrcMath Flt BitMath InfC
open Go.My.NumMath (bytesOf)

theorem own_by {E : TypeId} {B : Nat} {w : World} {a : Option Addr} {n c : Nat} {l : List UInt8} (h : Own E B w (.slice a n c) l) : l.length = n ∧ Bytes w a n c l := by
  obtain ⟨_, _, he, hb⟩ := h.bytes
  cases he
  exact ⟨rfl, hb⟩
/-- The member of a text, as Wrap makes it. -/
noncomputable def itS (named : Bool) (name : List UInt8) (t : Nat) (d : List UInt8) : It := ⟨named, name, uT t, InfMath.stored d true, d⟩
theorem wrap_it (named : Bool) (name : List UInt8) (t : Nat) (d : List UInt8) : wrapB named name t (InfMath.stored d true) (crc 0#32 d).toNat d.length = (itS named name t d).bytes := by
  unfold wrapB It.bytes It.hd itS tailB
  simp
theorem badH_none : badH false [] = false := by decide
theorem fine_none {t : Nat} {d : List UInt8} (h : d.length ≤ 200) : (itS false [] t d).Fine := fine_sto (fun _ h => nomatch h) (by decide) (fun _ => rfl) (uT_le t) h
theorem len_none (t : Nat) (d : List UInt8) : (itS false [] t d).bytes.length = d.length + 23 := by
  rw [It.len_eq]
  show (putH false [] (uT t)).length + (InfMath.stored d true).length + 8 = _
  rw [InfMath.stored_len]
  unfold putH
  simp [Go.My.NumMath.bytesOf_len]
  omega
theorem own_some {E : TypeId} {B : Nat} {w : World} {a : Option Addr} {n c : Nat} {l : List UInt8} (h : Own E B w (.slice a n c) l) (h0 : 0 < n) : ∃ g, a = some ⟨g, 0, none⟩ ∧ B ≤ g := by
  rcases h.2 with ⟨e, _⟩ | ⟨g, cap, cur, e, hg, _⟩
  · simp only [Value.slice.injEq] at e; omega
  · simp only [Value.slice.injEq] at e
    exact ⟨g, e.1, hg⟩
theorem u8_xor (x y : UInt8) : bits .xor .u8 (x.toNat : Int) (y.toNat : Int) = ((x ^^^ y).toNat : Int) := by
  have h : (x ^^^ y).toNat < 256 := (x ^^^ y).toNat_lt
  have e : ((BitVec.ofInt 8 (x.toNat : Int)) ^^^ (BitVec.ofInt 8 (y.toNat : Int))).toNat = (x ^^^ y).toNat := by
    have e1 : BitVec.ofInt 8 (x.toNat : Int) = x.toBitVec := by
      apply BitVec.eq_of_toNat_eq; simp
    have e2 : BitVec.ofInt 8 (y.toNat : Int) = y.toBitVec := by
      apply BitVec.eq_of_toNat_eq; simp
    rw [e1, e2]; rfl
  have hu : bits .xor .u8 (x.toNat : Int) (y.toNat : Int) = IntKind.u8.wrap ((((BitVec.ofInt 8 (x.toNat : Int)) ^^^ (BitVec.ofInt 8 (y.toNat : Int))).toNat : Nat) : Int) := rfl
  rw [hu, e, IntWalk.u8_in _ (by omega)]
theorem xor_self_eq {x y : UInt8} (e : x ^^^ y = x) : y = 0 := by
  have := congrArg (x ^^^ ·) e
  simpa [← UInt8.xor_assoc] using this
set_option maxRecDepth 100000 in
set_option maxHeartbeats 8000000 in
theorem turned_law (a : Option Addr) (len cap : Nat) (b : List UInt8) (z : Int) (y : UInt8) (w : World) (hb : Bytes w a len cap b) (hO : Ordr w.heap.size w) :
    Calls Tryz.prog 4 #[.slice a len cap, .int .i64 z, .int .u8 (y.toNat : Int)] w fun e w' => e = .returned (.bool true) ∧ Below w.heap.size w w' := by
  have HT := Lib.hid (fun w => told_any w)
  by_cases c1 : len = 0
  · subst c1
    clear hb
    go_enter Tryz.func4, Tryz.ntmps4
    go_wp2_with fail
    refine (HT.out _).mono ?_
    rintro e w' ⟨rfl, hB⟩
    have HB := Lib.hid hB
    clear hB
    go_wp2_with fail
    go_ret
    exact ⟨rfl, HB.out⟩
  have q1 : ((len : Int) == 0) = false := beq_eq_false_iff_ne.2 (by omega)
  by_cases c2 : 200 < len
  · clear hb c1
    go_enter Tryz.func4, Tryz.ntmps4
    go_wp2_with fail
    refine (HT.out _).mono ?_
    rintro e w' ⟨rfl, hB⟩
    have HB := Lib.hid hB
    clear hB
    go_wp2_with fail
    go_ret
    exact ⟨rfl, HB.out⟩
  have q2 : ¬ (200 : Int) < (len : Int) := by omega
  by_cases c3 : y = 0
  · subst c3
    clear hb c1 c2
    go_enter Tryz.func4, Tryz.ntmps4
    go_wp2_with fail
    refine (HT.out _).mono ?_
    rintro e w' ⟨rfl, hB⟩
    have HB := Lib.hid hB
    clear hB
    go_wp2_with fail
    go_ret
    exact ⟨rfl, HB.out⟩
  have q3 : ((y.toNat : Int) == 0) = false := beq_eq_false_iff_ne.2 (fun e => c3 (UInt8.toNat_inj.1 (by simpa using e)))
  have HS := Lib.hid (InfC.store_any true a len cap b w hb (by omega))
  have HI := Lib.hid (And.intro hb (And.intro hO (And.intro c3 trivial)))
  have hbl := hb.len_eq
  clear hb hO c3
  go_enter Tryz.func4, Tryz.ntmps4
  go_wp2_with fail
  refine HS.out.mono ?_
  rintro e w1 ⟨a1, c1', rfl, HO1, HB1⟩
  have HC := Lib.hid (CrcC.ref_bv 0#32 a len cap b w1 (HI.out.1.below (Nat.le_refl _) HB1.out))
  clear HS
  go_wp2_with fail
  refine HC.out.mono ?_
  rintro e w1' ⟨rfl, rfl⟩
  obtain ⟨W, hW⟩ : ∃ W, W = (itS false [] 0 b).bytes := ⟨_, rfl⟩
  have hWl : W.length = len + 23 := by rw [hW, len_none, hbl]
  have hwr := wrap_ok false [] 0 a1 (5 + len) c1' (InfMath.stored b true) (crc 0#32 b).toNat len w1 badH_none (own_by HO1.out).2 (by omega) (crc 0#32 b).isLt (by omega)
  rw [show wrapB false [] 0 (InfMath.stored b true) (crc 0#32 b).toNat len = W from by rw [hW, ← wrap_it, hbl]] at hwr
  have HW := Lib.hid hwr
  have HWW := Lib.hid (And.intro hW hWl)
  clear hwr hW HC
  go_wp2_with fail
  refine HW.out.mono ?_
  rintro e w3 ⟨v3, rfl, ho3, hb3⟩
  obtain ⟨a3, c3', rfl, hby3⟩ := ho3.bytes
  rw [hWl] at hby3 ⊢
  have HB3 := Lib.hid (HB1.out.trans (hb3.mono HB1.out.size))
  have HY3 := Lib.hid hby3
  have n1 : IntKind.i64.wrap ((len : Int) + 8) = (len : Int) + 8 := IntWalk.i64_in _ (by omega)
  have n2 : ¬ ((len + 23 : Nat) : Int) < (len : Int) + 8 := by omega
  have n3 : IntKind.i64.wrap (((len + 23 : Nat) : Int) - ((len : Int) + 8)) = 15 := by rw [IntWalk.i64_in _ (by omega)]; omega
  clear HW HO1 HB1 ho3 hb3 hby3 hWl
  obtain ⟨u, hu, hu2⟩ : ∃ u : Nat, IntKind.u64.wrap z = (u : Int) ∧ u < 18446744073709551616 := by
    refine ⟨(z % 18446744073709551616).toNat, ?_, by omega⟩
    simp [IntKind.wrap, IntKind.bits, IntKind.signed]
    omega
  obtain ⟨j, hj, hj2⟩ : ∃ j : Nat, (u : Int).tmod ((len : Int) + 8) = (j : Int) ∧ j < len + 8 := by
    refine ⟨u % (len + 8), ?_, Nat.mod_lt _ (by omega)⟩
    rw [show ((len : Int) + 8) = ((len + 8 : Nat) : Int) by simp, Int.ofNat_tmod]
  have n4 : IntKind.u64.wrap ((len : Int) + 8) = (len : Int) + 8 := IntWalk.u64_in _ (by omega)
  have n5 : IntKind.u64.wrap (j : Int) = (j : Int) := IntWalk.u64_in _ (by omega)
  have n6 : IntKind.i64.wrap (j : Int) = (j : Int) := IntWalk.i64_in _ (by omega)
  have n7 : IntKind.i64.wrap (15 + (j : Int)) = ((15 + j : Nat) : Int) := by rw [IntWalk.i64_in _ (by omega)]; simp
  have n8 : ¬ (len : Int) + 8 = 0 := by omega
  go_upto_region 10 with (fail)
  obtain ⟨k, hk⟩ : ∃ k, k = 15 + j := ⟨_, rfl⟩
  rw [show ((len : Int) + 23 - ((len : Int) + 8) + (j : Int)) = (k : Int) by omega]
  have hk2 : k < len + 23 := by omega
  have HE : Hid (My.Own 5 w3.heap.size (w3.alloc (.cells #[] 5)) (.slice (some ⟨w3.heap.size, 0, none⟩) 0 0) []) := Lib.hid (My.Own.empty 5 w3 (Nat.le_refl _))
  have HBA : Hid (Bytes (w3.alloc (.cells #[] 5)) a3 (len + 23) c3' W) := Lib.hid (HY3.out.below (Nat.le_refl _) ((Below.refl _ _).alloc (Nat.le_refl _) _))
  have HKJ := Lib.hid (And.intro hk (And.intro hj2 hk2))
  clear n1 n2 n3 n4 n5 n6 n7 n8 hu hu2 hj hk
  go_wp2_with (at_builtin; refine wpList_append_lie (by rfl) (.tmp 62) (.tmp 63) 25 (by rfl) w3.heap.size 5 Tryz.underlying25 info5 (.slice (some ⟨w3.heap.size, 0, none⟩) 0 0) [] (by rfl) HE.out a3 (len + 23) c3' W (by rfl) HBA.out (by simp; omega) (by simp) ?_)
  intro a4 c4 w4 hown hg _
  have hb4 : Below w3.heap.size w3 w4 := grown_below (My.Own.empty 5 w3 (Nat.le_refl _)) ((Below.refl _ _).alloc (Nat.le_refl _) _) hg (by simp)
  obtain ⟨g4, rfl, hg4⟩ := own_some hown (by omega)
  have hkW : k < W.length := by rw [HWW.out.2]; exact hk2
  have x0 : w4.cell? ⟨g4, k, none⟩ = some (.int .u8 ((W[k]).toNat : Int)) := RefC.own_cell hown HWW.out.2 k hkW
  have x1 : w4.frozen? ⟨g4, k, none⟩ = false := RefC.own_free hown HWW.out.2 k
  have x2 : bits .xor .u8 ((W[k]).toNat : Int) (y.toNat : Int) = ((W[k] ^^^ y).toNat : Int) := u8_xor W[k] y
  obtain ⟨y2, hy2⟩ : ∃ y2, y2 = W[k] ^^^ y := ⟨_, rfl⟩
  have hne : y2 ≠ W[k] := fun e => HI.out.2.2.1 (by rw [hy2] at e; exact xor_self_eq e)
  rw [← hy2] at x2
  generalize hW0 : W[k] = y0 at x0 x2 hne
  have hgd : W.getD k 0 = y0 := by rw [List.getD_eq_getElem?_getD, List.getElem?_eq_getElem hkW]; exact hW0
  have HYK := Lib.hid (And.intro hgd hne)
  have HO4 := Lib.hid hown
  have HB4 := Lib.hid hb4
  clear hown hg hb4 hy2 hne hW0 hgd hkW HE HBA
  go_upto_region 12 with (fail)
  obtain ⟨w5, hw5⟩ : ∃ w5, w5 = w4.setCell ⟨g4, k, none⟩ (.int .u8 (y2.toNat : Int)) := ⟨_, rfl⟩
  have HO5 : Hid (Own 5 w3.heap.size w5 (.slice (some ⟨g4, 0, none⟩) (len + 23) c4) (W.set k y2)) := Lib.hid (by rw [hw5]; exact RefC.own_store HO4.out HWW.out.2 k y2)
  have HB5 : Hid (Below w3.heap.size w3 w5) := Lib.hid (by rw [hw5]; exact HB4.out.setCell hg4 _)
  have HG1 : Hid (Goes W len f1000 true 0 0 (mbs 0 [itS false [] 0 b]) none) := Lib.hid (by
    have h := goes_whole (most := len) (ratio := f1000) (by omega) [itS false [] 0 b] (by simp) (fun i hi => by
      rw [List.mem_singleton] at hi
      rw [hi]
      exact good_sto (fine_none (by omega)) (ovr_1000 ⟨b.length, by omega⟩)) (by rw [allD_cons]; show (b ++ _).length ≤ _; simp [allD]; omega)
    rw [allB_cons, show allB [] = [] from rfl, List.append_nil, ← HWW.out.1] at h
    exact h)
  have HG2 : Hid (Goes (W.set k y2) len f1000 true 0 0 [] (some 2)) := Lib.hid (by
    have h := goes_turned (d := b) (u := uT 0) (j := j) (y := y2) (by omega) (uT_le 0) (by omega)
    have e : (⟨false, [], uT 0, InfMath.stored b true, b⟩ : It).bytes = W := HWW.out.1.symm
    simp only [e] at h
    rw [show W.length - (b.length + 8) + j = k by rw [HWW.out.2, HKJ.out.1]; omega, hbl] at h
    exact h (by rw [HYK.out.1]; exact HYK.out.2))
  have HA1 := Lib.hid (gall_any a3 (len + 23) c3' W len f1000 _ none w5 (HY3.out.below (Nat.le_refl _) HB5.out) (by omega) (by omega) ((HI.out.2.1.up (HB3.out.trans (HB5.out.mono HB3.out.size)))) HG1.out)
  rw [← hw5]
  clear x0 x1 x2 hw5 HO4 HB4
  go_wp2_with fail
  refine HA1.out.mono ?_
  rintro e w6 ⟨⟨-, pv, ov, oc, rfl, -, -⟩ | ⟨c, h, -⟩, hb6⟩
  case inr => cases h
  have HB6 := Lib.hid (HB3.out.trans ((HB5.out.trans (hb6.mono HB5.out.size)).mono HB3.out.size))
  have HA2 := Lib.hid (gall_any (some ⟨g4, 0, none⟩) (len + 23) c4 (W.set k y2) len f1000 _ (some 2) w6 ((own_by HO5.out).2.below (Nat.le_refl _) hb6) (by omega) (by omega) (HI.out.2.1.up HB6.out) HG2.out)
  clear HA1 hb6 HO5 HB5 HG1 HG2
  go_wp2_with fail
  refine HA2.out.mono ?_
  rintro e w7 ⟨⟨h, -⟩ | ⟨c, h, -, rfl⟩, hb7⟩
  · cases h
  cases h
  have HB7 := Lib.hid (HB6.out.trans (hb7.mono HB6.out.size))
  clear HA2 hb7 HB6
  go_wp2_with fail
  refine (HT.out _).mono ?_
  rintro e w8 ⟨rfl, hb8⟩
  have HB8 := Lib.hid (HB7.out.trans (hb8.mono HB7.out.size))
  clear hb8 HB7
  go_wp2_with fail
  go_ret
  exact ⟨rfl, HB8.out⟩
end Go.Proofs.YtilfmmjjiiabgaaGreatDoor.GzC
end
