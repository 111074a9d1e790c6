/-
  WindowLike's law: two windows side by side.
-/
import Derived.Test.YtdegclfgmjcdfaaWinF
import Derived.Test.YtdegclfgmjcdfaaWinO
namespace Go.Proofs.Ytdegclfgmjcdfaa.WinC
open Go.RowKit Go.My WinMath

theorem own_weak {E : TypeId} {B B' : Nat} {w : World} {v : Value} {l : List UInt8} (h : Own E B w v l) (hB : B' ≤ B) : Own E B' w v l := by
  refine ⟨h.1, ?_⟩
  rcases h.2 with hn | ⟨g, cap, cur, rfl, hb, rest⟩
  · exact .inl hn
  · exact .inr ⟨g, cap, cur, rfl, Nat.le_trans hB hb, rest⟩
theorem Wn.weak {B B' g S : Nat} {w : World} {r : Option Nat} {all : List UInt8} (h : Wn B w g S r all) (hB : B' ≤ B) : Wn B' w g S r all := by
  obtain ⟨v, l, next, q1, q2⟩ := h
  exact ⟨v, l, next, ⟨q1.blk, own_weak q1.own hB, Nat.le_trans hB q1.base⟩, q2⟩

/-- Two windows that were made in the call, apart from each other. -/
structure Two (w wr : World) (ga : Nat) (ra : Option Nat) (gb : Nat) (rb : Option Nat) (N : Nat) (A C : List UInt8) : Prop where
  ka : Kept w wr ga N ra A
  kb : Kept w wr gb 65536 rb C
  sep : ∀ k, Fp ga ra k → ¬ Fp gb rb k

section
variable {w wr w' : World} {ga gb N : Nat} {ra rb : Option Nat} {A C A' : List UInt8}
theorem Two.later (h : Two w wr ga ra gb rb N A C) (hb : Below wr.heap.size wr w') : Two w w' ga ra gb rb N A C := ⟨h.ka.later hb, h.kb.later hb, h.sep⟩
theorem Two.left_a (h : Two w wr ga ra gb rb N A C) (hp : Left w.heap.size ga N ra wr A' w') : ∃ r', Two w w' ga r' gb rb N A' C ∧ Only (Fp ga ra) wr w' := by
  obtain ⟨r', h1, h2, h3⟩ := hp
  have hb := h.ka.below.trans (h2.below h.ka.below.size h.ka.wn.fp)
  refine ⟨r', ⟨⟨h1, hb⟩, ⟨h.kb.wn.only h2 (fun e => h.sep gb e (.inl rfl)) (fun k hk e => h.sep k e (.inr hk)), hb⟩, fun k hk hk2 => ?_⟩, h2⟩
  rcases hk with e | e
  · exact h.sep k (.inl e) hk2
  · rcases h3 with e2 | ⟨j, e2, hj⟩
    · exact h.sep k (.inr (by rw [← e2]; exact e)) hk2
    · have := h.kb.wn.flt k hk2
      rw [e2] at e
      injection e with e
      omega
theorem Two.left_b (h : Two w wr ga ra gb rb N A C) (hp : Left w.heap.size gb 65536 rb wr A' w') : ∃ r', Two w w' ga ra gb r' N A A' ∧ Only (Fp gb rb) wr w' := by
  obtain ⟨r', h1, h2, h3⟩ := hp
  have hb := h.kb.below.trans (h2.below h.kb.below.size h.kb.wn.fp)
  refine ⟨r', ⟨⟨h.ka.wn.only h2 (fun e => h.sep ga (.inl rfl) e) (fun k hk e => h.sep k (.inr hk) e), hb⟩, ⟨h1, hb⟩, fun k hk hk2 => ?_⟩, h2⟩
  rcases hk2 with e | e
  · exact h.sep k hk (.inl e)
  · rcases h3 with e2 | ⟨j, e2, hj⟩
    · exact h.sep k hk (.inr (by rw [← e2]; exact e))
    · have := h.ka.wn.flt k hk
      rw [e2] at e
      injection e with e
      omega
end

section
variable {w wr : World} {ga gb N : Nat} {ra rb : Option Nat} {A C : List UInt8}
theorem put_a (c : UInt8) (h : Hid (Two w wr ga ra gb rb N A C)) (hl : A.length ≤ 100000000000) :
    Calls Try.prog 9 #[.pointer (some ⟨ga, 0, none⟩), .int .u8 (c.toNat : Int)] wr fun e w' => e = .returned (.tuple #[]) ∧ ∃ r', Hid (Two w w' ga r' gb rb N (A ++ [c]) C) ∧ Hid (Only (Fp ga ra) wr w') :=
  (put_any c _ ga N ra A wr h.out.ka.wn hl).mono fun _ _ ⟨he, hp⟩ => ⟨he, let ⟨r', h1, h2⟩ := h.out.left_a hp; ⟨r', Lib.hid h1, Lib.hid h2⟩⟩
theorem put_b (c : UInt8) (h : Hid (Two w wr ga ra gb rb N A C)) (hl : C.length ≤ 100000000000) :
    Calls Try.prog 9 #[.pointer (some ⟨gb, 0, none⟩), .int .u8 (c.toNat : Int)] wr fun e w' => e = .returned (.tuple #[]) ∧ ∃ r', Hid (Two w w' ga ra gb r' N A (C ++ [c])) ∧ Hid (Only (Fp gb rb) wr w') :=
  (put_any c _ gb 65536 rb C wr h.out.kb.wn hl).mono fun _ _ ⟨he, hp⟩ => ⟨he, let ⟨r', h1, h2⟩ := h.out.left_b hp; ⟨r', Lib.hid h1, Lib.hid h2⟩⟩
theorem copy_a (d n : Nat) (h : Hid (Two w wr ga ra gb rb N A C)) (hn : n ≤ 65538) (h1 : 1 ≤ d) (h2 : d ≤ min A.length N) (hl : A.length ≤ 10000000000) :
    Calls Try.prog 10 #[.pointer (some ⟨ga, 0, none⟩), .int .i64 (d : Int), .int .i64 (n : Int)] wr fun e w' =>
      ∃ b r', e = .returned (.tuple #[.slice (some ⟨b, 0, none⟩) n n, .int .i64 0]) ∧ Hid (Own 5 wr.heap.size w' (.slice (some ⟨b, 0, none⟩) n n) (copy A d n)) ∧ Hid (Two w w' ga r' gb rb N (grow A d n) C) ∧ Hid (Only (Fp ga ra) wr w') :=
  (copy_ok d n _ ga N ra A wr h.out.ka.wn hn h1 h2 hl).mono fun _ _ ⟨b, he, ho, hp⟩ => let ⟨r', k1, k2⟩ := h.out.left_a hp; ⟨b, r', he, Lib.hid ho, Lib.hid k1, Lib.hid k2⟩
theorem copy_b (d n : Nat) (h : Hid (Two w wr ga ra gb rb N A C)) (hn : n ≤ 65538) (h1 : 1 ≤ d) (h2 : d ≤ min C.length 65536) (hl : C.length ≤ 10000000000) :
    Calls Try.prog 10 #[.pointer (some ⟨gb, 0, none⟩), .int .i64 (d : Int), .int .i64 (n : Int)] wr fun e w' =>
      ∃ b r', e = .returned (.tuple #[.slice (some ⟨b, 0, none⟩) n n, .int .i64 0]) ∧ Hid (Own 5 wr.heap.size w' (.slice (some ⟨b, 0, none⟩) n n) (copy C d n)) ∧ Hid (Two w w' ga ra gb r' N A (grow C d n)) ∧ Hid (Only (Fp gb rb) wr w') :=
  (copy_ok d n _ gb 65536 rb C wr h.out.kb.wn hn h1 h2 hl).mono fun _ _ ⟨b, he, ho, hp⟩ => let ⟨r', k1, k2⟩ := h.out.left_b hp; ⟨b, r', he, Lib.hid ho, Lib.hid k1, Lib.hid k2⟩
end

set_option maxRecDepth 100000 in
set_option maxHeartbeats 8000000 in
theorem like_law (x : Int) (a : Option Addr) (len cap : Nat) (f : Nat → OpV) (w : World) (h : OpsIn w a len cap f) :
    Calls Try.prog 6 #[.int .i64 x, .slice a len cap] w fun e w' => e = .returned (.bool true) ∧ Below w.heap.size w w' := by
  obtain ⟨hlc, hcm, hat⟩ := h
  have HAT := Lib.hid hat
  obtain ⟨N, hN1, hN2, hx, hx2⟩ := size_of x 300 (by omega)
  have hx : (IntKind.u64.wrap x).tmod 300 = ((N - 1 : Nat) : Int) := hx
  clear hat
  go_enter Try.func6, Try.ntmps6
  go_wp2_with fail
  refine (new_k N w (by omega) (by omega)).mono ?_
  rintro e w1 ⟨rfl, H1⟩
  go_wp2_with fail
  refine (new_ok 65536 w1 (by omega) (by omega)).mono ?_
  rintro e w2 ⟨rfl, hw2, hb2⟩
  have hlt1 := H1.out.wn.lt
  have H2 : Hid (Two w w2 w.heap.size none w1.heap.size none N [] []) := Lib.hid (by
    refine ⟨H1.out.later hb2, ⟨hw2.weak H1.out.below.size, H1.out.below.trans (hb2.mono H1.out.below.size)⟩, ?_⟩
    · rintro k (rfl | e) (e2 | e2)
      · omega
      · cases e2
      · cases e
      · cases e)
  clear hw2 hb2 H1
  go_wp2_with fail
  generalize hga : w.heap.size = ga at *
  generalize hgb : w1.heap.size = gb at *
  have HGA := Lib.hid hga
  have HGB := Lib.hid hgb
  clear hga hgb hlt1
  go_loopw [10] (fun i wr => ∃ (k : Nat) (ra rb : Option Nat) (A : List UInt8), k ≤ len ∧ k ≤ 60 ∧ i = .int .i64 (k : Int) ∧ A.length ≤ 100 * k ∧ Hid (Two w wr ga ra gb rb N A A)) (fun i _ => 60 - (intOf i).toNat)
  case atStart => exact ⟨0, none, none, [], Nat.zero_le _, by omega, rfl, by simp, H2⟩
  case round =>
    clear H2
    obtain ⟨k, ra, rb, A, hk, hk60, rfl, hal, HK⟩ := hrel
    by_cases hlt : k < len ∧ k < 60
    · obtain ⟨hlt, hlt60⟩ := hlt
      obtain ⟨b, off, rfl, ho⟩ : ∃ b off, a = some ⟨b, off, none⟩ ∧ OpAt wr b off k (f k) := by
        rcases HAT.out with h0 | ⟨b, off, ha, hc⟩
        · omega
        · exact ⟨b, off, ha, (hc k hlt).below (Nat.le_refl _) HK.out.ka.below⟩
      generalize f k = o at ho
      obtain ⟨kind, dist, n, c, raw⟩ := o
      obtain ⟨c0, c1, c2, c3, c4, hbl, wk, wd, wn⟩ := ho
      simp only at c0 c1 c2 c3 c4 wk wd wn
      obtain ⟨kd, hkd, hkd1, hkd2⟩ := place_in kind 3 (by omega) (by omega) wk.1 wk.2
      have hk1 : (wrap64 (kind.tmod 3 + 3)).tmod 3 = (kd : Int) := hkd1
      have hk2 : (kind.tmod 3 + 3).tmod 3 = (kd : Int) := hkd2
      clear hkd1 hkd2
      obtain ⟨X, hX⟩ : ∃ X, X = wr.alloc (.cells #[.int .i64 kind, .int .i64 dist, .int .i64 n, .int .u8 (c.toNat : Int), .bool raw] 30) := ⟨_, rfl⟩
      have HBL : Hid (Blk X wr.heap.size 30 #[.int .i64 kind, .int .i64 dist, .int .i64 n, .int .u8 (c.toNat : Int), .bool raw]) := Lib.hid (by rw [hX]; exact Blk.new wr _ _)
      have HK0 : Hid (Two w X ga ra gb rb N A A) := Lib.hid (by rw [hX]; exact HK.out.later ((Below.refl _ _).alloc (Nat.le_refl _) _))
      have HNE : Hid (¬ Fp ga ra wr.heap.size ∧ ¬ Fp gb rb wr.heap.size) := Lib.hid ⟨fun hF => by have := HK.out.ka.wn.flt _ hF; omega, fun hF => by have := HK.out.kb.wn.flt _ hF; omega⟩
      have HX := Lib.hid hX
      have hA : A.length ≤ 6000 := by omega
      clear hX
      go_upto_region 10 with (fail)
      rw [← HX.out]
      generalize wr.heap.size = qs at *
      clear c0 c1 c2 c3 c4 HK HX
      have e0 := HBL.out.cell 0
      have e3 := HBL.out.cell 3
      simp only [List.getElem?_toArray, List.getElem?_cons_zero, List.getElem?_cons_succ] at e0 e3
      by_cases hk2' : kd < 2
      · have hki : (kd : Int) < 2 := by omega
        go_wp2_with fail
        refine (put_a c HK0 (by omega)).mono ?_
        rintro e w3 ⟨rfl, ra2, HK1, HO1⟩
        have HBL1 := Lib.hid (HO1.out.blk HBL.out HNE.out.1)
        have e3' := HBL1.out.cell 3
        simp only [List.getElem?_toArray, List.getElem?_cons_zero, List.getElem?_cons_succ] at e3'
        clear HO1 HBL HK0 e0 e3
        go_wp2_with fail
        refine (put_b c HK1 (by omega)).mono ?_
        rintro e w4 ⟨rfl, rb2, HK2, -⟩
        clear HK1 HBL1 e3'
        go_wp2_with fail
        go_roundw
        case rel => exact ⟨k + 1, ra2, rb2, A ++ [c], by omega, by omega, by go_num, by simp; omega, HK2⟩
        case measure => simp [intOf]; omega
      · have hki : ¬ (kd : Int) < 2 := by omega
        go_wp2_with fail
        refine (have_any _ ga N ra A X HK0.out.ka.wn).mono ?_
        obtain ⟨M, hM⟩ : ∃ M, M = min A.length N := ⟨_, rfl⟩
        rw [← hM]
        rintro e w' ⟨rfl, rfl⟩
        have HM := Lib.hid hM
        clear hM
        by_cases hM0 : M = 0
        · have hz : ((M : Int) == 0) = true := by rw [hM0]; rfl
          go_wp2_with fail
          go_roundw
          case rel => exact ⟨k + 1, ra, rb, A, by omega, by omega, by go_num, by omega, HK0⟩
          case measure => simp [intOf]; omega
        · have hz : ((M : Int) == 0) = false := beq_eq_false_iff_ne.2 (by omega)
          have hMl : M ≤ 300 ∧ M ≤ A.length ∧ M ≤ N := by have := HM.out; omega
          obtain ⟨D, hD1, hD2, hd, hd2⟩ := size_of dist M (by omega)
          have e1 := HBL.out.cell 1
          have e2 := HBL.out.cell 2
          simp only [List.getElem?_toArray, List.getElem?_cons_zero, List.getElem?_cons_succ] at e1 e2
          have hand := i64_and_mask n 6 (by omega) 63 64 rfl rfl
          obtain ⟨m, hm⟩ : ∃ m : Nat, (m : Int) = n % 64 := ⟨(n % 64).toNat, by omega⟩
          rw [← hm] at hand
          have hm64 : m < 64 := by omega
          clear hm
          go_upto_region 14 with (fail)
          have hcon : ∀ j, Calls Try.prog 11 #[.pointer (some ⟨ga, 0, none⟩)] (X.drewN j) fun e w' => e = .returned (.int .i64 (M : Int)) ∧ w' = X.drewN j := fun j => by
            have := have_any _ ga N ra A (X.drewN j) (HK0.out.ka.wn.only ((Only.refl (fun _ => False) X).drewN j) (fun h => h) (fun _ _ h => h))
            rw [← HM.out] at this
            exact this.mono fun _ _ ⟨h1, h2⟩ => ⟨h1, h2.symm⟩
          have HCON := Lib.hid hcon
          clear hcon
          go_quiet ((go_at_call 11; exact Calls.quiet_of_same (HCON.out _)))
          have HK1 := Lib.hid (HK0.out.later (show Below X.heap.size X (X.drewN nq) from ⟨rfl, rfl, rfl, Nat.le_refl _, fun _ _ => rfl⟩))
          have HBL1 : Hid (Blk (X.drewN nq) qs 30 _) := Lib.hid HBL.out
          clear HCON HK0 HBL e0 e1 e2 e3
          generalize X.drewN nq = X1 at *
          have e2 := HBL1.out.cell 2
          simp only [List.getElem?_toArray, List.getElem?_cons_zero, List.getElem?_cons_succ] at e2
          go_wp2_with fail
          refine (copy_a D m HK1 (by omega) hD1 (by have := HM.out; omega) (by omega)).mono ?_
          rintro e w3 ⟨xb, ra2, rfl, HXB, HK2, HO2⟩
          have HBL2 := Lib.hid (HO2.out.blk HBL1.out HNE.out.1)
          have e2' := HBL2.out.cell 2
          simp only [List.getElem?_toArray, List.getElem?_cons_zero, List.getElem?_cons_succ] at e2'
          have HXN : Hid (∀ j, Fp gb rb j → j < X1.heap.size) := Lib.hid HK1.out.kb.wn.flt
          clear HBL1 e2 HO2 HK1
          go_wp2_with fail
          refine (copy_b D m HK2 (by omega) hD1 (by omega) (by omega)).mono ?_
          rintro e w4 ⟨yb, rb2, rfl, HYB, HK3, HO3⟩
          have HXB4 := Lib.hid (HO3.out.own HXB.out (fun j hj hF => by have := (World.ownsRow.lt HXB.out j hj).1; have := HXN.out j hF; omega))
          have hcx := conv HXB4.out
          have hcy := conv HYB.out
          clear HXB HXN HBL2 e2' HK2 HO3
          generalize hcp : copy A D m = cp at hcx hcy
          have hgl : ((grow A D m).length : Int) ≤ 7000 := by rw [grow_len]; omega
          go_wp2_with fail
          refine (total_any _ ga N ra2 _ w4 HK3.out.ka.wn).mono ?_
          rintro e w' ⟨rfl, rfl⟩
          go_wp2_with fail
          refine (total_any _ gb 65536 rb2 _ w4 HK3.out.kb.wn).mono ?_
          rintro e w' ⟨rfl, rfl⟩
          go_wp2_with fail
          go_roundw
          case rel => exact ⟨k + 1, ra2, rb2, grow A D m, by omega, by omega, by go_num, by rw [grow_len]; omega, HK3⟩
          case measure => simp [intOf]; omega
    · go_upto_region 7 with (fail)
      go_cut [52] (fun v wc => v = .bool false ∧ wc = wr)
      case first =>
        by_cases h1 : k < len
        · obtain rfl : k = 60 := by omega
          go_wp2_with fail
          go_meet
          case rel => exact ⟨rfl, rfl⟩
        · obtain rfl : k = len := by omega
          go_wp2_with fail
          go_meet
          case rel => exact ⟨rfl, rfl⟩
      obtain ⟨rfl, rfl⟩ := hcut
      go_wp2_with fail
      refine (told_any wc).mono ?_
      rintro e w4 ⟨rfl, hb⟩
      have HK4 := Lib.hid (HK.out.later hb)
      clear hb HK
      obtain ⟨M, hM⟩ : ∃ M, M = min A.length N := ⟨_, rfl⟩
      have HMIN : Hid ((if A.length < N then (A.length : Int) else (N : Int)) = (M : Int)) := Lib.hid (by split <;> omega)
      go_wp2_with fail
      refine (have_any _ ga N ra A w4 HK4.out.ka.wn).mono ?_
      rw [← hM]
      rintro e w' ⟨rfl, rfl⟩
      clear hM
      go_wp2_with fail
      refine (total_any _ ga N ra A w4 HK4.out.ka.wn).mono ?_
      rintro e w' ⟨rfl, rfl⟩
      have hmin := HMIN.out
      have hee : ((M : Int) == (M : Int)) = true := by simp
      go_wp2_with fail
      go_ret
      exact ⟨rfl, HK4.out.ka.below⟩
end Go.Proofs.Ytdegclfgmjcdfaa.WinC
