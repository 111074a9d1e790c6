/-
  BlockStores' law.
-/
import Derived.Test.YtaeoedapaiapdaaBkT
import Derived.Test.YtaeoedapaiapdaaBkSR
import Derived.Deep.RegionHeld3
namespace Go.Proofs.Ytaeoedapaiapdaa.BlkC
open Go.RowKit Go.My BitMath BitC
open InfMath (stbs stos)

theorem and255 (n : Int) : ∃ N : Nat, N ≤ 255 ∧ bits .and .i64 n 255 = (N : Int) ∧ wrap64 (1 + (N : Int)) = ((N + 1 : Nat) : Int) := by
  have h := i64_and_mask n 8 (by omega) 255 256 rfl rfl
  rw [h]
  have h1 := Int.emod_nonneg n (show (256 : Int) ≠ 0 by omega)
  have h2 := Int.emod_lt_of_pos n (show (0 : Int) < 256 by omega)
  generalize n % 256 = r at *
  exact ⟨r.toNat, by omega, by omega, by rw [IntWalk.wrap64_in _ (by omega)]; omega⟩
theorem and7 (n : Int) : ∃ K : Nat, K < 8 ∧ bits .and .i64 n 7 = (K : Int) := by
  have h := i64_and_mask n 3 (by omega) 7 8 rfl rfl
  rw [h]
  have h1 := Int.emod_nonneg n (show (8 : Int) ≠ 0 by omega)
  have h2 := Int.emod_lt_of_pos n (show (0 : Int) < 8 by omega)
  generalize n % 8 = r at *
  exact ⟨r.toNat, by omega, by omega⟩
theorem chain {w4 Y w5 : World} (h : Hid (Below w4.heap.size w4 Y)) (hb : Below Y.heap.size Y w5) : Hid (Below w4.heap.size w4 w5) := Lib.hid (h.out.trans (hb.mono h.out.size))
theorem conv_slice {X : World} {B n c : Nat} {a : Option Addr} {l : List UInt8} (h : Own 5 B X (.slice a n c) l) : (convert 33 9 (.slice a n c)).run Try.prog X = .ok (.string ⟨l.toArray⟩) X := by
  obtain ⟨a', c', h1, h2⟩ := h.bytes
  simp only [Value.slice.injEq] at h1
  obtain ⟨rfl, rfl, rfl⟩ := h1
  exact conv_own h2
theorem below3w {w wr w4 w7 : World} (h1 : Below w.heap.size w wr) (h2 : Below wr.heap.size wr w4) (h3 : Below w4.heap.size w4 w7) : Below w.heap.size w w7 :=
  (h1.trans (h2.mono h1.size)).trans (h3.mono (Nat.le_trans h1.size h2.size))
theorem undrew {w w' : World} (h : Below w.drew.heap.size w.drew w') : Below w.heap.size w w' := ⟨h.os, h.tape, h.output, h.size, h.block⟩
theorem slice_run (g o n c k : Nat) (i : Int) (hi : i = (k : Int)) (hk : k ≤ n) (hn : ¬ c = k) (W : World) :
    (Instr.slice 33 (.slice (some ⟨g, o, none⟩) n c) (some (.int .i64 i)) none none).run Try.prog W = .ok (.slice (some ⟨g, o + k, none⟩) (n - k) (c - k)) W := by
  subst hi
  rw [run_slice_l (ht := rfl) (h0 := by omega) (h1 := by omega)]
  have e : (sizeOf (Try.prog.elem 33)).run Try.prog W = .ok 1 W := rfl
  rw [e]
  simp only [Result.andThen, sliced, Int.toNat_natCast, if_neg hn, Nat.mul_one, Option.map_some]
  by_cases h0 : k = 0 <;> simp [Addr.add, h0]
/-- What the last test reads, in a later world. -/
structure Keep (w4 w6 : World) (g5 o5 n5 c5 g6 o6 n6 c6 : Nat) (d : List UInt8) (Y : World) : Prop where
  below : Below w4.heap.size w4 Y
  b1 : Bytes Y (some ⟨g5, o5, none⟩) n5 c5 d
  b2 : Bytes Y (some ⟨g6, o6, none⟩) n6 c6 d
theorem Keep.later {w4 w6 Y Y' : World} {g5 o5 n5 c5 g6 o6 n6 c6 : Nat} {d : List UInt8} (h : Keep w4 w6 g5 o5 n5 c5 g6 o6 n6 c6 d Y) (hb : Below Y.heap.size Y Y') : Keep w4 w6 g5 o5 n5 c5 g6 o6 n6 c6 d Y' :=
  ⟨h.below.trans (hb.mono h.below.size), h.b1.below (Nat.le_refl _) hb, h.b2.below (Nat.le_refl _) hb⟩
theorem Keep.c1 {w4 w6 Y : World} {g5 o5 n5 c5 g6 o6 n6 c6 : Nat} {d : List UInt8} (h : Keep w4 w6 g5 o5 n5 c5 g6 o6 n6 c6 d Y) : (convert 33 9 (.slice (some ⟨g5, o5, none⟩) n5 c5)).run Try.prog Y = .ok (.string ⟨d.toArray⟩) Y := conv_own h.b1
theorem Keep.c2 {w4 w6 Y : World} {g5 o5 n5 c5 g6 o6 n6 c6 : Nat} {d : List UInt8} (h : Keep w4 w6 g5 o5 n5 c5 g6 o6 n6 c6 d Y) : (convert 33 9 (.slice (some ⟨g6, o6, none⟩) n6 c6)).run Try.prog Y = .ok (.string ⟨d.toArray⟩) Y := conv_own h.b2
theorem put_zeros (K B g : Nat) (r : Option Nat) (bs : List Bool) (w : World) (hK : K < 8) (hw : Wr B w g r bs) (hl : bs.length ≤ 100000000000) :
    Calls Try.prog 18 #[.pointer (some ⟨g, 0, none⟩), .int .u32 0, .int .i64 (K : Int)] w (Wrote B g r w (bs ++ List.replicate K false)) := by
  by_cases h : K = 0
  · subst h
    refine (put_no 0 ((0 : Nat) : Int) g w (.inl (by omega))).mono ?_
    rintro e w' ⟨rfl, rfl⟩
    exact ⟨r, rfl, by simpa using hw, Only.refl _ _, Nxt.refl _ _⟩
  · have := put_any 0 K B g r bs w (by omega) (by omega) (by omega) hw hl
    rw [lows_zero] at this
    exact this
set_option maxRecDepth 100000 in
set_option maxHeartbeats 8000000 in
theorem stores_law (a : Option Addr) (len cap : Nat) (l : List UInt8) (n : Int) (last : Bool) (ahead : Int) (w : World) (hb : Bytes w a len cap l) :
    Calls Try.prog 5 #[.slice a len cap, .int .i64 n, .bool last, .int .i64 ahead] w fun e w' => e = .returned (.bool true) ∧ Below w.heap.size w w' := by
  have HBY := Lib.hid hb
  obtain ⟨N, hN, n1, n2⟩ := and255 n
  obtain ⟨K, hK, k1⟩ := and7 ahead
  have hll := hb.len_eq
  clear hb
  by_cases hlen : len ≤ 300
  · have hlen' : ¬ (len : Int) > 300 := by omega
    go_enter Try.func5, Try.ntmps5
    go_wp2_with fail
    go_loopw [9, 10] (fun sv iv wr => ∃ (k : Nat) (v : Value), k ≤ N + 1 ∧ iv = .int .i64 (k : Int) ∧ sv = v ∧ Hid (Own 5 w.heap.size wr v (reps k l)) ∧ Hid (Below w.heap.size w wr)) (fun _ iv _ => 300 - (intOf iv).toNat)
    case atStart => exact ⟨0, _, Nat.zero_le _, rfl, rfl, Lib.hid (by rw [reps_zero]; exact Own.nil _ _ _), Lib.hid (Below.refl _ _)⟩
    case round =>
      obtain ⟨k, sv, hk, rfl, rfl, HO, HB⟩ := hrel
      have hrl : (reps k l).length ≤ 76800 := by
        rw [reps_len]
        exact Nat.le_trans (Nat.mul_le_mul (Nat.le_trans hk (by omega : N + 1 ≤ 256)) (by omega : l.length ≤ 300)) (by omega)
      have HRL := Lib.hid hrl
      by_cases hlt : k < N + 1
      · have hlt' : (k : Int) < ((N + 1 : Nat) : Int) := by omega
        have e1 : wrap64 ((k : Int) + 1) = (k : Int) + 1 := IntWalk.wrap64_in _ (by omega)
        have hlt2 : (k : Int) < (N : Int) + 1 := by omega
        clear hrl
        go_wp2_with (at_builtin; refine wpList_append_bytes (by rfl) (.tmp 27) (.tmp 28) 33 rfl w.heap.size 5 Try.underlying33 info5 _ (reps k l) rfl HO.out a len cap l rfl (HBY.out.below (Nat.le_refl _) HB.out) (by have := HRL.out; omega) HB.out.size ?_)
        intro v' w1 hown hg
        have HB1 := Lib.hid (grown_below HO.out HB.out hg HB.out.size)
        have HO1 : Hid (Own 5 w.heap.size w1 v' (reps (k + 1) l)) := Lib.hid (by rw [reps_succ]; exact hown)
        clear hown hg
        go_wp2_with fail
        go_roundw
        case rel => exact ⟨k + 1, v', by omega, by congr 1, rfl, HO1, HB1⟩
        case measure => simp [intOf]; omega
      · have hge : ¬ (k : Int) < (N : Int) + 1 := by omega
        obtain ⟨s, hs⟩ : ∃ s, s = reps k l := ⟨_, rfl⟩
        rw [← hs] at HO HRL
        clear hrl hs hlt hk
        obtain ⟨a2, c2, esv, hby⟩ := HO.out.bytes
        subst esv
        have HBY2 := Lib.hid hby
        have HSL : Hid (∀ b off, a2 = some ⟨b, off, none⟩ → b < wr.heap.size) := Lib.hid fun b off e => (World.ownsRow.lt HO.out b (by rw [e]; rfl)).2
        have HT0 : Hid (∀ x, Below w.heap.size w x → Calls Try.prog 6 #[] x fun e w' => e = .returned (.bool true) ∧ Below x.heap.size x w') := Lib.hid fun x _ => told_any x
        clear hby HBY hll
        go_wp2_with fail
        clear n1 n2 hge
        refine (new_writer wr).mono ?_
        rintro e w2 ⟨rfl, h2⟩
        have HW2 : Hid (Wr wr.heap.size w2 wr.heap.size none []) := Lib.hid (by rw [← h2]; exact wr_new wr)
        have HB2 : Hid (Below wr.heap.size wr w2) := Lib.hid (by rw [← h2]; exact (Below.refl _ _).alloc (Nat.le_refl _) _)
        have HP := Lib.hid (put_zeros K wr.heap.size wr.heap.size none [] w2 hK HW2.out (by simp))
        clear h2
        go_wp2_with fail
        refine HP.out.mono ?_
        rintro e w3 ⟨r3, rfl, hw3, ho3, hn3⟩
        rw [List.nil_append] at hw3
        have HW3 := Lib.hid hw3
        have HB3 : Hid (Below wr.heap.size wr w3) := Lib.hid (HB2.out.trans (ho3.below (by have := HB2.out.size; omega) (fun k hk => by
          rcases hk with rfl | hk
          · exact Nat.le_refl _
          · cases hk)))
        have HBY3 := Lib.hid (HBY2.out.below (Nat.le_refl _) HB3.out)
        have HSEP : Hid (0 < s.length → ∀ b off, a2 = some ⟨b, off, none⟩ → ¬ Fp wr.heap.size r3 b) := Lib.hid fun _ b off e => by
          have h1 := HSL.out b off e
          rintro (rfl | hk)
          · omega
          · rcases hn3 with rfl | ⟨k, rfl, h5⟩
            · cases hk
            · injection hk with hk
              have := HB2.out.size
              omega
        have HST := Lib.hid (store_any wr.heap.size wr.heap.size r3 _ s last a2 s.length c2 w3 (by have := HRL.out; omega) HW3.out (by simp; omega) HBY3.out HSEP.out)
        clear hw3 ho3 hn3 HP HW2
        go_wp2_with fail
        refine HST.out.mono ?_
        rintro e w4 ⟨r4, rfl, hw4, ho4, hn4⟩
        have HW4 := Lib.hid hw4
        have HB4 : Hid (Below wr.heap.size wr w4) := Lib.hid (HB3.out.trans (ho4.below (by have := HB3.out.size; omega) (fun k hk => by
          rcases hk with rfl | hk
          · exact Nat.le_refl _
          · exact (HW3.out.rlt k hk).1)))
        have HBY4 := Lib.hid (HBY2.out.below (Nat.le_refl _) HB4.out)
        have HSUM := Lib.hid (InfMath.behind_zeros K s last hK)
        have HBL : Hid ((List.replicate K false ++ stbs (List.replicate K false).length s last).length ≤ 100000000000) := Lib.hid (by
          rw [List.length_append, List.length_replicate]
          have := stored_room 76800 K s last HRL.out
          omega)
        clear hw4 ho4 hn4 HST HW3 HBY3 HSEP HB3 HB2
        by_cases hk0 : K = 0
        · subst hk0
          have HPK := Lib.hid (HSUM.out.choose_spec.2.2 rfl)
          have HBB : Hid (∀ Y, Below w4.heap.size w4 Y → Calls Try.prog 20 #[.pointer (some ⟨wr.heap.size, 0, none⟩)] Y (OwnRet 5 Y (stos s last))) := Lib.hid fun Y hY => by
            have := bytes_any wr.heap.size wr.heap.size r4 _ Y (HW4.out.below hY) HBL.out
            rw [HPK.out] at this
            exact this
          have HRS : Hid (∀ Y, Below w4.heap.size w4 Y → Calls Try.prog 21 #[.slice a2 s.length c2, .bool last] Y fun e w' => ∃ a' n c', e = .returned (.slice a' n c') ∧ Hid (Own 5 Y.heap.size w' (.slice a' n c') (stos s last)) ∧ Hid (Below Y.heap.size Y w')) := Lib.hid fun Y hY => rstore_any last a2 s.length c2 s Y (HBY4.out.below (Nat.le_refl _) hY) (by have := HRL.out; omega)
          have H44 : Hid (Below w4.heap.size w4 w4.drew) := Lib.hid (Below.refl _ _).drew
          have hz : ((0 : Nat) : Int) = 0 := rfl
          clear HSUM HPK HBL HW4 HBY4 hK k1 HRL HBY2 HSL HO
          go_upto_region 15 with (fail)
          go_region_law (go_simp; first
            | (go_at_call 6; refine (told_any _).mono ?_; rintro e w5 ⟨rfl, hb5⟩; have H5 := chain H44 hb5; clear hb5)
            | (go_at_call 20; refine (HBB.out _ (Hid.out H5)).mono ?_; rintro e w6 ⟨v6, rfl, hown6, hb6⟩; obtain ⟨a6, c6, rfl, hby6⟩ := hown6.bytes; have H6 := chain H5 hb6; have cv6 := conv_own hby6; have HY6 := Lib.hid hby6; clear hown6 hby6 hb6)
            | (go_at_call 21; refine (HRS.out _ (Hid.out H6)).mono ?_; rintro e w7 ⟨a7, n7, c7, rfl, HO7, HB7⟩; have H7 := chain H6 HB7.out; have cv7 := conv_slice HO7.out; have cv8 := conv_own (HY6.out.below (Nat.le_refl _) HB7.out)))
          all_goals
            go_wp2_with fail
            go_ret
            exact ⟨rfl, below3w HB.out HB4.out H7.out⟩
        · have hkp : 1 ≤ K := by omega
          have hk0' : ((K : Int) == 0) = false := by simp; omega
          obtain ⟨hd, q1, q2, -⟩ := HSUM.out
          by_cases h5 : 5 < K
          · rw [if_pos h5] at q1
            have h5' : (K : Int) > 5 := by omega
            have HBB : Hid (∀ Y, Below w4.heap.size w4 Y → Calls Try.prog 20 #[.pointer (some ⟨wr.heap.size, 0, none⟩)] Y (OwnRet 5 Y (hd ++ (stos s last).drop 1))) := Lib.hid fun Y hY => by
              have := bytes_any wr.heap.size wr.heap.size r4 _ Y (HW4.out.below hY) HBL.out
              rw [q2] at this
              exact this
            have HRS := Lib.hid (rstore_any last a2 s.length c2 s w4 HBY4.out (by have := HRL.out; omega))
            obtain ⟨X, hX⟩ : ∃ X, X = stos s last := ⟨_, rfl⟩
            have hXl : 5 ≤ X.length ∧ X.length ≤ 100000 := by
              have := InfMath.stos_len s.length s last (Nat.le_refl _)
              have := HRL.out
              rw [hX]; omega
            rw [← hX] at HBB HRS
            have hyl : (hd ++ X.drop 1).length = X.length + 1 := by rw [List.length_append, q1, List.length_drop]; omega
            have hdrop : (hd ++ X.drop 1).drop (1 + 1) = X.drop 1 := by rw [List.drop_append_of_le_length (by omega), List.drop_of_length_le (by omega), List.nil_append]
            obtain ⟨Z, hZ⟩ : ∃ Z, Z = hd ++ X.drop 1 := ⟨_, rfl⟩
            rw [← hZ] at HBB hyl hdrop
            obtain ⟨Y6, hY6⟩ : ∃ Y6, Y6 = X.length + 1 := ⟨_, rfl⟩
            rw [← hY6] at hyl
            have HD := Lib.hid hdrop
            clear HSUM HBL HW4 HBY4 hK k1 HRL HBY2 HSL HO q1 q2 hX hZ hdrop
            go_wp2_with fail
            refine HRS.out.mono ?_
            rintro e w5 ⟨a5, n5, c5, rfl, HO5, HB5⟩
            obtain ⟨a5', c5', e5, hby5⟩ := HO5.out.bytes
            simp only [Value.slice.injEq] at e5
            obtain ⟨rfl, rfl, rfl⟩ := e5
            go_wp2_with fail
            refine (HBB.out w5 HB5.out).mono ?_
            rintro e w6 ⟨v6, rfl, hown6, hb6⟩
            obtain ⟨a6, c6, rfl, hby6⟩ := hown6.bytes
            rw [hyl] at hby6 ⊢
            obtain ⟨g5, o5, rfl⟩ : ∃ g o, a5 = some ⟨g, o, none⟩ := by
              rcases hby5.at_ with hz | ⟨b, off, ha, -⟩
              · omega
              · exact ⟨b, off, ha⟩
            obtain ⟨g6, o6, rfl⟩ : ∃ g o, a6 = some ⟨g, o, none⟩ := by
              rcases hby6.at_ with hz | ⟨b, off, ha, -⟩
              · omega
              · exact ⟨b, off, ha⟩
            have H6 := chain HB5 hb6
            have HX1 := Lib.hid (bytes_drop (hby5.below (Nat.le_refl _) hb6) 1 (by omega) (by omega))
            have HX2 : Hid (Bytes w6 (some ⟨g6, o6 + 2, none⟩) (Y6 - 2) (c6 - 2) (X.drop 1)) := Lib.hid (by
              have := bytes_drop hby6 (1 + 1) (by omega) (by omega)
              rw [HD.out] at this
              exact this)
            obtain ⟨m, hm⟩ : ∃ m, m = X.length := ⟨_, rfl⟩
            have hcx5 := hby5.cap_le
            have hcx6 := hby6.cap_le
            have hc5 : m ≤ c5 := by rw [hm]; exact hby5.le_cap
            have hc6 : Y6 ≤ c6 := hby6.le_cap
            rw [← hm] at hY6
            rw [← hm] at HX1 hXl ⊢
            have hc51 : ¬ c5 = 1 := by omega
            have hc61 : ¬ c6 = 2 := by omega
            have b1 : (1 : Int) ≤ (m : Int) := by omega
            have b3 : (Y6 : Int) ≤ (c6 : Int) := by omega
            have b4 : (m : Int) ≤ (c5 : Int) := by omega
            have b5 : ((2 : Int)).toNat = 2 := rfl
            have b6 : ((1 : Int)).toNat = 1 := rfl
            have b2 : (2 : Int) ≤ (Y6 : Int) := by omega
            have hq : ((Y6 : Int) == IntKind.i64.wrap ((m : Int) + 1)) = true := by rw [IntWalk.i64_in _ (by omega)]; simp; omega
            have s2 := fun W => slice_run g6 o6 Y6 c6 2 (IntKind.i64.wrap 2) (by decide) (by omega) hc61 W
            have s3 := fun W => slice_run g5 o5 m c5 1 1 (by decide) (by omega) hc51 W
            clear hby5 hby6 hown6 hb6 HO5 hyl hm hY6 HBB HRS HD
            have H66 : Hid (Below w4.heap.size w4 w6.drew) := Lib.hid H6.out.drew
            go_wp2_with fail
            obtain ⟨d, hd1⟩ : ∃ d, d = X.drop 1 := ⟨_, rfl⟩
            rw [← hd1] at HX1 HX2
            clear hd1
            have HTD : Hid (∀ Y, Hid (Keep w4 w6 g5 (o5 + 1) (m - 1) (c5 - 1) g6 (o6 + 2) (Y6 - 2) (c6 - 2) d Y) → Calls Try.prog 6 #[] Y fun e w' => e = .returned (.bool true) ∧ Hid (Keep w4 w6 g5 (o5 + 1) (m - 1) (c5 - 1) g6 (o6 + 2) (Y6 - 2) (c6 - 2) d w')) := Lib.hid fun Y hY => (told_any Y).mono fun e w' h => ⟨h.1, Lib.hid (hY.out.later h.2)⟩
            have HK0 : Hid (Keep w4 w6 g5 (o5 + 1) (m - 1) (c5 - 1) g6 (o6 + 2) (Y6 - 2) (c6 - 2) d w6.drew) := Lib.hid ⟨H66.out, ⟨HX1.out.1, HX1.out.2, HX1.out.3, HX1.out.4, HX1.out.5⟩, ⟨HX2.out.1, HX2.out.2, HX2.out.3, HX2.out.4, HX2.out.5⟩⟩
            have kc1 := HK0.out.c1
            have kc2 := HK0.out.c2
            clear HX1 HX2 H66
            go_region_held3 (fun w' => Hid (Keep w4 w6 g5 (o5 + 1) (m - 1) (c5 - 1) g6 (o6 + 2) (Y6 - 2) (c6 - 2) d w') ∧ (convert 33 9 (.slice (some ⟨g5, o5 + 1, none⟩) (m - 1) (c5 - 1))).run Try.prog w' = .ok (.string ⟨d.toArray⟩) w' ∧ (convert 33 9 (.slice (some ⟨g6, o6 + 2, none⟩) (Y6 - 2) (c6 - 2))).run Try.prog w' = .ok (.string ⟨d.toArray⟩) w') (first | exact ⟨by assumption, by assumption, by assumption⟩) ((go_at_call 6; refine (HTD.out _ (by assumption)).mono ?_; rintro e w7 ⟨rfl, hk1⟩; have kd1 := hk1.out.c1; have kd2 := hk1.out.c2))
            all_goals
              go_wp2_with fail
              go_ret
              exact ⟨rfl, below3w HB.out HB4.out hk1.out.below⟩
          · rw [if_neg h5] at q1
            have h5' : ¬ (K : Int) > 5 := by omega
            have HBB : Hid (∀ Y, Below w4.heap.size w4 Y → Calls Try.prog 20 #[.pointer (some ⟨wr.heap.size, 0, none⟩)] Y (OwnRet 5 Y (hd ++ (stos s last).drop 1))) := Lib.hid fun Y hY => by
              have := bytes_any wr.heap.size wr.heap.size r4 _ Y (HW4.out.below hY) HBL.out
              rw [q2] at this
              exact this
            have HRS := Lib.hid (rstore_any last a2 s.length c2 s w4 HBY4.out (by have := HRL.out; omega))
            obtain ⟨X, hX⟩ : ∃ X, X = stos s last := ⟨_, rfl⟩
            have hXl : 5 ≤ X.length ∧ X.length ≤ 100000 := by
              have := InfMath.stos_len s.length s last (Nat.le_refl _)
              have := HRL.out
              rw [hX]; omega
            rw [← hX] at HBB HRS
            have hyl : (hd ++ X.drop 1).length = X.length + 0 := by rw [List.length_append, q1, List.length_drop]; omega
            have hdrop : (hd ++ X.drop 1).drop (1 + 0) = X.drop 1 := by rw [List.drop_append_of_le_length (by omega), List.drop_of_length_le (by omega), List.nil_append]
            obtain ⟨Z, hZ⟩ : ∃ Z, Z = hd ++ X.drop 1 := ⟨_, rfl⟩
            rw [← hZ] at HBB hyl hdrop
            obtain ⟨Y6, hY6⟩ : ∃ Y6, Y6 = X.length + 0 := ⟨_, rfl⟩
            rw [← hY6] at hyl
            have HD := Lib.hid hdrop
            clear HSUM HBL HW4 HBY4 hK k1 HRL HBY2 HSL HO q1 q2 hX hZ hdrop
            go_wp2_with fail
            refine HRS.out.mono ?_
            rintro e w5 ⟨a5, n5, c5, rfl, HO5, HB5⟩
            obtain ⟨a5', c5', e5, hby5⟩ := HO5.out.bytes
            simp only [Value.slice.injEq] at e5
            obtain ⟨rfl, rfl, rfl⟩ := e5
            go_wp2_with fail
            refine (HBB.out w5 HB5.out).mono ?_
            rintro e w6 ⟨v6, rfl, hown6, hb6⟩
            obtain ⟨a6, c6, rfl, hby6⟩ := hown6.bytes
            rw [hyl] at hby6 ⊢
            obtain ⟨g5, o5, rfl⟩ : ∃ g o, a5 = some ⟨g, o, none⟩ := by
              rcases hby5.at_ with hz | ⟨b, off, ha, -⟩
              · omega
              · exact ⟨b, off, ha⟩
            obtain ⟨g6, o6, rfl⟩ : ∃ g o, a6 = some ⟨g, o, none⟩ := by
              rcases hby6.at_ with hz | ⟨b, off, ha, -⟩
              · omega
              · exact ⟨b, off, ha⟩
            have H6 := chain HB5 hb6
            have HX1 := Lib.hid (bytes_drop (hby5.below (Nat.le_refl _) hb6) 1 (by omega) (by omega))
            have HX2 : Hid (Bytes w6 (some ⟨g6, o6 + 1, none⟩) (Y6 - 1) (c6 - 1) (X.drop 1)) := Lib.hid (by
              have := bytes_drop hby6 (1 + 0) (by omega) (by omega)
              rw [HD.out] at this
              exact this)
            obtain ⟨m, hm⟩ : ∃ m, m = X.length := ⟨_, rfl⟩
            have hcx5 := hby5.cap_le
            have hcx6 := hby6.cap_le
            have hc5 : m ≤ c5 := by rw [hm]; exact hby5.le_cap
            have hc6 : Y6 ≤ c6 := hby6.le_cap
            rw [← hm] at hY6
            rw [← hm] at HX1 hXl ⊢
            have hc51 : ¬ c5 = 1 := by omega
            have hc61 : ¬ c6 = 1 := by omega
            have b1 : (1 : Int) ≤ (m : Int) := by omega
            have b3 : (Y6 : Int) ≤ (c6 : Int) := by omega
            have b4 : (m : Int) ≤ (c5 : Int) := by omega
            have b5 : ((2 : Int)).toNat = 2 := rfl
            have b6 : ((1 : Int)).toNat = 1 := rfl
            have b2 : (1 : Int) ≤ (Y6 : Int) := by omega
            have hq : ((Y6 : Int) == IntKind.i64.wrap (m : Int)) = true := by rw [IntWalk.i64_in _ (by omega)]; simp; omega
            have hq2 : ((Y6 : Int) == (m : Int)) = true := by simp; omega
            have s2 := fun W => slice_run g6 o6 Y6 c6 1 (IntKind.i64.wrap 1) (by decide) (by omega) hc61 W
            have s3 := fun W => slice_run g5 o5 m c5 1 1 (by decide) (by omega) hc51 W
            clear hby5 hby6 hown6 hb6 HO5 hyl hm hY6 HBB HRS HD
            have H66 : Hid (Below w4.heap.size w4 w6.drew) := Lib.hid H6.out.drew
            go_wp2_with fail
            obtain ⟨d, hd1⟩ : ∃ d, d = X.drop 1 := ⟨_, rfl⟩
            rw [← hd1] at HX1 HX2
            clear hd1
            have HTD : Hid (∀ Y, Hid (Keep w4 w6 g5 (o5 + 1) (m - 1) (c5 - 1) g6 (o6 + 1) (Y6 - 1) (c6 - 1) d Y) → Calls Try.prog 6 #[] Y fun e w' => e = .returned (.bool true) ∧ Hid (Keep w4 w6 g5 (o5 + 1) (m - 1) (c5 - 1) g6 (o6 + 1) (Y6 - 1) (c6 - 1) d w')) := Lib.hid fun Y hY => (told_any Y).mono fun e w' h => ⟨h.1, Lib.hid (hY.out.later h.2)⟩
            have HK0 : Hid (Keep w4 w6 g5 (o5 + 1) (m - 1) (c5 - 1) g6 (o6 + 1) (Y6 - 1) (c6 - 1) d w6.drew) := Lib.hid ⟨H66.out, ⟨HX1.out.1, HX1.out.2, HX1.out.3, HX1.out.4, HX1.out.5⟩, ⟨HX2.out.1, HX2.out.2, HX2.out.3, HX2.out.4, HX2.out.5⟩⟩
            have kc1 := HK0.out.c1
            have kc2 := HK0.out.c2
            clear HX1 HX2 H66
            go_region_held3 (fun w' => Hid (Keep w4 w6 g5 (o5 + 1) (m - 1) (c5 - 1) g6 (o6 + 1) (Y6 - 1) (c6 - 1) d w') ∧ (convert 33 9 (.slice (some ⟨g5, o5 + 1, none⟩) (m - 1) (c5 - 1))).run Try.prog w' = .ok (.string ⟨d.toArray⟩) w' ∧ (convert 33 9 (.slice (some ⟨g6, o6 + 1, none⟩) (Y6 - 1) (c6 - 1))).run Try.prog w' = .ok (.string ⟨d.toArray⟩) w') (first | exact ⟨by assumption, by assumption, by assumption⟩) ((go_at_call 6; refine (HTD.out _ (by assumption)).mono ?_; rintro e w7 ⟨rfl, hk1⟩; have kd1 := hk1.out.c1; have kd2 := hk1.out.c2))
            all_goals
              go_wp2_with fail
              go_ret
              exact ⟨rfl, below3w HB.out HB4.out hk1.out.below⟩
  · have hlen' : (len : Int) > 300 := by omega
    have HT := Lib.hid (told_any w)
    clear n1 n2 k1 hll
    go_enter Try.func5, Try.ntmps5
    go_wp2_with fail
    refine HT.out.mono ?_
    rintro e w1 ⟨rfl, hb1⟩
    go_wp2_with fail
    go_ret
    exact ⟨rfl, hb1⟩
end Go.Proofs.Ytaeoedapaiapdaa.BlkC
