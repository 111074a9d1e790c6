/-
  WindowPlays' law.
-/
import Derived.Test.YtdegclfgmjcdfaaWinL
namespace Go.Proofs.Ytdegclfgmjcdfaa.WinC
open Go.RowKit Go.My WinMath

/-- A window that was made in the call, and a row of bytes of the call's own beside it. -/
structure St (w wr : World) (g S : Nat) (r : Option Nat) (all L : List UInt8) (aa : Option Addr) (n ca : Nat) : Prop where
  kept : Kept w wr g S r all
  own : Own 5 w.heap.size wr (.slice aa n ca) L
  len : L.length = n
  sep : ∀ j, Value.ownBlock (.slice aa n ca) = some j → ¬ Fp g r j

section
variable {w wr w' : World} {g S n ca : Nat} {r : Option Nat} {all all' L : List UInt8} {aa : Option Addr}
theorem St.later (h : St w wr g S r all L aa n ca) (hb : Below wr.heap.size wr w') : St w w' g S r all L aa n ca := ⟨h.kept.later hb, h.own.below (Nat.le_refl _) hb, h.len, h.sep⟩
theorem St.left (h : St w wr g S r all L aa n ca) (hp : Left w.heap.size g S r wr all' w') : ∃ r', St w w' g S r' all' L aa n ca ∧ Only (Fp g r) wr w' := by
  obtain ⟨r', h1, h2, h3⟩ := hp
  refine ⟨r', ⟨⟨h1, h.kept.below.trans (h2.below h.kept.below.size h.kept.wn.fp)⟩, h2.own h.own (fun j hj e => h.sep j hj e), h.len, fun j hj hk => ?_⟩, h2⟩
  rcases hk with e | e
  · exact h.sep j hj (.inl e)
  · rcases h3 with e2 | ⟨i, e2, hi⟩
    · exact h.sep j hj (.inr (by rw [← e2]; exact e))
    · have := (World.ownsRow.lt h.own j hj).2
      rw [e2] at e
      injection e with e
      omega
theorem St.app (h : St w wr g S r all L aa n ca) {o : Obj} {a2 : Option Addr} {c2 m : Nat} {l2 : List UInt8} (hl : l2.length = m) (hown : Own 5 w.heap.size w' (.slice a2 (n + m) c2) (L ++ l2)) (hg : (wr.alloc o).grownBy w' (Value.ownBlock (.slice aa n ca)))
    (hn : Nxt (Value.ownBlock (.slice aa n ca)) (wr.heap.size + 1) (Value.ownBlock (.slice a2 (n + m) c2))) : St w w' g S r all (L ++ l2) a2 (n + m) c2 := by
  have hO : Only (fun k => Value.ownBlock (.slice aa n ca) = some k) wr w' := ((Only.refl _ wr).alloc o).grown hg (fun k _ hk => hk)
  refine ⟨⟨h.kept.wn.only hO (fun e => h.sep g e (.inl rfl)) (fun k hk e => h.sep k e (.inr hk)), h.kept.below.trans (hO.below h.kept.below.size (fun k hk => (World.ownsRow.lt h.own k hk).1))⟩, hown, by rw [List.length_append, h.len, hl], fun j hj hk => ?_⟩
  rcases hn with e | ⟨i, e, hi⟩
  · exact h.sep j (by rw [← e]; exact hj) hk
  · rw [e] at hj
    injection hj with hj
    have := h.kept.wn.flt j hk
    omega
/-- all[n0:] of a row of the call's own: it keeps its place where nothing is behind. -/
theorem tail_bytes {E : TypeId} {B : Nat} {X : World} {ga n n0 c : Nat} (h : Own E B X (.slice (some ⟨ga, 0, none⟩) n c) L) (hL : L.length = n) (h0 : n0 ≤ n) : Bytes X (if c = n0 then some ⟨ga, 0, none⟩ else some ⟨ga, n0, none⟩) (n - n0) (c - n0) (L.drop n0) := by
  obtain ⟨a', c', h1, h2⟩ := h.bytes
  simp only [Value.slice.injEq] at h1
  obtain ⟨rfl, -, rfl⟩ := h1
  rw [hL] at h2
  by_cases he : c = n0
  · have hn : n = n0 := by have := h2.le_cap; omega
    rw [if_pos he]
    exact ⟨by simp [hL], by omega, by omega, (fun h => by cases h), .inl (by omega)⟩
  · rw [if_neg he]
    have := h2.drop n0 h0
    rw [Nat.zero_add] at this
    exact this
theorem put_s (c : UInt8) (h : Hid (St w wr g S r all L aa n ca)) (hl : all.length ≤ 100000000000) :
    Calls Try.prog 9 #[.pointer (some ⟨g, 0, none⟩), .int .u8 (c.toNat : Int)] wr fun e w' => e = .returned (.tuple #[]) ∧ ∃ r', Hid (St w w' g S r' (all ++ [c]) L aa n ca) ∧ Hid (Only (Fp g r) wr w') :=
  (put_any c _ g S r all wr h.out.kept.wn hl).mono fun _ _ ⟨he, hp⟩ => ⟨he, let ⟨r', h1, h2⟩ := h.out.left hp; ⟨r', Lib.hid h1, Lib.hid h2⟩⟩
theorem copy_s (d m : Nat) (h : Hid (St w wr g S r all L aa n ca)) (hn : m ≤ 65538) (h1 : 1 ≤ d) (h2 : d ≤ min all.length S) (hl : all.length ≤ 10000000000) :
    Calls Try.prog 10 #[.pointer (some ⟨g, 0, none⟩), .int .i64 (d : Int), .int .i64 (m : Int)] wr fun e w' =>
      ∃ b r', e = .returned (.tuple #[.slice (some ⟨b, 0, none⟩) m m, .int .i64 0]) ∧ Hid (Own 5 wr.heap.size w' (.slice (some ⟨b, 0, none⟩) m m) (copy all d m)) ∧ Hid (St w w' g S r' (grow all d m) L aa n ca) :=
  (copy_ok d m _ g S r all wr h.out.kept.wn hn h1 h2 hl).mono fun _ _ ⟨b, he, ho, hp⟩ => let ⟨r', k1, _⟩ := h.out.left hp; ⟨b, r', he, Lib.hid ho, Lib.hid k1⟩
end

set_option maxRecDepth 100000 in
set_option maxHeartbeats 2000000 in
theorem plays_bad (x : Int) (v : Value) (w : World) (h : x < 1 ∨ 65536 < x) :
    Calls Try.prog 3 #[.int .i64 x, v] w fun e w' => e = .returned (.bool true) ∧ Below w.heap.size w w' := by
  by_cases h1 : x < 1
  · have h2 : ¬ 65536 < x := by omega
    go_enter Try.func3, Try.ntmps3
    go_wp2_with fail
    refine (new_bad x w h).mono ?_
    rintro e w' ⟨rfl, rfl⟩
    go_wp2_with fail
    refine (told_any w).mono ?_
    rintro e w' ⟨rfl, hb⟩
    have HB := Lib.hid hb
    clear hb
    go_wp2_with fail
    go_ret
    exact ⟨rfl, HB.out⟩
  · have h2 : 65536 < x := by omega
    go_enter Try.func3, Try.ntmps3
    go_wp2_with fail
    refine (new_bad x w h).mono ?_
    rintro e w' ⟨rfl, rfl⟩
    go_wp2_with fail
    refine (told_any w).mono ?_
    rintro e w' ⟨rfl, hb⟩
    have HB := Lib.hid hb
    clear hb
    go_wp2_with fail
    go_ret
    exact ⟨rfl, HB.out⟩

set_option maxRecDepth 100000 in
set_option maxHeartbeats 16000000 in
theorem plays_ok (S : Nat) (hS1 : 0 < S) (hS2 : S ≤ 65536) (a : Option Addr) (len cap : Nat) (f : Nat → OpV) (w : World) (h : OpsIn w a len cap f) :
    Calls Try.prog 3 #[.int .i64 (S : Int), .slice a len cap] w fun e w' => e = .returned (.bool true) ∧ Below w.heap.size w w' := by
  obtain ⟨hlc, hcm, hat⟩ := h
  have HAT := Lib.hid hat
  clear hat
  have h3 : ¬ (S : Int) < 1 := by omega
  have h4 : ¬ 65536 < (S : Int) := by omega
  go_enter Try.func3, Try.ntmps3
  go_wp2_with fail
  refine (new_k S w hS1 hS2).mono ?_
  rintro e w1 ⟨rfl, H1⟩
  have H2 : Hid (St w w1 w.heap.size S none [] [] none 0 0) := Lib.hid ⟨H1.out, Own.nil _ _ _, rfl, fun j hj => by cases hj⟩
  clear H1
  go_wp2_with fail
  generalize hg : w.heap.size = g at *
  have HG := Lib.hid hg
  clear hg
  go_loopw [9, 10] (fun av i wr => ∃ (k : Nat) (r : Option Nat) (A : List UInt8) (aa : Option Addr) (n ca : Nat), k ≤ len ∧ k ≤ 60 ∧ i = .int .i64 (k : Int) ∧ av = .slice aa n ca ∧ n ≤ 100 * k ∧ Hid (St w wr g S r A A aa n ca)) (fun _ i _ => 60 - (intOf i).toNat)
  case atStart => exact ⟨0, none, [], none, 0, 0, Nat.zero_le _, by omega, rfl, rfl, by omega, H2⟩
  case round =>
    clear H2
    obtain ⟨k, r, A, aa, n0, ca, hk, hk60, rfl, rfl, hal, HK⟩ := hrel
    by_cases hlt : k < len ∧ k < 60
    · obtain ⟨hlt, hlt60⟩ := hlt
      obtain ⟨b, off, rfl, ho⟩ : ∃ b off, a = some ⟨b, off, none⟩ ∧ OpAt wr b off k (f k) := by
        rcases HAT.out with h0 | ⟨b, off, ha, hc⟩
        · omega
        · exact ⟨b, off, ha, (hc k hlt).below (Nat.le_refl _) HK.out.kept.below⟩
      generalize f k = o at ho
      obtain ⟨kind, dist, n, c, raw⟩ := o
      obtain ⟨c0, c1, c2, c3, c4, hbl, wk, wd, wn⟩ := ho
      simp only at c0 c1 c2 c3 c4 wk wd wn
      obtain ⟨kd, hkd, hkd1, hkd2⟩ := place_in kind 3 (by omega) (by omega) wk.1 wk.2
      have hk1 : (wrap64 (kind.tmod 3 + 3)).tmod 3 = (kd : Int) := hkd1
      have hk2 : (kind.tmod 3 + 3).tmod 3 = (kd : Int) := hkd2
      clear hkd1 hkd2
      obtain ⟨X, hX⟩ : ∃ X, X = wr.alloc (.cells #[.int .i64 kind, .int .i64 dist, .int .i64 n, .int .u8 (c.toNat : Int), .bool raw] 30) := ⟨_, rfl⟩
      have HBL : Hid (Blk X wr.heap.size 30 #[.int .i64 kind, .int .i64 dist, .int .i64 n, .int .u8 (c.toNat : Int), .bool raw]) := Lib.hid (by rw [hX]; exact Blk.new wr _ _)
      have HK0 : Hid (St w X g S r A A aa n0 ca) := Lib.hid (by rw [hX]; exact HK.out.later ((Below.refl _ _).alloc (Nat.le_refl _) _))
      have HNE : Hid (¬ Fp g r wr.heap.size) := Lib.hid (fun hF => by have := HK.out.kept.wn.flt _ hF; omega)
      have HX := Lib.hid hX
      have HAL : Hid (A.length = n0) := Lib.hid HK.out.len
      have hn0 : n0 ≤ 6000 := by omega
      clear hX
      go_upto_region 12 with (fail)
      rw [← HX.out]
      generalize wr.heap.size = qs at *
      clear c0 c1 c2 c3 c4 HK HX
      have e0 := HBL.out.cell 0
      have e3 := HBL.out.cell 3
      simp only [List.getElem?_toArray, List.getElem?_cons_zero, List.getElem?_cons_succ] at e0 e3
      go_upto_if 66 with (fail)
      go_cut [9] (fun av wx => ∃ (r : Option Nat) (A : List UInt8) (aa : Option Addr) (n1 ca : Nat), av = .slice aa n1 ca ∧ n1 ≤ 100 * (k + 1) ∧ Hid (St w wx g S r A A aa n1 ca))
      case first =>
        by_cases hk2' : kd < 2
        · have hki : (kd : Int) < 2 := by omega
          go_wp2_with fail
          refine (put_s c HK0 (by rw [HAL.out]; omega)).mono ?_
          rintro e w3 ⟨rfl, r2, HK1, HO1⟩
          have HBL1 := Lib.hid (HO1.out.blk HBL.out HNE.out)
          have e3' := HBL1.out.cell 3
          simp only [List.getElem?_toArray, List.getElem?_cons_zero, List.getElem?_cons_succ] at e3'
          clear HO1 HBL HK0 e0 e3
          have hB : w.heap.size ≤ w3.heap.size := HK1.out.kept.below.size
          have HB1 : Hid (Bytes (w3.alloc (.cells #[.int .u8 (c.toNat : Int)] 5)) (some ⟨w3.heap.size, 0, none⟩) 1 1 [c]) := Lib.hid (one_bytes 5 w3 c)
          have HO : Hid (Own 5 w.heap.size (w3.alloc (.cells #[.int .u8 (c.toNat : Int)] 5)) (.slice aa n0 ca) A) := Lib.hid (HK1.out.own.below (Nat.le_refl _) ((Below.refl _ w3).alloc (Nat.le_refl _) _))
          go_wp2_with (at_builtin; refine wpList_append_lie (by rfl) (.tmp 71) (.tmp 74) 28 (by rfl) w.heap.size 5 Try.underlying28 info5 (.slice aa n0 ca) A (by rfl) HO.out (some ⟨w3.heap.size, 0, none⟩) 1 1 [c] (by rfl) HB1.out (by rw [HAL.out]; omega) (by simp; omega) ?_)
          rw [HAL.out]
          intro a2 c2 w4 hown hgrow hnext
          have HK2 := Lib.hid (HK1.out.app (m := 1) rfl hown hgrow hnext)
          clear hown hgrow hnext HO HB1 HBL1 HK1 e3'
          go_wp2_with fail
          go_meet
          case rel => exact ⟨r2, A ++ [c], a2, n0 + 1, c2, rfl, by omega, HK2⟩
        · have hki : ¬ (kd : Int) < 2 := by omega
          have e1 := HBL.out.cell 1
          have e2 := HBL.out.cell 2
          simp only [List.getElem?_toArray, List.getElem?_cons_zero, List.getElem?_cons_succ] at e1 e2
          clear e3
          go_upto_region 15 with (fail)
          go_quiet (fail)
          have HK1 := Lib.hid (HK0.out.later (show Below X.heap.size X (X.drewN nq) from ⟨rfl, rfl, rfl, Nat.le_refl _, fun _ _ => rfl⟩))
          have HBL1 : Hid (Blk (X.drewN nq) qs 30 _) := Lib.hid HBL.out
          clear HK0 HBL e0 e1 e2
          generalize X.drewN nq = X1 at *
          have e4 := HBL1.out.cell 4
          simp only [List.getElem?_toArray, List.getElem?_cons_zero, List.getElem?_cons_succ] at e4
          obtain ⟨M, hM⟩ : ∃ M, M = min n0 S := ⟨_, rfl⟩
          have hmin : (if S < n0 then (S : Int) else (n0 : Int)) = (M : Int) := by split <;> omega
          have hM6 : M ≤ 6000 := by omega
          have HM := Lib.hid hM
          clear hM
          go_upto_region 17 with (fail)
          clear hmin
          go_upto_if 86 with (fail)
          go_cut [12, 13] (fun dv nv wx => ∃ d m : Int, dv = .int .i64 d ∧ nv = .int .i64 m ∧ (-9223372036854775808 ≤ d ∧ d ≤ 9223372036854775807) ∧ (-9223372036854775808 ≤ m ∧ m ≤ 9223372036854775807) ∧ (m ≤ 100 ∨ 65538 < m) ∧ wx = X1)
          case first =>
            obtain ⟨D, hD1, hD2, hd, hd2⟩ := size_of dist (M + 1) (by omega)
            have hd : (IntKind.u64.wrap dist).tmod ((M : Int) + 1) = ((D - 1 : Nat) : Int) := hd
            cases raw
            · have hand := i64_and_mask n 6 (by omega) 63 64 rfl rfl
              go_wp2_with fail
              go_meet
              case rel => exact ⟨(D : Int), n % 64, rfl, rfl, by omega, by omega, by omega, rfl⟩
            · by_cases hn1 : 100 < n ∧ n ≤ 65538
              · obtain ⟨hn1, hn2⟩ := hn1
                go_wp2_with fail
                go_meet
                case rel => exact ⟨dist, 100, rfl, rfl, wd, by omega, by omega, rfl⟩
              · by_cases hn2 : 100 < n
                · have hn3 : ¬ n ≤ 65538 := by omega
                  go_wp2_with fail
                  go_meet
                  case rel => exact ⟨dist, n, rfl, rfl, wd, wn, by omega, rfl⟩
                · go_wp2_with fail
                  go_meet
                  case rel => exact ⟨dist, n, rfl, rfl, wd, wn, by omega, rfl⟩
          obtain ⟨d, m, rfl, rfl, hd, hm, hm100, rfl⟩ := hcut
          clear HBL1 e4
          by_cases hq : (0 ≤ m ∧ m ≤ 65538) ∧ 1 ≤ d ∧ d ≤ M
          · obtain ⟨⟨q1, q2⟩, q3, q4⟩ := hq
            obtain ⟨m, rfl⟩ : ∃ m' : Nat, m = (m' : Int) := ⟨m.toNat, by omega⟩
            obtain ⟨D, rfl⟩ : ∃ D : Nat, d = (D : Int) := ⟨d.toNat, by omega⟩
            have hm1 : m ≤ 100 := by omega
            have hD1 : 1 ≤ D := by omega
            have hD2 : D ≤ M := by omega
            have hMn : M ≤ n0 := by have := HM.out; omega
            have p1 : ¬ (m : Int) < 0 := by omega
            have p2 : ¬ 65538 < (m : Int) := by omega
            have p3 : ¬ (D : Int) < 1 := by omega
            have p4 : ¬ M < D := by omega
            clear hm100 hd hm q1 q2 q3 q4 wk wd wn hk1 hk2 hkd hki
            have HK2 : Hid (St w wc g S r A (grow A D 0) aa (n0 + 0) ca) := HK1
            go_wp2_with fail
            go_loopw [9, 17] (fun av kv wr => ∃ (j : Nat) (a2 : Option Addr) (c2 : Nat), j ≤ m ∧ kv = .int .i64 (j : Int) ∧ av = .slice a2 (n0 + j) c2 ∧ Hid (St w wr g S r A (grow A D j) a2 (n0 + j) c2)) (fun _ kv _ => m - (intOf kv).toNat)
            case atStart => exact ⟨0, aa, ca, Nat.zero_le _, rfl, rfl, HK2⟩
            case round =>
              clear HK1 HK2
              obtain ⟨j, a2, c2, hj, rfl, rfl, HKj⟩ := hrel
              by_cases hjm : j < m
              · have hgl : (grow A D j).length = n0 + j := by rw [grow_len, HAL.out]
                have hgs := grow_succ A D j
                rw [hgl] at hgs
                have hI : n0 + j - D < (grow A D j).length := by rw [hgl]; omega
                rw [List.getD_eq_getElem?_getD, List.getElem?_eq_getElem hI, Option.getD_some] at hgs
                obtain ⟨ga, ca2, hv, -⟩ := HKj.out.own.some_ (by omega)
                have hv1 : a2 = some ⟨ga, 0, none⟩ := by simp only [Value.slice.injEq] at hv; exact hv.1
                clear hv
                subst hv1
                have hcx := own_cell HKj.out.own hgl _ hI
                unfold bv at hcx
                generalize (grow A D j)[n0 + j - D] = y at hcx hgs
                obtain ⟨n', hn'⟩ : ∃ n', n' = n0 + j := ⟨_, rfl⟩
                have hn1 : n' ≤ 6100 := by omega
                have hn2 : D ≤ n' := by omega
                have hII : n' - D < n' := by omega
                have HGS := Lib.hid hgs
                have HGL := Lib.hid hgl
                have hB : w.heap.size ≤ wr.heap.size := HKj.out.kept.below.size
                have HNN := Lib.hid hn'
                clear hgs hgl hI
                rw [← hn'] at hcx HKj ⊢
                rw [← hn'] at HGL
                clear hn'
                have HB1 : Hid (Bytes (wr.alloc (.cells #[.int .u8 (y.toNat : Int)] 5)) (some ⟨wr.heap.size, 0, none⟩) 1 1 [y]) := Lib.hid (one_bytes 5 wr y)
                have HO : Hid (Own 5 w.heap.size (wr.alloc (.cells #[.int .u8 (y.toNat : Int)] 5)) (.slice (some ⟨ga, 0, none⟩) n' c2) (grow A D j)) := Lib.hid (HKj.out.own.below (Nat.le_refl _) ((Below.refl _ wr).alloc (Nat.le_refl _) _))
                go_wp2_with (at_builtin; refine wpList_append_lie (by rfl) (.tmp 129) (.tmp 137) 28 (by rfl) w.heap.size 5 Try.underlying28 info5 (.slice (some ⟨ga, 0, none⟩) n' c2) (grow A D j) (by rfl) HO.out (some ⟨wr.heap.size, 0, none⟩) 1 1 [y] (by rfl) HB1.out (by rw [HGL.out]; omega) (by simp; omega) ?_)
                rw [HGL.out]
                intro a3 c3 w4 hown hgrow hnext
                have HK4 := Lib.hid (HKj.out.app (m := 1) rfl hown hgrow hnext)
                rw [← HGS.out] at HK4
                clear hown hgrow hnext HO HB1 HKj hcx
                go_wp2_with fail
                go_roundw
                case rel => exact ⟨j + 1, a3, c3, by omega, by go_num, by rw [show n' + 1 = n0 + (j + 1) from by have := HNN.out; omega], by rw [show n0 + (j + 1) = n' + 1 from by have := HNN.out; omega]; exact HK4⟩
                case measure => simp [intOf]; omega
              · obtain rfl : j = m := by omega
                obtain ⟨n', hn'⟩ : ∃ n', n' = n0 + j := ⟨_, rfl⟩
                have hn1 : n' ≤ 6100 := by omega
                have hn2 : n0 ≤ n' := by omega
                have HNN := Lib.hid hn'
                rw [← hn'] at HKj ⊢
                clear hn'
                go_wp2_with fail
                refine (copy_s D j HKj (by omega) hD1 (by have := HM.out; rw [HAL.out]; omega) (by rw [HAL.out]; omega)).mono ?_
                rintro e w4 ⟨xb, r2, rfl, HXB, HK4⟩
                obtain ⟨ga, ca2, hv, -⟩ := HK4.out.own.some_ (by rw [HK4.out.len]; omega)
                have hv1 : a2 = some ⟨ga, 0, none⟩ := by simp only [Value.slice.injEq] at hv; exact hv.1
                clear hv HKj
                subst hv1
                have hcl : c2 ≤ 9223372036854775807 ∧ n' ≤ c2 := by
                  obtain ⟨a', c', h1, h2⟩ := HK4.out.own.bytes
                  simp only [Value.slice.injEq] at h1
                  obtain ⟨-, h3, rfl⟩ := h1
                  exact ⟨h2.cap_le, by rw [h3]; exact h2.le_cap⟩
                obtain ⟨hcl1, hcl2⟩ := hcl
                have hcv1 : ∀ q, (convert 28 9 (.slice (some ⟨xb, 0, none⟩) j j)).run Try.prog (w4.drewN q) = .ok (.string ⟨(copy A D j).toArray⟩) (w4.drewN q) := fun q => conv (HXB.out.below (Nat.le_refl _) (show Below w4.heap.size w4 (w4.drewN q) from ⟨rfl, rfl, rfl, Nat.le_refl _, fun _ _ => rfl⟩))
                have hcv2 : ∀ q, (convert 28 9 (.slice (if c2 = n0 then some ⟨ga, 0, none⟩ else some ⟨ga, n0, none⟩) (n' - n0) (c2 - n0))).run Try.prog (w4.drewN q) = .ok (.string ⟨(copy A D j).toArray⟩) (w4.drewN q) := fun q => by
                  have h := tail_bytes (HK4.out.own.below (Nat.le_refl _) (show Below w4.heap.size w4 (w4.drewN q) from ⟨rfl, rfl, rfl, Nat.le_refl _, fun _ _ => rfl⟩)) HK4.out.len hn2
                  have e : (grow A D j).drop n0 = copy A D j := by unfold copy; rw [HAL.out]
                  rw [e] at h
                  exact run_string_bytes _ 28 9 5 Try.underlying28 Try.underlying5 Try.underlying9 h
                obtain ⟨P0, hP0⟩ : ∃ P0, (if c2 = n0 then (some ⟨ga, 0, none⟩ : Option Addr) else some ⟨ga, n0, none⟩) = P0 := ⟨_, rfl⟩
                rw [hP0] at hcv2
                have HCP := Lib.hid (copy_len A D j)
                generalize copy A D j = cp at hcv1 hcv2
                go_upto_region 33 with (fail)
                go_quiet (fail)
                have HK5 := Lib.hid (HK4.out.later (show Below w4.heap.size w4 (w4.drewN nq) from ⟨rfl, rfl, rfl, Nat.le_refl _, fun _ _ => rfl⟩))
                clear hcv1 hcv2 HK4 HXB
                generalize w4.drewN nq = w5 at *
                go_wp2_with fail
                go_meet
                case rel => exact ⟨r2, grow A D j, _, n', c2, rfl, by have := HNN.out; omega, HK5⟩
          · obtain ⟨q, hq0, hq1, HC⟩ : ∃ q : Nat, ((q : Int) == 0) = false ∧ ((q = 1 ∧ (m < 0 ∨ 65538 < m)) ∨ (q = 2 ∧ 0 ≤ m ∧ m ≤ 65538 ∧ (d < 1 ∨ (M : Int) < d))) ∧ Hid (Calls Try.prog 10 #[.pointer (some ⟨g, 0, none⟩), .int .i64 d, .int .i64 m] wc fun e w' => e = .returned (.tuple #[.slice none 0 0, .int .i64 (q : Int)]) ∧ wc = w') := by
              by_cases hm1 : m < 0 ∨ 65538 < m
              · exact ⟨1, rfl, .inl ⟨rfl, hm1⟩, Lib.hid (copy_arg d m _ wc hm1)⟩
              · have hd1 : d < 1 ∨ (M : Int) < d := by omega
                exact ⟨2, rfl, .inr ⟨rfl, by omega, by omega, hd1⟩, Lib.hid (copy_form d m _ g S r A wc HK1.out.kept.wn (by omega) (by omega) (by rw [HAL.out, ← HM.out]; exact hd1))⟩
            have hM6' : (M : Int) ≤ 6000 := by omega
            clear hq hm100 wk wd wn hk1 hk2 hkd hki
            go_upto_block 2 with (fail)
            go_cut [15] (fun cv wx => cv = .int .i64 (q : Int) ∧ wx = wc)
            case first =>
              rcases hq1 with ⟨rfl, h1 | h1⟩ | ⟨rfl, h1, h2, h5 | h5⟩
              · go_wp2_with fail
                go_meet
                case rel => exact ⟨rfl, rfl⟩
              · have h2 : ¬ m < 0 := by omega
                go_wp2_with fail
                go_meet
                case rel => exact ⟨rfl, rfl⟩
              · go_wp2_with fail
                go_meet
                case rel => exact ⟨rfl, rfl⟩
              · have h6 : ¬ d < 1 := by omega
                go_wp2_with fail
                go_meet
                case rel => exact ⟨rfl, rfl⟩
            obtain ⟨rfl, rfl⟩ := hcut
            clear hq1 hM6'
            have hqq : ((q : Int) != (q : Int)) = false := by simp
            go_wp2_with fail
            go_loopw [9, 17] (fun av kv wr => kv = .int .i64 0 ∧ av = .slice aa n0 ca ∧ wr = wc) (fun _ _ _ => 0)
            case atStart => exact ⟨rfl, rfl, rfl⟩
            case round =>
              obtain ⟨rfl, rfl, rfl⟩ := hrel
              have hcv1 : ∀ q, (convert 28 9 (.slice none 0 0)).run Try.prog (wr.drewN q) = .ok (.string ⟨([] : List UInt8).toArray⟩) (wr.drewN q) := fun q => run_string_bytes _ 28 9 5 Try.underlying28 Try.underlying5 Try.underlying9 (nil_bytes _)
              have hcases : (aa = none ∧ n0 = 0 ∧ ca = 0) ∨ ∃ ga, aa = some ⟨ga, 0, none⟩ := by
                rcases HK1.out.own.2 with ⟨h1, -⟩ | ⟨ga, cap', cur, h1, -⟩
                · simp only [Value.slice.injEq] at h1
                  exact .inl h1
                · simp only [Value.slice.injEq] at h1
                  exact .inr ⟨ga, h1.1⟩
              by_cases h0m : 0 < m
              · go_wp2_with fail
                refine HC.out.mono ?_
                rintro e w4 ⟨rfl, rfl⟩
                go_upto_region 33 with (fail)
                rcases hcases with ⟨rfl, rfl, rfl⟩ | ⟨ga, rfl⟩
                · go_quiet (fail)
                  have HK5 := Lib.hid (HK1.out.later (show Below wr.heap.size wr (wr.drewN nq) from ⟨rfl, rfl, rfl, Nat.le_refl _, fun _ _ => rfl⟩))
                  clear hcv1 HK1 HC
                  generalize wr.drewN nq = w5 at *
                  go_wp2_with fail
                  go_meet
                  case rel => exact ⟨r, A, none, 0, 0, rfl, by omega, HK5⟩
                · have hcl : ca ≤ 9223372036854775807 ∧ n0 ≤ ca := by
                    obtain ⟨a', c', h1, h2⟩ := HK1.out.own.bytes
                    simp only [Value.slice.injEq] at h1
                    obtain ⟨-, h3, rfl⟩ := h1
                    exact ⟨h2.cap_le, by rw [h3]; exact h2.le_cap⟩
                  obtain ⟨hcl1, hcl2⟩ := hcl
                  obtain ⟨P0, hP0⟩ : ∃ P0, (if ca = n0 then (some ⟨ga, 0, none⟩ : Option Addr) else some ⟨ga, n0, none⟩) = P0 := ⟨_, rfl⟩
                  have hcv2 : ∀ q, (convert 28 9 (.slice P0 0 (ca - n0))).run Try.prog (wr.drewN q) = .ok (.string ⟨([] : List UInt8).toArray⟩) (wr.drewN q) := fun q => by
                    have h := tail_bytes (HK1.out.own.below (Nat.le_refl _) (show Below wr.heap.size wr (wr.drewN q) from ⟨rfl, rfl, rfl, Nat.le_refl _, fun _ _ => rfl⟩)) HK1.out.len (Nat.le_refl _)
                    rw [hP0, Nat.sub_self, List.drop_of_length_le (by rw [HAL.out]; exact Nat.le_refl _)] at h
                    exact run_string_bytes _ 28 9 5 Try.underlying28 Try.underlying5 Try.underlying9 h
                  go_quiet (fail)
                  have HK5 := Lib.hid (HK1.out.later (show Below wr.heap.size wr (wr.drewN nq) from ⟨rfl, rfl, rfl, Nat.le_refl _, fun _ _ => rfl⟩))
                  clear hcv1 hcv2 HK1 HC
                  generalize wr.drewN nq = w5 at *
                  go_wp2_with fail
                  go_meet
                  case rel => exact ⟨r, A, _, n0, ca, rfl, by omega, HK5⟩
              · go_wp2_with fail
                refine HC.out.mono ?_
                rintro e w4 ⟨rfl, rfl⟩
                go_upto_region 33 with (fail)
                rcases hcases with ⟨rfl, rfl, rfl⟩ | ⟨ga, rfl⟩
                · go_quiet (fail)
                  have HK5 := Lib.hid (HK1.out.later (show Below wr.heap.size wr (wr.drewN nq) from ⟨rfl, rfl, rfl, Nat.le_refl _, fun _ _ => rfl⟩))
                  clear hcv1 HK1 HC
                  generalize wr.drewN nq = w5 at *
                  go_wp2_with fail
                  go_meet
                  case rel => exact ⟨r, A, none, 0, 0, rfl, by omega, HK5⟩
                · have hcl : ca ≤ 9223372036854775807 ∧ n0 ≤ ca := by
                    obtain ⟨a', c', h1, h2⟩ := HK1.out.own.bytes
                    simp only [Value.slice.injEq] at h1
                    obtain ⟨-, h3, rfl⟩ := h1
                    exact ⟨h2.cap_le, by rw [h3]; exact h2.le_cap⟩
                  obtain ⟨hcl1, hcl2⟩ := hcl
                  obtain ⟨P0, hP0⟩ : ∃ P0, (if ca = n0 then (some ⟨ga, 0, none⟩ : Option Addr) else some ⟨ga, n0, none⟩) = P0 := ⟨_, rfl⟩
                  have hcv2 : ∀ q, (convert 28 9 (.slice P0 0 (ca - n0))).run Try.prog (wr.drewN q) = .ok (.string ⟨([] : List UInt8).toArray⟩) (wr.drewN q) := fun q => by
                    have h := tail_bytes (HK1.out.own.below (Nat.le_refl _) (show Below wr.heap.size wr (wr.drewN q) from ⟨rfl, rfl, rfl, Nat.le_refl _, fun _ _ => rfl⟩)) HK1.out.len (Nat.le_refl _)
                    rw [hP0, Nat.sub_self, List.drop_of_length_le (by rw [HAL.out]; exact Nat.le_refl _)] at h
                    exact run_string_bytes _ 28 9 5 Try.underlying28 Try.underlying5 Try.underlying9 h
                  go_quiet (fail)
                  have HK5 := Lib.hid (HK1.out.later (show Below wr.heap.size wr (wr.drewN nq) from ⟨rfl, rfl, rfl, Nat.le_refl _, fun _ _ => rfl⟩))
                  clear hcv1 hcv2 HK1 HC
                  generalize wr.drewN nq = w5 at *
                  go_wp2_with fail
                  go_meet
                  case rel => exact ⟨r, A, _, n0, ca, rfl, by omega, HK5⟩
      clear HK0 HBL HNE HAL hn0 hal e0 e3
      obtain ⟨r2, A2, a2, n1, c2, rfl, hn1, HK⟩ := hcut
      have hn2 : n1 ≤ 6000 := by omega
      have HAL := Lib.hid HK.out.len
      obtain ⟨M, hM⟩ : ∃ M, M = min A2.length S := ⟨_, rfl⟩
      have hmin : (if S < n1 then (S : Int) else (n1 : Int)) = (M : Int) := by rw [hM, HAL.out]; split <;> omega
      have hee : ((M : Int) != (M : Int)) = false := by simp
      have hnn : ((n1 : Int) != (n1 : Int)) = false := by simp
      go_wp2_with fail
      refine (have_any _ g S r2 A2 wc HK.out.kept.wn).mono ?_
      rw [← hM]
      rintro e w' ⟨rfl, rfl⟩
      go_wp2_with fail
      refine (total_any _ g S r2 A2 wc HK.out.kept.wn).mono ?_
      rw [HAL.out]
      rintro e w' ⟨rfl, rfl⟩
      go_wp2_with fail
      go_roundw
      case rel => exact ⟨k + 1, r2, A2, a2, n1, c2, by omega, by omega, by go_num, rfl, hn1, HK⟩
      case measure => simp [intOf]; omega
    · go_upto_region 9 with (fail)
      go_cut [54] (fun v wc => v = .bool false ∧ wc = wr)
      case first =>
        by_cases h1 : k < len
        · obtain rfl : k = 60 := by omega
          go_wp2_with fail
          go_meet
          case rel => exact ⟨rfl, rfl⟩
        · obtain rfl : k = len := by omega
          go_wp2_with fail
          go_meet
          case rel => exact ⟨rfl, rfl⟩
      obtain ⟨rfl, rfl⟩ := hcut
      go_wp2_with fail
      refine (told_any wc).mono ?_
      rintro e w4 ⟨rfl, hb⟩
      have HK4 := Lib.hid (HK.out.later hb)
      clear hb HK
      go_wp2_with fail
      go_ret
      exact ⟨rfl, HK4.out.kept.below⟩

theorem plays_law (x : Int) (a : Option Addr) (len cap : Nat) (f : Nat → OpV) (w : World) (h : OpsIn w a len cap f) :
    Calls Try.prog 3 #[.int .i64 x, .slice a len cap] w fun e w' => e = .returned (.bool true) ∧ Below w.heap.size w w' := by
  by_cases h1 : x < 1 ∨ 65536 < x
  · exact plays_bad x _ w h1
  · obtain ⟨S, rfl⟩ : ∃ S : Nat, x = (S : Int) := ⟨x.toNat, by omega⟩
    exact plays_ok S (by omega) (by omega) a len cap f w h
end Go.Proofs.Ytdegclfgmjcdfaa.WinC
