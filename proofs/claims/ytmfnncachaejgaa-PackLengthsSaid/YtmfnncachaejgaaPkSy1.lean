/-
  slices.symMergeCmpFunc where one side has one element.
-/
import Derived.Test.YtmfnncachaejgaaPkSym
namespace Go.Proofs.Ytmfnncachaejgaa.PkC
open Go.Shelf Go.RowKit Go.Lib Go.Sort Go.My

section
variable {n : Nat} [NeZero n] {key : Fin n → Int} {w0 : World} {blk off cap c cb co len cc : Nat} {d0 : Array (Fin n)}
theorem sw_cell {w : World} {d : Array (Fin n)} (S : SW encF w0 blk off d w) {p : Addr} {v : Value} (hp : p.block ≠ blk) (hv : w0.cell? p = some v) : w.cell? p = some v := by
  obtain ⟨m, os, rfl⟩ := S
  have hlt : p.block < w0.heap.size := block_lt_of_cell hv
  unfold sortWorld
  rw [cell?_grow _ _ _ (by rw [size_putRow]; exact hlt), cell?_putRow_other _ _ _ _ _ _ (Or.inl hp)]
  exact hv
/-- Two symbols are compared, in whatever world of the sort. -/
theorem cmp_sw {w : World} {d : Array (Fin n)} (hB : Box w0 blk c cb co len cc n key) (S : SW encF w0 blk off d w) (x y : Fin n) (q : Nat) :
    Calls Try.prog 20 #[.int .i64 ((x.val : Nat) : Int), .int .i64 ((y.val : Nat) : Int), .pointer (some ⟨c, 0, none⟩)] (w.drewN q) fun e w' => e = .returned (.int .i64 (cf key x y)) ∧ ∃ m, w' = (w.drewN q).drewN m :=
  have S' := S.drewN q
  less_any x.val y.val len cc c cb co (key x) (key y) _ (Nat.lt_of_lt_of_le x.2 hB.nle) (Nat.lt_of_lt_of_le y.2 hB.nle) (sw_cell S' hB.ne1 hB.box) (sw_cell S' hB.ne2 (hB.at_ x)) (sw_cell S' hB.ne2 (hB.at_ y))
omit [NeZero n] in
theorem cf_neg (x y : Fin n) : cf key x y < 0 ↔ key x < key y := by
  have := lt_key key x y
  unfold ltOf at this
  by_cases h : key x < key y
  · rw [decide_eq_true h] at this; exact ⟨fun _ => h, fun _ => of_decide_eq_true this⟩
  · rw [decide_eq_false h] at this; exact ⟨fun h' => absurd h' (of_decide_eq_false this), fun h' => absurd h' h⟩
/-- What a step of a binary search wants: two places are compared. -/
theorem cmp_step {w : World} {d : Array (Fin n)} (hB : Box w0 blk c cb co len cc n key) (R : Row1 encF w0 blk off d0) (hs : d0.size = d.size) (S : SW encF w0 blk off d w) (i j : Nat) (hi : i < d.size) (hj : j < d.size) :
    ∃ (x y r : Int), w.cell? ⟨blk, off + i, none⟩ = some (.int .i64 x) ∧ w.cell? ⟨blk, off + j, none⟩ = some (.int .i64 y) ∧
      Hid (∀ q, Calls Try.prog 20 #[.int .i64 x, .int .i64 y, .pointer (some ⟨c, 0, none⟩)] (w.drewN q) fun e w' => e = .returned (.int .i64 r) ∧ ∃ m, w' = (w.drewN q).drewN m) ∧ Hid (r < 0 ↔ key d[i]! < key d[j]!) :=
  ⟨_, _, _, S.c1 R hs.symm i hi, S.c1 R hs.symm j hj, Lib.hid (cmp_sw hB S d[i]! d[j]!), Lib.hid (cf_neg _ _)⟩

set_option maxRecDepth 100000 in
set_option maxHeartbeats 4000000 in
theorem sym_first {w : World} {a m b : Nat} {d : Array (Fin n)} (hB : Box w0 blk c cb co len cc n key) (R : Row1 encF w0 blk off d0) (hs : d0.size = d.size) (S : SW encF w0 blk off d w) (h1 : m = a + 1) (h2 : m < b) (h3 : b ≤ d.size) (hsz : d.size < 2305843009213693952) (hR : Rise key m b d) :
    Calls Try.prog 29 #[.slice (some ⟨blk, off, none⟩) d.size cap, .int .i64 a, .int .i64 m, .int .i64 b, .func (.func 20) #[] #[.pointer (some ⟨c, 0, none⟩)]] w fun e w' => e = .returned (.tuple #[]) ∧ ∃ d', d'.size = d.size ∧ PermIn a b d d' ∧ Rise key a b d' ∧ SW encF w0 blk off d' w' := by
  have HB := Lib.hid hB
  have HR := Lib.hid R
  have HS := Lib.hid S
  have HD := Lib.hid hs
  have HI := Lib.hid hR
  clear hB R S hs hR
  have k1 : IntKind.i64.wrap ((m : Int) - (a : Int)) = 1 := by rw [IntKind.wrap_i64]; omega
  have HM := Lib.hid h1
  have h0 : a < m := by omega
  clear h1
  go_enter Try.func29, Try.ntmps29
  go_wp2_with fail
  clear k1
  go_loopw [10, 11] (fun s t wr => ∃ (i j : Nat), s = .int .i64 (i : Int) ∧ t = .int .i64 (j : Int) ∧ m ≤ i ∧ i ≤ j ∧ j ≤ b ∧ Hid (i = m ∨ key d[i - 1]! < key d[a]!) ∧ Hid (j = b ∨ key d[a]! ≤ key d[j]!) ∧ Hid (SW encF w0 blk off d wr)) (fun s t _ => (intOf t).toNat - (intOf s).toNat)
  case atStart => exact ⟨m, b, rfl, rfl, by omega, by omega, by omega, Lib.hid (.inl rfl), Lib.hid (.inl rfl), HS⟩
  case round =>
    clear HS
    obtain ⟨i, j, rfl, rfl, him, hij, hjb, HL, HG, HS⟩ := hrel
    by_cases hlt : i < j
    · have hlti : (i : Int) < (j : Int) := by omega
      obtain ⟨h, hh⟩ : ∃ h, h = (i + j) / 2 := ⟨_, rfl⟩
      obtain ⟨x, y, r, c1, c2, HC, HN⟩ := cmp_step HB.out HR.out HD.out HS.out h a (by omega) (by omega)
      have e1 : ((i : Int) + (j : Int)) / 2 = (h : Int) := by omega
      have b1 : (h : Int) < (d.size : Int) := by omega
      have b2 : (a : Int) < (d.size : Int) := by omega
      have g1 : i ≤ h ∧ h < j := by omega
      clear hh hlt
      go_wp2_with fail
      by_cases hr : r < 0
      · have hd : decide (r < 0) = true := decide_eq_true hr
        have HK := Lib.hid (HN.out.1 hr)
        clear HN
        go_quiet ((go_at_call 20; exact Calls.quiet_of (HC.out _)))
        have HS2 : Hid (SW encF w0 blk off d (wr.drewN nq)) := Lib.hid (HS.out.drewN nq)
        clear HC HS c1 c2
        generalize wr.drewN nq = w2 at *
        go_wp2_with fail
        go_roundw
        case measure => simp [intOf]; omega
        case rel => exact ⟨h + 1, j, by simp, rfl, by omega, by omega, hjb, Lib.hid (.inr HK.out), HG, HS2⟩
      · have hd : decide (r < 0) = false := decide_eq_false hr
        have HK := Lib.hid (Int.not_lt.1 fun h => hr (HN.out.2 h))
        clear HN
        go_quiet ((go_at_call 20; exact Calls.quiet_of (HC.out _)))
        have HS2 : Hid (SW encF w0 blk off d (wr.drewN nq)) := Lib.hid (HS.out.drewN nq)
        clear HC HS c1 c2
        generalize wr.drewN nq = w2 at *
        go_wp2_with fail
        go_roundw
        case measure => simp [intOf]; omega
        case rel => exact ⟨i, h, rfl, rfl, him, by omega, by omega, HL, Lib.hid (.inr HK.out), HS2⟩
    · obtain rfl : i = j := by omega
      have HF : Hid (PermIn a b d (shl d a (i - 1 - a)) ∧ Rise key a b (shl d a (i - 1 - a))) := by
        have := HM.out
        subst this
        exact Lib.hid (first_up d a b i h3 HI.out him hjb HL.out HG.out)
      clear HL HG HI
      have ea : IntKind.i64.wrap ((i : Int) - 1) = ((i - 1 : Nat) : Int) := by rw [IntKind.wrap_i64]; omega
      have ha1 : a ≤ i - 1 := by omega
      have hib : i - 1 < d.size := by omega
      generalize hz : i - 1 = z at *
      have HZ := Lib.hid hz
      clear hz
      go_wp2_with fail
      go_loopw [13] (fun s wr => ∃ k : Nat, s = .int .i64 (k : Int) ∧ a ≤ k ∧ k ≤ z ∧ Hid (SW encF w0 blk off (shl d a (k - a)) wr)) (fun s _ => z - (intOf s).toNat)
      case atStart => exact ⟨a, rfl, Nat.le_refl _, ha1, by rw [Nat.sub_self]; exact HS⟩
      case round =>
        clear HS
        obtain ⟨k, rfl, hak, hkz, HS⟩ := hrel
        by_cases hlt : k < z
        · have hlti : (k : Int) < (z : Int) := by omega
          have hs2 : (shl d a (k - a)).size = d.size := shl_size _ _ _
          obtain ⟨c1, c2, f1, f2, ⟨u, c3⟩, S2⟩ := two_cells HR.out (by have := HD.out; omega) HS.out k (k + 1) (by omega) (by omega)
          have e : swp (shl d a (k - a)) k (k + 1) = shl d a (k + 1 - a) := by
            rw [show k + 1 - a = (k - a) + 1 by omega, shl, show a + (k - a) = k by omega]
          have HS2 := Lib.hid S2
          rw [e] at HS2
          clear e
          clear S2 HS
          obtain ⟨x, hx⟩ : ∃ x, x = (((shl d a (k - a))[k]!).val : Int) := ⟨_, rfl⟩
          obtain ⟨y, hy⟩ : ∃ y, y = (((shl d a (k - a))[k + 1]!).val : Int) := ⟨_, rfl⟩
          unfold encF at c1 c2 c3
          rw [← hx] at c1
          rw [← hy] at c2 c3
          have HS2 : Hid (SW encF w0 blk off (shl d a (k + 1 - a)) ((wr.setCell ⟨blk, off + k, none⟩ (.int .i64 y)).setCell ⟨blk, off + (k + 1), none⟩ (.int .i64 x)).drew) := by rw [hx, hy]; exact HS2
          clear hx hy hs2
          obtain ⟨p, hp⟩ : ∃ p, p = k + 1 := ⟨_, rfl⟩
          have e1 : IntKind.i64.wrap ((k : Int) + 1) = (p : Int) := by rw [IntKind.wrap_i64]; omega
          have b1 : (k : Int) < (d.size : Int) := by omega
          have b2 : (p : Int) < (d.size : Int) := by omega
          rw [← hp] at c2 c3 f2 HS2
          have HP := Lib.hid hp
          clear hp
          go_wp2_with fail
          go_big_region
          clear c1 c2 c3 f1 f2
          generalize ((wr.setCell ⟨blk, off + k, none⟩ (.int .i64 y)).setCell ⟨blk, off + p, none⟩ (.int .i64 x)).drew = w3 at *
          go_wp2_with fail
          go_roundw
          case measure => have := HP.out; simp [intOf]; omega
          case rel => have := HP.out; exact ⟨p, rfl, by omega, by omega, HS2⟩
        · obtain rfl : k = z := by omega
          go_wp2_with fail
          refine bodyPost_ret (results_none rfl _ _ _) rfl ?_
          exact ⟨rfl, _, shl_size _ _ _, HF.out.1, HF.out.2, HS.out⟩

set_option maxRecDepth 100000 in
set_option maxHeartbeats 4000000 in
theorem sym_last {w : World} {a m b : Nat} {d : Array (Fin n)} (hB : Box w0 blk c cb co len cc n key) (R : Row1 encF w0 blk off d0) (hs : d0.size = d.size) (S : SW encF w0 blk off d w) (h0 : a + 1 < m) (h1 : b = m + 1) (h3 : b ≤ d.size) (hsz : d.size < 2305843009213693952) (hR : Rise key a m d) :
    Calls Try.prog 29 #[.slice (some ⟨blk, off, none⟩) d.size cap, .int .i64 a, .int .i64 m, .int .i64 b, .func (.func 20) #[] #[.pointer (some ⟨c, 0, none⟩)]] w fun e w' => e = .returned (.tuple #[]) ∧ ∃ d', d'.size = d.size ∧ PermIn a b d d' ∧ Rise key a b d' ∧ SW encF w0 blk off d' w' := by
  have HB := Lib.hid hB
  have HR := Lib.hid R
  have HS := Lib.hid S
  have HD := Lib.hid hs
  have HI := Lib.hid hR
  clear hB R S hs hR
  obtain ⟨g, hg⟩ : ∃ g, g = m - a := ⟨_, rfl⟩
  have k1 : IntKind.i64.wrap ((m : Int) - (a : Int)) = (g : Int) := by rw [IntKind.wrap_i64]; omega
  have k2 : ((g : Int) == 1) = false := by simp; omega
  have k3 : IntKind.i64.wrap ((b : Int) - (m : Int)) = 1 := by rw [IntKind.wrap_i64]; omega
  have hmd : m < d.size := by omega
  have HM := Lib.hid h1
  have HA := Lib.hid h3
  clear h1 h3 hg
  go_enter Try.func29, Try.ntmps29
  go_wp2_with fail
  clear k1 k2 k3
  go_loopw [14, 15] (fun s t wr => ∃ (i j : Nat), s = .int .i64 (i : Int) ∧ t = .int .i64 (j : Int) ∧ a ≤ i ∧ i ≤ j ∧ j ≤ m ∧ Hid (i = a ∨ key d[i - 1]! ≤ key d[m]!) ∧ Hid (j = m ∨ key d[m]! < key d[j]!) ∧ Hid (SW encF w0 blk off d wr)) (fun s t _ => (intOf t).toNat - (intOf s).toNat)
  case atStart => exact ⟨a, m, rfl, rfl, by omega, by omega, by omega, Lib.hid (.inl rfl), Lib.hid (.inl rfl), HS⟩
  case round =>
    clear HS
    obtain ⟨i, j, rfl, rfl, him, hij, hjb, HL, HG, HS⟩ := hrel
    by_cases hlt : i < j
    · have hlti : (i : Int) < (j : Int) := by omega
      obtain ⟨h, hh⟩ : ∃ h, h = (i + j) / 2 := ⟨_, rfl⟩
      obtain ⟨x, y, r, c1, c2, HC, HN⟩ := cmp_step HB.out HR.out HD.out HS.out m h (by omega) (by omega)
      have e1 : ((i : Int) + (j : Int)) / 2 = (h : Int) := by omega
      have b1 : (h : Int) < (d.size : Int) := by omega
      have b2 : (m : Int) < (d.size : Int) := by omega
      have g1 : i ≤ h ∧ h < j := by omega
      clear hh hlt
      go_wp2_with fail
      by_cases hr : r < 0
      · have hd : decide (r < 0) = true := decide_eq_true hr
        have HK := Lib.hid (HN.out.1 hr)
        clear HN
        go_quiet ((go_at_call 20; exact Calls.quiet_of (HC.out _)))
        have HS2 : Hid (SW encF w0 blk off d (wr.drewN nq)) := Lib.hid (HS.out.drewN nq)
        clear HC HS c1 c2
        generalize wr.drewN nq = w2 at *
        go_wp2_with fail
        go_roundw
        case measure => simp [intOf]; omega
        case rel => exact ⟨i, h, rfl, rfl, him, by omega, by omega, HL, Lib.hid (.inr HK.out), HS2⟩
      · have hd : decide (r < 0) = false := decide_eq_false hr
        have HK := Lib.hid (Int.not_lt.1 fun h => hr (HN.out.2 h))
        clear HN
        go_quiet ((go_at_call 20; exact Calls.quiet_of (HC.out _)))
        have HS2 : Hid (SW encF w0 blk off d (wr.drewN nq)) := Lib.hid (HS.out.drewN nq)
        clear HC HS c1 c2
        generalize wr.drewN nq = w2 at *
        go_wp2_with fail
        go_roundw
        case measure => simp [intOf]; omega
        case rel => exact ⟨h + 1, j, by simp, rfl, by omega, by omega, hjb, Lib.hid (.inr HK.out), HG, HS2⟩
    · obtain rfl : i = j := by omega
      have HF : Hid (PermIn a b d (shd d m (m - i)) ∧ Rise key a b (shd d m (m - i))) := by
        have h1 := HM.out
        have h2 := HA.out
        subst h1
        exact Lib.hid (last_down d a m i h2 HI.out him hjb HL.out HG.out)
      clear HL HG HI
      go_wp2_with fail
      go_loopw [17] (fun s wr => ∃ k : Nat, s = .int .i64 (k : Int) ∧ i ≤ k ∧ k ≤ m ∧ Hid (SW encF w0 blk off (shd d m (m - k)) wr)) (fun s _ => (intOf s).toNat - i)
      case atStart => exact ⟨m, rfl, hjb, Nat.le_refl _, by rw [Nat.sub_self]; exact HS⟩
      case round =>
        clear HS
        obtain ⟨k, rfl, hik, hkm, HS⟩ := hrel
        by_cases hlt : i < k
        · have hlti : (i : Int) < (k : Int) := by omega
          have hs2 : (shd d m (m - k)).size = d.size := shd_size _ _ _
          obtain ⟨c1, c2, f1, f2, ⟨u, c3⟩, S2⟩ := two_cells HR.out (by have := HD.out; omega) HS.out k (k - 1) (by omega) (by omega)
          have e : swp (shd d m (m - k)) k (k - 1) = shd d m (m - (k - 1)) := by
            rw [show m - (k - 1) = (m - k) + 1 by omega, shd, show m - (m - k) = k by omega]
          have HS2 := Lib.hid S2
          rw [e] at HS2
          clear e
          clear S2 HS
          obtain ⟨x, hx⟩ : ∃ x, x = (((shd d m (m - k))[k]!).val : Int) := ⟨_, rfl⟩
          obtain ⟨y, hy⟩ : ∃ y, y = (((shd d m (m - k))[k - 1]!).val : Int) := ⟨_, rfl⟩
          unfold encF at c1 c2 c3
          rw [← hx] at c1
          rw [← hy] at c2 c3
          have HS2 : Hid (SW encF w0 blk off (shd d m (m - (k - 1))) ((wr.setCell ⟨blk, off + k, none⟩ (.int .i64 y)).setCell ⟨blk, off + (k - 1), none⟩ (.int .i64 x)).drew) := by rw [hx, hy]; exact HS2
          clear hx hy hs2
          obtain ⟨p, hp⟩ : ∃ p, p = k - 1 := ⟨_, rfl⟩
          have e1 : IntKind.i64.wrap ((k : Int) - 1) = (p : Int) := by rw [IntKind.wrap_i64]; omega
          have b1 : (k : Int) < (d.size : Int) := by omega
          have b2 : (p : Int) < (d.size : Int) := by omega
          rw [← hp] at c2 c3 f2 HS2
          have HP : Hid (p + 1 = k) := Lib.hid (by omega)
          clear hp
          go_wp2_with fail
          go_big_region
          clear c1 c2 c3 f1 f2
          generalize ((wr.setCell ⟨blk, off + k, none⟩ (.int .i64 y)).setCell ⟨blk, off + p, none⟩ (.int .i64 x)).drew = w3 at *
          go_wp2_with fail
          go_roundw
          case measure => have := HP.out; simp [intOf]; omega
          case rel => have := HP.out; exact ⟨p, rfl, by omega, by omega, HS2⟩
        · obtain rfl : i = k := by omega
          go_wp2_with fail
          refine bodyPost_ret (results_none rfl _ _ _) rfl ?_
          exact ⟨rfl, _, shd_size _ _ _, HF.out.1, HF.out.2, HS.out⟩
end
end Go.Proofs.Ytmfnncachaejgaa.PkC
