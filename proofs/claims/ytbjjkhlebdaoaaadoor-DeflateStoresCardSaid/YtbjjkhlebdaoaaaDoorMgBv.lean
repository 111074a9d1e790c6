import Derived.Test.YtbjjkhlebdaoaaaDoorMgBa
import Derived.Test.YtbjjkhlebdaoaaaDoorMgX
import Derived.Test.YtbjjkhlebdaoaaaDoorMgH

section
/-
  sound, storedBits.
-/
namespace Go.Proofs.YtbjjkhlebdaoaaaDoor.BlkC
open Go.RowKit Go.My BitMath
open LzMath (Tok May tot sz GoodT Ok tot_mono)
open LzC (TokIn tc may_any size_all EndsT ok_no)

theorem tok_one {w : World} {b off len c i : Nat} {f : Nat → Tok} (h : TokIn w (some ⟨b, off, none⟩) len c f) (hi : i < len) : TokIn w (some ⟨b, off + i * 3, none⟩) 1 (c - i) (fun _ => f i) := by
  have h1 := h.le_cap
  have h2 := h.cap_le
  obtain ⟨b', off', ha, ho⟩ := h.get hi
  injection ha with ha
  injection ha with e1 e2
  subst e1 e2
  refine ⟨by omega, by omega, (fun e => by cases e), .inr ⟨b, off + i * 3, rfl, fun j hj => ?_⟩⟩
  obtain rfl : j = 0 := by omega
  exact ⟨by rw [Nat.zero_mul, Nat.add_zero]; exact ho.len, by rw [Nat.zero_mul, Nat.add_zero]; exact ho.dist, by rw [Nat.zero_mul, Nat.add_zero]; exact ho.byte, ho.lt, ho.wf⟩
set_option maxRecDepth 100000 in
set_option maxHeartbeats 4000000 in
theorem sound_any (wide : Bool) (a : Option Addr) (len c : Nat) (f : Nat → Tok) (K : Nat) (w : World) (h : TokIn w a len c f) (hE : EndsT wide f len K) (ht : tot f len ≤ 1000000) :
    Calls Tryd.prog 29 #[.slice a len c, .bool wide] w fun e w' => e = .returned (.bool (decide (K = len))) ∧ Below w.heap.size w w' := by
  have H := Lib.hid h
  have hlc := h.le_cap
  have hcm := h.cap_le
  have HE := Lib.hid hE
  have hKl := hE.le
  clear h hE
  go_enter Tryd.func29, Tryd.ntmps29
  go_wp2_with fail
  go_loopw [5, 10] (fun n i wr => ∃ k : Nat, k ≤ K ∧ i = .int .i64 (k : Int) ∧ n = .int .i64 (tot f k : Int) ∧ Hid (Below w.heap.size w wr)) (fun _ i _ => len - (intOf i).toNat)
  case atStart => exact ⟨0, Nat.zero_le _, rfl, rfl, Lib.hid (Below.refl _ _)⟩
  case round =>
    obtain ⟨k, hk, rfl, rfl, HB⟩ := hrel
    by_cases hlt : k < len
    · have HTI := Lib.hid (H.out.below (Nat.le_refl _) HB.out)
      obtain ⟨b, off, rfl, ho⟩ := HTI.out.get hlt
      obtain ⟨c0, c1, c2, hbl, wf⟩ := ho
      have hs : tot f (k + 1) = tot f k + sz (f k) := rfl
      have hm := tot_mono f (k + 1) len hlt
      have hok : k < K → decide (May wide (f k)) = true ∧ ¬ (tot f k : Int) < (f k).dist := fun h => by
        obtain ⟨h1, h2⟩ := HE.out.good k h
        exact ⟨by simpa using h1, by omega⟩
      have hno : ¬ k < K → decide (May wide (f k)) = false ∨ decide (May wide (f k)) = true ∧ (tot f k : Int) < (f k).dist := fun h => by
        obtain rfl : k = K := by omega
        exact ok_no (HE.out.bad hlt)
      obtain ⟨N, hNe⟩ : ∃ N, N = tot f k := ⟨_, rfl⟩
      obtain ⟨t, hte⟩ : ∃ t, t = f k := ⟨_, rfl⟩
      obtain ⟨z, hze⟩ : ∃ z, z = sz t := ⟨_, rfl⟩
      obtain ⟨X, hX⟩ : ∃ X, X = wr.alloc (.cells (tc t) 85) := ⟨_, rfl⟩
      have HBL : Hid (Blk X wr.heap.size 85 (tc t)) := Lib.hid (by rw [hX]; exact Blk.new wr _ _)
      have HBX : Hid (Below w.heap.size w X) := Lib.hid (by rw [hX]; exact HB.out.alloc HB.out.size _)
      have HTX : Hid (TokIn X (some ⟨b, off, none⟩) len c f) := Lib.hid (by rw [hX]; exact HTI.out.below (Nat.le_refl _) ((Below.refl _ _).alloc (Nat.le_refl _) _))
      have hcp : LzC.cap (fun _ => f k) 1 = min (sz (f k)) 1099511627776 := by
        show min (0 + sz (f k)) 1099511627776 = _
        rw [Nat.zero_add]
      rw [← hte] at hs hok hno c0 c1 c2 wf hcp
      rw [← hze] at hs hcp
      rw [← hNe] at hs hok hno ⊢
      have HS := Lib.hid hs
      have hN : N ≤ 1000000 := by omega
      have hz : z ≤ 1000000 := by omega
      have hNz : N + z ≤ 1000000 := by omega
      have hcp2 : LzC.cap (fun _ => f k) 1 = z := by rw [← hte, hcp]; omega
      have HZ := Lib.hid hcp2
      have HTE := Lib.hid hte
      clear hs hm hNe hte hze hcp hcp2 HTI
      go_upto_region 5 with (fail)
      unfold tc at hX
      rw [← hX]
      clear hX c0 c1 c2 hbl
      generalize wr.heap.size = g at *
      have x0 : X.cell? ⟨g, 0, none⟩ = some (.int .i64 t.len) := HBL.out.cell 0
      have x1 : X.cell? ⟨g, 1, none⟩ = some (.int .i64 t.dist) := HBL.out.cell 1
      have x2 : X.cell? ⟨g, 2, none⟩ = some (.int .u8 (t.byte.toNat : Int)) := HBL.out.cell 2
      go_wp2_with fail
      refine (may_any wide t X).mono ?_
      rintro e w1 ⟨rfl, hb⟩
      have HB1 : Hid (Below w.heap.size w w1) := Lib.hid (HBX.out.trans (hb.mono HBX.out.size))
      have HL1 : Hid (Blk w1 g 85 (tc t)) := Lib.hid (HBL.out.same (hb.block g HBL.out.lt))
      have HT1 := Lib.hid (HTX.out.below (Nat.le_refl _) hb)
      clear hb x0 x1 x2 HBL HBX HTX
      have x0 : w1.cell? ⟨g, 0, none⟩ = some (.int .i64 t.len) := HL1.out.cell 0
      have x1 : w1.cell? ⟨g, 1, none⟩ = some (.int .i64 t.dist) := HL1.out.cell 1
      have x2 : w1.cell? ⟨g, 2, none⟩ = some (.int .u8 (t.byte.toNat : Int)) := HL1.out.cell 2
      by_cases hkK : k < K
      · obtain ⟨hm, hd⟩ := hok hkK
        clear hno hok
        rw [hm]
        clear hm
        have HSZ := Lib.hid (size_all _ 1 (c - k) (fun _ => f k) w1 (tok_one HT1.out hlt))
        rw [HZ.out] at HSZ
        have hck : ¬ c = k := by omega
        have q0 : (0 : Int) ≤ (k : Int) := by omega
        have q1 : (k : Int) ≤ (k : Int) + 1 := by omega
        have q2 : (k : Int) + 1 ≤ (c : Int) := by omega
        have q3 : (k : Int) + 1 - (k : Int) = 1 := by omega
        go_wp2_with fail
        refine HSZ.out.mono ?_
        rintro e w2 ⟨rfl, hb⟩
        have HB2 : Hid (Below w.heap.size w w2) := Lib.hid (HB1.out.trans (hb.mono HB1.out.size))
        clear hb
        go_wp2_with fail
        go_roundw
        case rel => exact ⟨k + 1, by omega, by go_num, by rw [HS.out]; go_num, HB2⟩
        case measure => simp [intOf]; omega
      · obtain rfl : k = K := by omega
        have hno := hno hkK
        have HF : Hid (decide (k = len) = false) := Lib.hid (by simp; omega)
        clear hok
        rcases hno with hm | ⟨hm, hd⟩
        · rw [hm]
          clear hm
          go_wp2_with fail
          go_ret
          exact ⟨by rw [HF.out]; rfl, HB1.out⟩
        · rw [hm]
          clear hm
          go_wp2_with fail
          go_ret
          exact ⟨by rw [HF.out]; rfl, HB1.out⟩
    · obtain rfl : k = len := by omega
      obtain rfl : K = k := by omega
      go_wp2_with fail
      go_ret
      exact ⟨rfl, HB.out⟩
theorem gap_and (p : Nat) : bits .and .i64 (-((p : Int) + 3)) 7 = ((InfMath.gap p : Nat) : Int) := by
  rw [i64_and_mask (-((p : Int) + 3)) 3 (by omega) 7 8 rfl rfl]
  unfold InfMath.gap
  omega
set_option maxRecDepth 100000 in
set_option maxHeartbeats 1000000 in
theorem storedBits_any (p n : Nat) (w : World) (hp : p ≤ 1000000000) (hn : n ≤ 1000000) :
    Calls Tryd.prog 36 #[.int .i64 (p : Int), .int .i64 (n : Int)] w fun e w' => e = .returned (.int .i64 ((3 + InfMath.gap p + 8 * (sto n - 1) : Nat) : Int)) ∧ w = w' := by
  have HST := Lib.hid (stored_any (n : Int) w (by omega))
  have hz : stoZ (n : Int) = sto n := by unfold stoZ; rw [if_neg (by omega), Int.toNat_natCast, Nat.min_eq_left (by omega)]
  rw [hz] at HST
  have hg : InfMath.gap p < 8 := by unfold InfMath.gap; omega
  have hga := gap_and p
  have hs5 : 5 ≤ sto n := by unfold sto; omega
  have hsb : sto n ≤ 2000000 := by unfold sto; omega
  obtain ⟨G, hG⟩ : ∃ G, G = InfMath.gap p := ⟨_, rfl⟩
  obtain ⟨S, hS⟩ : ∃ S, S = sto n := ⟨_, rfl⟩
  rw [← hG] at hg hga ⊢
  rw [← hS] at hs5 hsb HST ⊢
  have HE : Hid (3 + (G : Int) + 8 * ((S : Int) - 1) = ((3 + G + 8 * (S - 1) : Nat) : Int)) := Lib.hid (by omega)
  clear hG hS hz
  go_enter Tryd.func36, Tryd.ntmps36
  go_wp2_with fail
  refine HST.out.mono ?_
  rintro e w' ⟨rfl, rfl⟩
  go_wp2_with fail
  go_ret
  exact ⟨ret_int HE.out, rfl⟩
end Go.Proofs.YtbjjkhlebdaoaaaDoor.BlkC
end

section
/-
  The document's Stored of any number.
-/
namespace Go.Proofs.YtbjjkhlebdaoaaaDoor.BlkC
open Go.RowKit Go.My BitMath

theorem rsto_nums {n : Nat} (h1 : 1 ≤ n) (hn : n ≤ 1073741824) : ∃ M : Nat, Hid (sto n = n + 5 * (M + 1)) ∧ ((n : Int) - 1) / 65535 = (M : Int) ∧ M ≤ 20000 := by
  obtain ⟨M, hM⟩ : ∃ M : Nat, M = (n - 1) / 65535 := ⟨_, rfl⟩
  exact ⟨M, Lib.hid (by unfold sto; omega), by omega, by omega⟩
set_option maxRecDepth 100000 in
set_option maxHeartbeats 1000000 in
theorem rstored_num (z : Int) (w : World) (hz : -9223372036854775808 ≤ z ∧ z ≤ 9223372036854775807) : Calls Tryd.prog 19 #[.int .i64 z] w fun e w' => e = .returned (.int .i64 (stoZ z : Int)) ∧ w = w' := by
  by_cases h : z < 0
  · have HS : Hid (stoZ z = 0) := Lib.hid (by unfold stoZ; rw [if_pos h])
    go_enter Tryd.func19, Tryd.ntmps19
    go_wp2_with fail
    go_ret
    exact ⟨by rw [HS.out]; rfl, rfl⟩
  · by_cases h0 : z = 0
    · subst h0
      have HS : Hid (stoZ 0 = 5) := Lib.hid (by decide)
      clear h hz
      go_enter Tryd.func19, Tryd.ntmps19
      go_wp2_with fail
      go_ret
      exact ⟨by rw [HS.out]; rfl, rfl⟩
    · have HS : Hid (stoZ z = sto (min z.toNat 1073741824)) := Lib.hid (by unfold stoZ; rw [if_neg h])
      obtain ⟨n, hn⟩ : ∃ n : Nat, n = min z.toNat 1073741824 := ⟨_, rfl⟩
      have hn2 : n ≤ 1073741824 := by omega
      have hn1 : 1 ≤ n := by omega
      have hmin : (if (1073741824 : Int) < z then (1073741824 : Int) else z) = (n : Int) := by split <;> omega
      rw [← hn] at HS
      obtain ⟨M, HK, hdiv, hm2⟩ := rsto_nums hn1 hn2
      have HD := Lib.hid hdiv
      have hz0 : decide (z < 0) = false := decide_eq_false h
      have hz1 : (z == 0) = false := by simp [h0]
      clear h h0 hn hz hdiv
      go_enter Tryd.func19, Tryd.ntmps19
      go_upto_region 6 with (fail)
      clear hmin hz0 hz1
      have hdiv := HD.out
      go_wp2_with fail
      go_ret
      refine ⟨?_, rfl⟩
      rw [HS.out, HK.out]
      exact ret_int (by push_cast; rfl)
end Go.Proofs.YtbjjkhlebdaoaaaDoor.BlkC
end
