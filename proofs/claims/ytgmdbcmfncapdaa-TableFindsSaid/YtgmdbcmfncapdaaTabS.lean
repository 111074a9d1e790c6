/-
  TableSames' law.
-/
import Derived.Test.YtgmdbcmfncapdaaTabT
namespace Go.Proofs.Ytgmdbcmfncapdaa.TabC
open Go.RowKit Go.My BitMath CanMath TabMath CanC

theorem ansV_tuple (e : El) (m : Nat) : ∃ x y z, ansV e m = .tuple #[.int .i64 x, .int .i64 y, .int .i64 z] := by
  unfold ansV
  split
  · exact ⟨_, _, _, rfl⟩
  · split
    · exact ⟨_, _, _, rfl⟩
    · exact ⟨_, _, _, rfl⟩
/-- New where the lengths make no code. -/
structure NErr (zs : List Int) (q : Int) : Prop where
  ne : (q == 0) = false
  new : ∀ a len cap w f, RowIn w a len cap (zs.map iv) → Calls Try.prog 7 #[.slice a len cap, .int .i64 f] w fun e w' => e = .returned (.tuple #[.pointer none, .int .i64 q]) ∧ Below w.heap.size w w'
theorem nerr_bad {zs : List Int} (h : ¬ CanC.Good zs) : NErr zs 7 := ⟨rfl, fun _ _ _ _ f hr => new_bad f hr h⟩
theorem nerr_over {zs : List Int} (h : CanC.Good zs) (hk : 32768 < kr (nat zs)) : NErr zs 2 := ⟨rfl, fun _ _ _ _ f hr => new_over f hr h hk⟩
/-- A size from 1 to 15. -/
theorem size_of (a : Int) : ∃ f : Nat, 1 ≤ f ∧ f ≤ 15 ∧ (IntKind.u64.wrap a).tmod 15 = ((f - 1 : Nat) : Int) ∧ 1 + ((f - 1 : Nat) : Int) = (f : Int) := by
  refine ⟨((IntKind.u64.wrap a) % 15).toNat + 1, by omega, by omega, ?_, by omega⟩
  rw [Int.tmod_eq_emod_of_nonneg (by rw [IntKind.wrap_u64]; omega)]
  omega
/-- A slice of words that came in (what the frame of a law hands over). -/
theorem words_row {w : World} {a : Option Addr} {len cap : Nat} {zs : List Int}
    (h : (a = none ∧ len = 0 ∧ cap = 0 ∧ zs = []) ∨
      ∃ x, a = some x ∧ len ≤ cap ∧ cap ≤ maxLen ∧ zs.length = cap ∧ (∀ i, i < zs.length → w.cell? (x.add i) = some (.int .u32 (zs.getD i 0))) ∧ ∀ n ∈ zs, (Lit.int .u32 n).wf = true) : ∃ ys : List Nat, RowIn w a len cap (ys.map CanC.uv) ∧ ∀ y ∈ ys, y < 4294967296 := by
  rcases h with ⟨rfl, rfl, rfl, rfl⟩ | ⟨x, rfl, h1, h2, h3, h4, h5⟩
  · exact ⟨[], RowIn.none_ w, fun y hy => by simp at hy⟩
  · unfold maxLen at h2
    have hwf : ∀ n ∈ zs, 0 ≤ n ∧ n < 4294967296 := fun n hn => by
      have := h5 n hn
      simp [Lit.wf, IntKind.min, IntKind.max, IntKind.bits, IntKind.signed] at this
      omega
    refine ⟨(zs.take len).map Int.toNat, ?_, fun y hy => ?_⟩
    · refine ⟨by simp; omega, h1, h2, (fun h => by cases h), ?_⟩
      by_cases h0 : len = 0
      · exact .inl h0
      · right
        obtain ⟨b, off, spot⟩ := x
        have hc := h4 0 (by omega)
        obtain rfl : spot = Option.none := by simpa [Addr.add] using World.cell?_spot hc
        refine ⟨b, off, rfl, block_lt_of_cell hc, fun i hi => ?_⟩
        have hi' : i < zs.length := by simp at hi; omega
        have := h4 i hi'
        rw [addr_add] at this
        rw [this, List.getElem_map, List.getElem_map, List.getElem_take, List.getD_eq_getElem?_getD, List.getElem?_eq_getElem hi']
        have h6 := hwf zs[i] (List.getElem_mem hi')
        simp only [Option.getD_some, CanC.uv]
        rw [Int.toNat_of_nonneg h6.1]
    · obtain ⟨z, hz, rfl⟩ := List.mem_map.1 hy
      have := hwf z (List.mem_of_mem_take hz)
      omega

section
variable {a : Option Addr} {len cap : Nat} {zs : List Int} {w : World} {a1 : Option Addr} {len1 cap1 : Nat} {ys : List Nat}
set_option maxRecDepth 100000 in
set_option maxHeartbeats 2000000 in
theorem sames_big (x y n : Int) (hlen : 100 < len) (hl : len ≤ 9223372036854775807) :
    Calls Try.prog 4 #[.slice a len cap, .int .i64 x, .int .i64 y, .slice a1 len1 cap1, .int .i64 n] w fun e w' => e = .returned (.bool true) ∧ Below w.heap.size w w' := by
  go_enter Try.func4, Try.ntmps4
  go_wp2_with fail
  refine (told_any w).mono ?_
  rintro e w' ⟨rfl, hb⟩
  have HB := Lib.hid hb
  clear hb
  go_wp2_with fail
  go_ret
  exact ⟨rfl, HB.out⟩
set_option maxRecDepth 100000 in
set_option maxHeartbeats 2000000 in
theorem sames_err (x y n q : Int) (h : RowIn w a len cap (zs.map iv)) (hE : NErr zs q) (hlen : len ≤ 100) :
    Calls Try.prog 4 #[.slice a len cap, .int .i64 x, .int .i64 y, .slice a1 len1 cap1, .int .i64 n] w fun e w' => e = .returned (.bool true) ∧ Below w.heap.size w w' := by
  have HR := Lib.hid h
  have HE := Lib.hid hE
  have hq := hE.ne
  have hq2 : (q != 0) = true := by simp at hq ⊢; exact hq
  obtain ⟨f1, _, _, u1, v1⟩ := size_of x
  obtain ⟨f2, _, _, u2, v2⟩ := size_of y
  clear h hE
  go_enter Try.func4, Try.ntmps4
  go_wp2_with fail
  refine (HE.out.new _ _ _ _ _ HR.out).mono ?_
  rintro e w2 ⟨rfl, hb⟩
  have HB2 := Lib.hid hb
  have HR2 := Lib.hid (HR.out.below (Nat.le_refl _) hb)
  clear hb HR
  go_wp2_with fail
  refine (HE.out.new _ _ _ _ _ HR2.out).mono ?_
  rintro e w3 ⟨rfl, hb⟩
  have HB3 := Lib.hid (HB2.out.trans (hb.mono HB2.out.size))
  clear hb HB2 HR2 HE
  go_wp2_with fail
  refine (told_any w3).mono ?_
  rintro e w4 ⟨rfl, hb⟩
  have HB4 := Lib.hid (HB3.out.trans (hb.mono HB3.out.size))
  clear hb
  go_wp2_with fail
  go_ret
  exact ⟨rfl, HB4.out⟩

set_option maxRecDepth 100000 in
set_option maxHeartbeats 8000000 in
theorem sames_ok (x y n : Int) (h : RowIn w a len cap (zs.map iv)) (h1 : RowIn w a1 len1 cap1 (ys.map CanC.uv)) (hy : ∀ y ∈ ys, y < 4294967296) (hg : CanC.Good zs) (hk : kr (nat zs) ≤ 32768) (hlen : len ≤ 100) :
    Calls Try.prog 4 #[.slice a len cap, .int .i64 x, .int .i64 y, .slice a1 len1 cap1, .int .i64 n] w fun e w' => e = .returned (.bool true) ∧ Below w.heap.size w w' := by
  have HR := Lib.hid h
  have HR1 := Lib.hid h1
  have HY := Lib.hid hy
  have HG := Lib.hid hg
  have HK := Lib.hid hk
  have hyl : ys.length = len1 := by have := h1.len_eq; simpa using this
  have hl1 : len1 ≤ 9223372036854775807 := Nat.le_trans h1.le_cap h1.cap_le
  obtain ⟨f1, p1, q1, u1, v1⟩ := size_of x
  obtain ⟨f2, p2, q2, u2, v2⟩ := size_of y
  clear h h1 hy hg hk
  go_enter Try.func4, Try.ntmps4
  go_wp2_with fail
  refine (new_ok f1 HR.out HG.out HK.out p1 q1).mono ?_
  rintro e w2 ⟨g1, rfl, ht, hb⟩
  have HB2 := Lib.hid hb
  have HT2 := Lib.hid ht
  have HR2 := Lib.hid (HR.out.below (Nat.le_refl _) hb)
  clear hb ht HR
  go_wp2_with fail
  refine (new_ok f2 HR2.out HG.out HK.out p2 q2).mono ?_
  rintro e w3 ⟨g2, rfl, ht, hb⟩
  have HB3 := Lib.hid (HB2.out.trans (hb.mono HB2.out.size))
  have HT3 := Lib.hid (HT2.out.below hb)
  have HU3 := Lib.hid ht
  have HL3 := Lib.hid (HR1.out.below (Nat.le_refl _) HB3.out)
  clear hb ht HB2 HT2 HR2 HR1
  go_wp2_with fail
  go_loopw [15, 16, 17, 18, 19, 20, 21] (fun i _ _ _ _ _ _ wr => ∃ k : Nat, k ≤ len1 ∧ k ≤ 60 ∧ i = .int .i64 (k : Int) ∧ Hid (Below w3.heap.size w3 wr)) (fun i _ _ _ _ _ _ _ => 60 - (intOf i).toNat)
  case atStart => exact ⟨0, Nat.zero_le _, by omega, rfl, Lib.hid (Below.refl _ _)⟩
  case round =>
    obtain ⟨k, hk, hk60, rfl, HW⟩ := hrel
    by_cases hlt : k < len1 ∧ k < 60
    · obtain ⟨hlt, hlt60⟩ := hlt
      obtain ⟨b1, off1, rfl⟩ := HL3.out.some_ (by omega)
      have hky : k < ys.length := by omega
      have hcy : wr.cell? ⟨b1, off1 + k, none⟩ = some (.int .u32 ((ys[k] : Nat) : Int)) := by
        rw [(HL3.out.below (Nat.le_refl _) HW.out).get k (by simpa using hky), List.getElem_map]; rfl
      have hyk := HY.out ys[k] (List.getElem_mem hky)
      generalize ys[k] = v at *
      have HT4 := Lib.hid (HT3.out.below HW.out)
      have HU4 := Lib.hid (HU3.out.below HW.out)
      have hd : decide ((k : Int) < 60) = true := by simp; omega
      obtain ⟨r1, r2, r3, hr⟩ := ansV_tuple (who (nat zs) (v % 2 ^ cl n)) (cl n)
      have HR4 := Lib.hid hr
      clear hr
      have hcy2 : ∀ w', Below wr.heap.size wr w' → w'.cell? ⟨b1, off1 + k, none⟩ = some (.int .u32 ((v : Nat) : Int)) := fun w' hb => by
        rw [hb.cell (p := ⟨b1, off1 + k, none⟩) (block_lt_of_cell hcy)]; exact hcy
      have HCY := Lib.hid hcy2
      clear hcy2
      go_wp2_with fail
      refine (find_is (v := v) (n := n) HT4.out HG.out HK.out p1 q1 hyk).mono ?_
      rw [HR4.out]
      rintro e w5 ⟨rfl, hb⟩
      have HW5 := Lib.hid (HW.out.trans (hb.mono HW.out.size))
      have HU5 := Lib.hid (HU4.out.below hb)
      have hcy5 := HCY.out w5 hb
      clear hb hcy HCY HT4 HU4
      go_wp2_with fail
      refine (find_is (v := v) (n := n) HU5.out HG.out HK.out p2 q2 hyk).mono ?_
      rw [HR4.out]
      rintro e w6 ⟨rfl, hb⟩
      have HW6 := Lib.hid (HW5.out.trans (hb.mono HW5.out.size))
      clear hb hcy5 HU5 HW5 HR4 hd
      go_wp2_with fail
      go_roundw
      case rel => exact ⟨k + 1, by omega, by omega, by go_num, HW6⟩
      case measure => simp [intOf]; omega
    · go_upto_region 10 with (fail)
      go_cut [75] (fun v wc => v = .bool false ∧ wc = wr)
      case first =>
        by_cases hkl : k < len1
        · have hd : decide ((k : Int) < 60) = false := by simp; omega
          go_wp2_with fail
          go_meet
          case rel => exact ⟨rfl, rfl⟩
        · have hd : decide (k < len1) = false := by simp; omega
          go_wp2_with fail
          go_meet
          case rel => exact ⟨rfl, rfl⟩
      obtain ⟨rfl, rfl⟩ := hcut
      go_wp2_with fail
      refine (told_any wc).mono ?_
      rintro e w' ⟨rfl, hb⟩
      have HB6 := Lib.hid ((HB3.out.trans (HW.out.mono HB3.out.size)).trans (hb.mono (Nat.le_trans HB3.out.size HW.out.size)))
      clear hb
      go_wp2_with fail
      go_ret
      exact ⟨rfl, HB6.out⟩
theorem sames_law (x y n : Int) (h : RowIn w a len cap (zs.map iv)) (h1 : RowIn w a1 len1 cap1 (ys.map CanC.uv)) (hy : ∀ y ∈ ys, y < 4294967296) :
    Calls Try.prog 4 #[.slice a len cap, .int .i64 x, .int .i64 y, .slice a1 len1 cap1, .int .i64 n] w fun e w' => e = .returned (.bool true) ∧ Below w.heap.size w w' := by
  by_cases hb : 100 < len
  · exact sames_big x y n hb (Nat.le_trans h.le_cap h.cap_le)
  · by_cases hg : CanC.Good zs
    · by_cases hk : kr (nat zs) ≤ 32768
      · exact sames_ok x y n h h1 hy hg hk (by omega)
      · exact sames_err x y n _ h (nerr_over hg (by omega)) (by omega)
    · exact sames_err x y n _ h (nerr_bad hg) (by omega)
end
end Go.Proofs.Ytgmdbcmfncapdaa.TabC
