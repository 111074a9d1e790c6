import Derived.Test.YtegkcoedhopegaaB
namespace Go.Proofs.Ytegkcoedhopegaa
open Go.RowKit Go.My AdlerMath

theorem reps_bound (k m : Nat) (l : List UInt8) (hk : k ≤ m) (n : Nat) (hl : l.length ≤ n) : (reps k l).length ≤ m * n := by
  rw [reps_len]; exact Nat.mul_le_mul hk hl

set_option maxRecDepth 100000 in
set_option maxHeartbeats 4000000 in
theorem sums_law (c : Nat) (a : Option Addr) (len cap : Nat) (l : List UInt8) (n : Int) (w : World) (hc : c < 4294967296) (hb : Bytes w a len cap l) :
    Calls Try.prog 3 #[.int .u32 (c : Int), .slice a len cap, .int .i64 n] w fun e w' => e = .returned (.bool true) ∧ Below w.heap.size w w' := by
  have H := Lib.hid hb
  have hm := hb.cap_le
  have hl := hb.le_cap
  clear hb
  by_cases h : 500 < len
  · go_enter Try.func3, Try.ntmps3
    go_wp2_with fail
    refine (told_any w).mono ?_
    rintro e w' ⟨rfl, hw⟩
    go_wp2_with fail
    go_ret
    exact ⟨rfl, hw⟩
  · obtain ⟨m, hm15, hmm⟩ : ∃ m : Nat, m ≤ 15 ∧ bits .and .i64 n 15 = (m : Int) :=
      ⟨(n % 16).toNat, by omega, by rw [i64_and_mask n 4 (by omega) 15 16 rfl rfl]; omega⟩
    obtain rfl : len = l.length := H.out.len_eq.symm
    go_enter Try.func3, Try.ntmps3
    go_wp2_with fail
    go_loopw [7, 8] (fun v i wr => ∃ k : Nat, k ≤ m + 1 ∧ i = .int .i64 (k : Int) ∧ Hid (Own 5 w.heap.size wr v (reps k l)) ∧ Hid (Below w.heap.size w wr)) (fun _ i _ => m + 1 - (intOf i).toNat)
    case atStart => exact ⟨0, by omega, rfl, Lib.hid (Own.nil _ _ _), Lib.hid (Below.refl _ _)⟩
    case round =>
      obtain ⟨k, hk, rfl, HO, HB⟩ := hrel
      by_cases hlt : k < m + 1
      · go_wp2_with (at_builtin; refine wpList_append_bytes rfl (.tmp 21) (.tmp 22) 23 rfl w.heap.size 5 Try.underlying23 info5 _ (reps k l) rfl HO.out a l.length cap l rfl (H.out.below (Nat.le_refl _) HB.out) (by have := reps_bound k 16 l (by omega) 500 (by omega); omega) HB.out.size ?_)
        intro v' w1 hown hg
        have HO1 : Hid (Own 5 w.heap.size w1 v' (reps (k + 1) l)) := Lib.hid (by rw [reps_succ]; exact hown)
        have HB1 := Lib.hid (grown_below HO.out HB.out hg HB.out.size)
        clear hown hg
        go_wp2_with fail
        go_roundw
        case rel => exact ⟨k + 1, by omega, by go_num, HO1, HB1⟩
        case measure => simp [intOf]; omega
      · obtain rfl : k = m + 1 := by omega
        obtain ⟨a1, c1, hv, hb1⟩ := HO.out.bytes
        subst hv
        have hlen := reps_bound (m + 1) 16 l (by omega) 500 (by omega)
        generalize reps (m + 1) l = L at *
        have HL := Lib.hid hb1
        have hc1 := hb1.le_cap
        have hc2 := hb1.cap_le
        have b0 := HB.out
        have HB0 := Lib.hid b0
        clear hb1 b0
        go_wp2_with (at_builtin; refine wpList_append_bytes rfl (.tmp 24) (.tmp 25) 23 rfl wr.heap.size 5 Try.underlying23 info5 _ [] rfl (Own.empty 5 wr (Nat.le_refl _)) a1 L.length c1 L rfl (HL.out.below (Nat.le_refl _) ((Below.refl _ _).alloc (Nat.le_refl _) _)) (by simp; omega) (by simp) ?_)
        intro v' w1 hown hg
        obtain ⟨a2, c2, rfl, hb2, hw1⟩ := copied hown hg
        clear hown hg
        have HL1 := Lib.hid (HL.out.below (Nat.le_refl _) hw1)
        have HC1 := Lib.hid hb2
        have b1 := HB0.out.trans (hw1.mono HB0.out.size)
        have hc3 := hb2.le_cap
        have hc4 := hb2.cap_le
        clear hb2
        go_wp2_with fail
        refine (told_any w1).mono ?_
        rintro e w2 ⟨rfl, hw2⟩
        have b2 := b1.trans (hw2.mono b1.size)
        have HL2 := Lib.hid (HL1.out.below (Nat.le_refl _) hw2)
        have HC2 := Lib.hid (HC1.out.below (Nat.le_refl _) hw2)
        go_wp2_with fail
        refine (update_any c _ _ _ L w2 hc HC2.out).mono ?_
        rintro e w' ⟨rfl, rfl⟩
        go_wp2_with fail
        refine (ref_any c _ _ _ L w2 hc HL2.out).mono ?_
        rintro e w' ⟨rfl, rfl⟩
        go_wp2_with fail
        refine (sum_any _ _ _ L w2 HC2.out).mono ?_
        rintro e w' ⟨rfl, rfl⟩
        go_wp2_with fail
        refine (ref_any 1 _ _ _ L w2 (by omega) HL2.out).mono ?_
        rintro e w' ⟨rfl, rfl⟩
        have k1 := run_string_bytes (P := Try.prog) w2 23 9 5 Try.underlying23 Try.underlying5 Try.underlying9 HL2.out
        have k2 := run_string_bytes (P := Try.prog) w2 23 9 5 Try.underlying23 Try.underlying5 Try.underlying9 HC2.out
        go_wp2_with fail
        go_ret
        exact ⟨rfl, b2⟩

set_option maxRecDepth 100000 in
set_option maxHeartbeats 4000000 in
theorem one_law (a : Option Addr) (len cap : Nat) (l : List UInt8) (at_ : Int) (by_ : UInt8) (w : World) (hn1 : -9223372036854775808 ≤ at_) (hn2 : at_ ≤ 9223372036854775807) (hb : Bytes w a len cap l) :
    Calls Try.prog 6 #[.slice a len cap, .int .i64 at_, .int .u8 (by_.toNat : Int)] w fun e w' => e = .returned (.bool true) ∧ Below w.heap.size w w' := by
  have H := Lib.hid hb
  have hm := hb.cap_le
  have hl := hb.le_cap
  clear hb
  have tell : ∀ (P : Prop), P → Hid P := fun _ h => Lib.hid h
  by_cases h : len = 0
  · subst h
    go_enter Try.func6, Try.ntmps6
    go_wp2_with fail
    refine (told_any w).mono ?_
    rintro e w' ⟨rfl, hw⟩
    go_wp2_with fail
    go_ret
    exact ⟨rfl, hw⟩
  have h0 : ((len : Int) == 0) = false := by simp; omega
  by_cases h5 : 500 < len
  · go_enter Try.func6, Try.ntmps6
    go_wp2_with fail
    refine (told_any w).mono ?_
    rintro e w' ⟨rfl, hw⟩
    go_wp2_with fail
    go_ret
    exact ⟨rfl, hw⟩
  by_cases hz : by_ = 0
  · subst hz
    go_enter Try.func6, Try.ntmps6
    go_wp2_with fail
    refine (told_any w).mono ?_
    rintro e w' ⟨rfl, hw⟩
    go_wp2_with fail
    go_ret
    exact ⟨rfl, hw⟩
  have hz0 : ((by_.toNat : Int) == 0) = false := by
    have : by_.toNat ≠ 0 := fun e => hz (UInt8.toNat_inj.1 (by simpa using e))
    simp; omega
  have HZ := Lib.hid hz
  clear hz
  have hlen5 : len ≤ 500 := by omega
  obtain rfl : len = l.length := H.out.len_eq.symm
  have hlenpos : 0 < l.length := by omega
  obtain ⟨f, hf, hff, hff'⟩ := place_in at_ l.length (by omega) (by omega) hn1 hn2
  go_enter Try.func6, Try.ntmps6
  go_wp2_with (at_builtin; refine wpList_append_bytes rfl (.tmp 22) (.tmp 23) 23 rfl w.heap.size 5 Try.underlying23 info5 _ [] rfl (Own.empty 5 w (Nat.le_refl _)) a l.length cap l rfl (H.out.below (Nat.le_refl _) ((Below.refl _ _).alloc (Nat.le_refl _) _)) (by simp; omega) (by simp) ?_)
  intro v' w1 hown hg
  have hw1 := copied_below hown hg
  obtain ⟨g, c, rfl, hg0, hgc, hgm⟩ := Own.some_ (l := l) hown hlenpos
  have HO : Hid (Own 5 w.heap.size w1 (.slice (some ⟨g, 0, none⟩) l.length c) l) := Lib.hid hown
  have HB := Lib.hid hw1
  clear hown hg hw1
  have HL := HO.out
  unfold Own at HL
  have hcell := World.ownsRow.cellAt HL f (by omega)
  rw [List.getElem?_map, List.getElem?_eq_getElem hf] at hcell
  simp only [Option.map_some, bv] at hcell
  have hfr := World.ownsRow.frozenAt HL f
  have HLL := Lib.hid HL
  clear HL
  generalize hx : l[f] = x at *
  have HX := Lib.hid hx
  clear hx
  go_wp2_with fail
  have hval : Value.int IntKind.u8 (bits BinOp.xor IntKind.u8 (x.toNat : Int) (by_.toNat : Int)) = bv (x ^^^ by_) := by
    rw [u8_xor_nat _ _ x.toNat_lt (UInt8.toNat_lt _), ← UInt8.toNat_xor]; rfl
  rw [hval]
  have HW : Hid (Own 5 w.heap.size (w1.setCell ⟨g, f, none⟩ (bv (x ^^^ by_))) (.slice (some ⟨g, 0, none⟩) l.length c) (l.set f (x ^^^ by_))) := Lib.hid (by
    have := (HLL.out.stored f (bv (x ^^^ by_))).1
    unfold Own
    rw [List.length_set, List.map_set]
    exact this)
  have HB1 := Lib.hid (HB.out.setCell (p := ⟨g, f, none⟩) hg0 (bv (x ^^^ by_)))
  have HN : Hid (adler 1 l ≠ adler 1 (l.set f (x ^^^ by_))) := Lib.hid (adler_set 1 l f hf _ (by
    rw [HX.out]
    intro e
    have h1 : x ^^^ (x ^^^ by_) = x ^^^ x := by rw [e]
    rw [← UInt8.xor_assoc, UInt8.xor_self, UInt8.zero_xor] at h1
    exact HZ.out h1))
  clear hcell hfr HLL HO HB hval
  generalize w1.setCell ⟨g, f, none⟩ (bv (x ^^^ by_)) = w2 at *
  refine (told_any w2).mono ?_
  rintro e w3 ⟨rfl, hw3⟩
  have b3 := HB1.out.trans (hw3.mono HB1.out.size)
  have H3 := Lib.hid (H.out.below (Nat.le_refl _) b3)
  obtain ⟨a2, c2, he, hb2⟩ := HW.out.bytes
  simp only [List.length_set, Value.slice.injEq, true_and] at he
  obtain ⟨rfl, rfl⟩ := he
  rw [List.length_set] at hb2
  have HC3 := Lib.hid (hb2.below (Nat.le_refl _) hw3)
  clear hb2
  go_wp2_with fail
  refine (sum_any _ _ _ l w3 H3.out).mono ?_
  rintro e w' ⟨rfl, rfl⟩
  go_wp2_with fail
  refine (sum_any _ _ _ _ w3 HC3.out).mono ?_
  rintro e w' ⟨rfl, rfl⟩
  have hne : (((adler 1 l : Nat) : Int) != ((adler 1 (l.set f (x ^^^ by_)) : Nat) : Int)) = true := by
    rw [bne_iff_ne]; intro e; exact HN.out (by omega)
  go_wp2_with fail
  go_ret
  exact ⟨rfl, b3⟩
end Go.Proofs.Ytegkcoedhopegaa
