import Derived.Test.YtihcebpkbkgmcaaFeedS
import Derived.Deep.DeepCutAuto
import Derived.Deep.CutBlock
namespace Go.Proofs.Ytihcebpkbkgmcaa.FeedC
open Go.RowKit Go.My BitMath RefC

set_option maxRecDepth 100000 in
set_option maxHeartbeats 40000000 in
theorem plays_law (a : Option Addr) (len cap : Nat) (f : Nat → OpV) (w : World) (h : OpsIn w a len cap f) :
    Calls Try.prog 3 #[.slice a len cap] w fun e w' => e = .returned (.bool true) ∧ Below w.heap.size w w' := by
  obtain ⟨hlc, hcm, hat⟩ := h
  have HAT := Lib.hid hat
  clear hat
  go_enter Try.func3, Try.ntmps3
  go_wp2_with fail
  refine (new_k w).mono ?_
  rintro e w1 ⟨rfl, F0, hk0⟩
  have HL : Hid (St w w1 F0 [] ByteArray.empty 0 0 false) := Lib.hid ⟨hk0, rfl, rfl, Nat.le_refl _⟩
  clear hk0
  go_wp2_with fail
  go_loopw [4, 5, 6, 7] (fun sv av ev i wr => ∃ (k : Nat) (t : ByteArray) (at_ p : Nat) (en : Bool) (F : Nat → Prop) (L : List Bool), k ≤ len ∧ k ≤ 60 ∧ i = .int .i64 (k : Int) ∧ sv = .string t ∧ av = .int .i64 (at_ : Int) ∧ ev = .bool en ∧ t.size ≤ 160 * k ∧ at_ ≤ t.size ∧ Hid (St w wr F L t at_ p en)) (fun _ _ _ i _ => 60 - (intOf i).toNat)
  case atStart => exact ⟨0, _, 0, 0, false, F0, [], Nat.zero_le _, by omega, rfl, rfl, rfl, rfl, by decide, by omega, HL⟩
  case round =>
    clear HL
    obtain ⟨k, t, at_, p, en, F, L, hk, hk60, rfl, rfl, rfl, rfl, htl, hatl, HL⟩ := hrel
    by_cases hlt : k < len
    · by_cases hlt60 : k < 60
      · obtain ⟨b, off, rfl, ho, hw0⟩ : ∃ b off, a = some ⟨b, off, none⟩ ∧ OpAt wr b off k (f k) ∧ Bytes w (f k).ba (f k).bl (f k).bc (f k).l := by
          rcases HAT.out with h0 | ⟨b, off, ha, hc⟩
          · omega
          · exact ⟨b, off, ha, (hc k hlt).below (Nat.le_refl _) HL.out.kept.below, (hc k hlt).bytes⟩
        generalize f k = o at ho hw0
        obtain ⟨kind, n, ba, bl, bc, l⟩ := o
        obtain ⟨c0, c1, c2, hby, hbl, wk, wn⟩ := ho
        simp only at c0 c1 c2 hby wk wn
        have HBY := Lib.hid hby
        have HBYW : Hid (Bytes w ba bl bc l) := Lib.hid hw0
        clear hby hw0
        by_cases h20 : bl ≤ 20
        · obtain ⟨kd, hkd, hkd1, hkd2⟩ := place_in kind 7 (by omega) (by omega) wk.1 wk.2
          have hk1 : (wrap64 (kind.tmod 7 + 7)).tmod 7 = (kd : Int) := hkd1
          have hk2 : (kind.tmod 7 + 7).tmod 7 = (kd : Int) := hkd2
          clear hkd1 hkd2
          obtain ⟨X, hX⟩ : ∃ X, X = wr.alloc (.cells #[.int .i64 kind, .int .i64 n, .slice ba bl bc] 27) := ⟨_, rfl⟩
          have HBL : Hid (Blk X wr.heap.size 27 #[.int .i64 kind, .int .i64 n, .slice ba bl bc]) := Lib.hid (by rw [hX]; exact Blk.new wr _ _)
          have HK0 : Hid (St w X F L t at_ p en) := Lib.hid (by rw [hX]; exact HL.out.later ((Below.refl _ _).alloc (Nat.le_refl _) _))
          have HNE : Hid (¬ F wr.heap.size) := Lib.hid (fun hF => by have := (HL.out.kept.feed.lt _ hF).2; omega)
          have HX := Lib.hid hX
          have hts : t.size ≤ 100000 := by omega
          clear hX
          go_upto_block 2 with fail
          rw [← HX.out]
          go_cut [4, 5, 6] (fun sv av ev wx => ∃ (t2 : ByteArray) (at2 p2 : Nat) (en2 : Bool) (F2 : Nat → Prop) (L2 : List Bool), sv = .string t2 ∧ av = .int .i64 (at2 : Int) ∧ ev = .bool en2 ∧ t2.size ≤ 160 * (k + 1) ∧ at2 ≤ t2.size ∧ Hid (St w wx F2 L2 t2 at2 p2 en2))
          case first =>
            obtain rfl | rfl | rfl | rfl | rfl | rfl | rfl : kd = 0 ∨ kd = 1 ∨ kd = 2 ∨ kd = 3 ∨ kd = 4 ∨ kd = 5 ∨ kd = 6 := by omega
            · as_aux_lemma =>
                cases en
                · as_aux_lemma =>
                    have HBB : Hid (Bytes (X.alloc (.cells #[] 5)) ba bl bc l) := Lib.hid (by rw [HX.out]; exact HBY.out.below (Nat.le_refl _) (((Below.refl _ _).alloc (Nat.le_refl _) _).alloc (by simp) _))
                    have HXS : Hid (X.heap.size = wr.heap.size + 1) := Lib.hid (by rw [HX.out]; simp)
                    have e2a : (X.alloc (.cells #[] 5)).cell? ⟨wr.heap.size, 2, none⟩ = some (.slice ba bl bc) := (HBL.out.alloc _).cell 2
                    have HE : Hid (Own 5 X.heap.size (X.alloc (.cells #[] 5)) (.slice (some ⟨X.heap.size, 0, none⟩) 0 0) []) := Lib.hid (Own.empty 5 X (Nat.le_refl _))
                    go_wp2_with (at_builtin; refine wpList_append_lie (by rfl) (.tmp 49) (.tmp 51) 25 rfl X.heap.size 5 Try.underlying25 info5 (.slice (some ⟨X.heap.size, 0, none⟩) 0 0) [] rfl HE.out ba bl bc l rfl HBB.out (by simp; omega) (by simp) ?_)
                    intro a7 c7 w7 hown7 hgrow7 _
                    have hb7 : Below X.heap.size X w7 := ((Below.refl _ X).alloc (Nat.le_refl _) _).grown hgrow7 (by simp) (fun k hk => by simp [Value.ownBlock] at hk; omega)
                    have HK7 := Lib.hid (HK0.out.later hb7)
                    have HBL7 : Hid (Blk w7 wr.heap.size 27 #[.int .i64 kind, .int .i64 n, .slice ba bl bc]) := Lib.hid (HBL.out.same (hb7.block _ (by have := HXS.out; omega)))
                    have hown : Own 5 X.heap.size w7 (.slice a7 bl c7) l := by simpa using hown7
                    obtain ⟨ax, cx, hax, hbyx⟩ := hown.bytes
                    have hlb := HBY.out.len_eq
                    rw [hlb] at hax hbyx
                    simp only [Value.slice.injEq, true_and] at hax
                    obtain ⟨rfl, rfl⟩ := hax
                    have HO7 := Lib.hid hown
                    have HSEP : Hid (∀ b off, a7 = some ⟨b, off, none⟩ → ¬ F b ∧ w.heap.size ≤ b ∧ wr.heap.size < b ∧ b < w7.heap.size) := Lib.hid (by
                      intro b off hab
                      have h1 := World.ownsRow.lt HO7.out b (by rw [hab]; rfl)
                      have h2 := HL.out.kept.below.size
                      have h3 := HXS.out
                      exact ⟨fun hF => by have := (HL.out.kept.feed.lt b hF).2; omega, by omega, by omega, h1.2⟩)
                    have HBX := Lib.hid hbyx
                    have HLB := Lib.hid hlb
                    clear hown7 hgrow7 hb7 hown hbyx HBB HK0 HBL hlb HE e2a
                    go_wp2_with fail
                    refine (push_open _ _ p F _ w7 HK7.out.kept.feed a7 bl c7 l HBX.out (fun b off h => (HSEP.out b off h).1) (by have := HK7.out.len; omega) (by have := HK7.out.psh; have := HK7.out.size; omega) (by omega)).mono ?_
                    rintro e w2 ⟨rfl, hd⟩
                    obtain ⟨F2, hk2, ho2, hn2⟩ := HK7.out.done hd (L ++ bitsOf l) (t ++ txt (bitsOf l)) at_ (by rw [List.drop_append_of_le_length HK7.out.le]) (by rw [HK7.out.txt_, txt_append]) (by rw [List.length_append, bitsOf_len, HLB.out]; have := HK7.out.psh; omega) (by rw [List.length_append]; have := HK7.out.le; omega)
                    have HK2 := Lib.hid hk2
                    have HBL2 := Lib.hid (ho2.blk HBL7.out HNE.out)
                    have HO2 : Hid (Own 5 X.heap.size w2 (.slice a7 bl c7) l) := Lib.hid (ho2.own HO7.out (fun k' hk' hF => by
                      have h1 := World.ownsRow.lt HO7.out k' hk'
                      have h3 := HXS.out
                      have := (HL.out.kept.feed.lt _ hF).2
                      omega))
                    have HG7 : Hid (∀ g, a7 = some ⟨g, 0, none⟩ → ¬ F2 g ∧ g ≠ wr.heap.size ∧ w.heap.size ≤ g) := Lib.hid (fun g hg => by
                      have h1 := HSEP.out g 0 hg
                      refine ⟨fun hF => ?_, by omega, h1.2.1⟩
                      rcases hn2 g hF with h | h
                      · exact h1.1 h
                      · omega)
                    obtain ⟨t2, ht2⟩ : ∃ x, x = t ++ txt (bitsOf l) := ⟨_, rfl⟩
                    obtain ⟨L2, hL2⟩ : ∃ x, x = L ++ bitsOf l := ⟨_, rfl⟩
                    rw [← ht2, ← hL2] at HK2
                    have hs2 : (txt (bitsOf l)).size ≤ 160 := by rw [txt_len, bitsOf_len, HLB.out]; omega
                    have hts2 : t2.size ≤ 160 * (k + 1) ∧ t.size ≤ t2.size := by rw [ht2, ByteArray.size_append]; omega
                    have HT2 := Lib.hid ht2
                    have HRO : Hid (∀ X, Bytes X ba bl bc l → Calls Try.prog 8 #[.slice ba bl bc] X fun e w' => e = .returned (.string (txt (bitsOf l))) ∧ Below X.heap.size X w') := Lib.hid (fun X h => refof_any ba bl bc l X h (by omega))
                    generalize txt (bitsOf l) = s2 at HT2 HRO hs2
                    have hq3 : ¬ 9223372036854775807 < t.size + s2.size := by omega
                    clear hd hk2 ho2 hn2 HK7 HBL7 HO7 HSEP HBX ht2 hL2
                    go_wp2_with fail
                    generalize wr.heap.size = qs at *
                    go_loopw [10] (fun i wx => ∃ (j : Nat) (lst : List UInt8), j ≤ bl ∧ i = .int .i64 (j : Int) ∧ Hid (lst.length = bl) ∧ Hid (Own 5 X.heap.size wx (.slice a7 bl c7) lst) ∧ Hid (St w wx F2 L2 t2 at_ (p + bl) false) ∧ Hid (Blk wx qs 27 #[.int .i64 kind, .int .i64 n, .slice ba bl bc])) (fun i _ => bl - (intOf i).toNat)
                    case atStart => exact ⟨0, l, Nat.zero_le _, rfl, HLB, HO2, HK2, HBL2⟩
                    case round =>
                      clear HO2 HK2 HBL2
                      obtain ⟨j, lst, hj, rfl, HLS, HOx, HKx, HBx⟩ := hrel
                      by_cases hjl : j < bl
                      · obtain ⟨g7, cc, hv7, _⟩ := HOx.out.some_ (by have := HLS.out; omega)
                        simp only [Value.slice.injEq] at hv7
                        obtain ⟨rfl, -, -⟩ := hv7
                        have hjs : j < lst.length := by have := HLS.out; omega
                        have hcell := own_cell HOx.out HLS.out j hjs
                        have hfree := own_free HOx.out HLS.out j
                        generalize lst[j] = y at hcell
                        unfold bv at hcell
                        have hy : (y.toNat : Int) < 256 := by have := y.toNat_lt; omega
                        have ho' := own_store HOx.out HLS.out j (UInt8.ofNat (y.toNat + 1))
                        unfold bv at ho'
                        rw [UInt8.toNat_ofNat', show (((y.toNat + 1) % 2 ^ 8 : Nat) : Int) = ((y.toNat : Int) + 1) % 256 from by omega] at ho'
                        have HO' := Lib.hid ho'
                        have hon : Only (fun k => g7 = k) wr _ := (Only.refl _ wr).setCell (p := ⟨g7, j, none⟩) (fun _ => rfl) (.int .u8 (((y.toNat : Int) + 1) % 256))
                        have HK' : Hid (St w (wr.setCell ⟨g7, j, none⟩ (.int .u8 (((y.toNat : Int) + 1) % 256))) F2 L2 t2 at_ (p + bl) false) := Lib.hid ⟨⟨HKx.out.kept.feed.only hon (fun k hF e => (HG7.out g7 rfl).1 (e ▸ hF)), HKx.out.kept.below.setCell (p := ⟨g7, j, none⟩) (HG7.out g7 rfl).2.2 _⟩, HKx.out.txt_, HKx.out.psh, HKx.out.le⟩
                        have HB' := Lib.hid (hon.blk HBx.out (HG7.out g7 rfl).2.1)
                        clear ho' hon
                        go_wp2_with fail
                        go_roundw
                        case rel => exact ⟨j + 1, lst.set j (UInt8.ofNat (y.toNat + 1)), by omega, by go_num, Lib.hid (by rw [List.length_set]; exact HLS.out), HO', HK', HB'⟩
                        case measure => simp [intOf]; omega
                      · obtain rfl : j = bl := by omega
                        have e2 : wr.cell? ⟨qs, 2, none⟩ = some (.slice ba j bc) := HBx.out.cell 2
                        have HBYx := Lib.hid (HBYW.out.below (Nat.le_refl _) HKx.out.kept.below)
                        clear HOx HLS HG7
                        go_wp2_with fail
                        refine (HRO.out _ HBYx.out).mono ?_
                        rintro e wo ⟨rfl, hbo⟩
                        have HKo := Lib.hid (HKx.out.later hbo)
                        clear hbo HKx HBYx HRO
                        go_wp2_with fail
                        rw [← HT2.out]
                        go_meet
                        case rel => exact ⟨t2, at_, _, false, F2, L2, rfl, by go_num, rfl, by omega, by omega, HKo⟩
                · as_aux_lemma =>
                    have HBB : Hid (Bytes (X.alloc (.cells #[] 5)) ba bl bc l) := Lib.hid (by rw [HX.out]; exact HBY.out.below (Nat.le_refl _) (((Below.refl _ _).alloc (Nat.le_refl _) _).alloc (by simp) _))
                    have HXS : Hid (X.heap.size = wr.heap.size + 1) := Lib.hid (by rw [HX.out]; simp)
                    have e2a : (X.alloc (.cells #[] 5)).cell? ⟨wr.heap.size, 2, none⟩ = some (.slice ba bl bc) := (HBL.out.alloc _).cell 2
                    have HE : Hid (Own 5 X.heap.size (X.alloc (.cells #[] 5)) (.slice (some ⟨X.heap.size, 0, none⟩) 0 0) []) := Lib.hid (Own.empty 5 X (Nat.le_refl _))
                    go_wp2_with (at_builtin; refine wpList_append_lie (by rfl) (.tmp 49) (.tmp 51) 25 rfl X.heap.size 5 Try.underlying25 info5 (.slice (some ⟨X.heap.size, 0, none⟩) 0 0) [] rfl HE.out ba bl bc l rfl HBB.out (by simp; omega) (by simp) ?_)
                    intro a7 c7 w7 hown7 hgrow7 _
                    have hb7 : Below X.heap.size X w7 := ((Below.refl _ X).alloc (Nat.le_refl _) _).grown hgrow7 (by simp) (fun k hk => by simp [Value.ownBlock] at hk; omega)
                    have HK7 := Lib.hid (HK0.out.later hb7)
                    have HBL7 : Hid (Blk w7 wr.heap.size 27 #[.int .i64 kind, .int .i64 n, .slice ba bl bc]) := Lib.hid (HBL.out.same (hb7.block _ (by have := HXS.out; omega)))
                    have hown : Own 5 X.heap.size w7 (.slice a7 bl c7) l := by simpa using hown7
                    obtain ⟨ax, cx, hax, hbyx⟩ := hown.bytes
                    have hlb := HBY.out.len_eq
                    rw [hlb] at hax hbyx
                    simp only [Value.slice.injEq, true_and] at hax
                    obtain ⟨rfl, rfl⟩ := hax
                    have HO7 := Lib.hid hown
                    have HSEP : Hid (∀ b off, a7 = some ⟨b, off, none⟩ → ¬ F b ∧ w.heap.size ≤ b ∧ wr.heap.size < b ∧ b < w7.heap.size) := Lib.hid (by
                      intro b off hab
                      have h1 := World.ownsRow.lt HO7.out b (by rw [hab]; rfl)
                      have h2 := HL.out.kept.below.size
                      have h3 := HXS.out
                      exact ⟨fun hF => by have := (HL.out.kept.feed.lt b hF).2; omega, by omega, by omega, h1.2⟩)
                    have HBX := Lib.hid hbyx
                    have HLB := Lib.hid hlb
                    clear hown7 hgrow7 hb7 hown hbyx HBB HK0 HBL hlb HE e2a
                    go_wp2_with fail
                    refine (push_ended _ _ p F _ w7 HK7.out.kept.feed _).mono ?_
                    rintro e w2 ⟨rfl, rfl⟩
                    have HK2 := HK7
                    have HBL2 := HBL7
                    have HO2 := HO7
                    have HG7 : Hid (∀ g, a7 = some ⟨g, 0, none⟩ → ¬ F g ∧ g ≠ wr.heap.size ∧ w.heap.size ≤ g) := Lib.hid (fun g hg => by
                      have h1 := HSEP.out g 0 hg
                      exact ⟨h1.1, by omega, h1.2.1⟩)
                    clear HK7 HBL7 HO7 HSEP HBX
                    go_wp2_with fail
                    generalize wr.heap.size = qs at *
                    go_loopw [10] (fun i wx => ∃ (j : Nat) (lst : List UInt8), j ≤ bl ∧ i = .int .i64 (j : Int) ∧ Hid (lst.length = bl) ∧ Hid (Own 5 X.heap.size wx (.slice a7 bl c7) lst) ∧ Hid (St w wx F L t at_ p true) ∧ Hid (Blk wx qs 27 #[.int .i64 kind, .int .i64 n, .slice ba bl bc])) (fun i _ => bl - (intOf i).toNat)
                    case atStart => exact ⟨0, l, Nat.zero_le _, rfl, HLB, HO2, HK2, HBL2⟩
                    case round =>
                      clear HO2 HK2 HBL2
                      obtain ⟨j, lst, hj, rfl, HLS, HOx, HKx, HBx⟩ := hrel
                      by_cases hjl : j < bl
                      · obtain ⟨g7, cc, hv7, _⟩ := HOx.out.some_ (by have := HLS.out; omega)
                        simp only [Value.slice.injEq] at hv7
                        obtain ⟨rfl, -, -⟩ := hv7
                        have hjs : j < lst.length := by have := HLS.out; omega
                        have hcell := own_cell HOx.out HLS.out j hjs
                        have hfree := own_free HOx.out HLS.out j
                        generalize lst[j] = y at hcell
                        unfold bv at hcell
                        have hy : (y.toNat : Int) < 256 := by have := y.toNat_lt; omega
                        have ho' := own_store HOx.out HLS.out j (UInt8.ofNat (y.toNat + 1))
                        unfold bv at ho'
                        rw [UInt8.toNat_ofNat', show (((y.toNat + 1) % 2 ^ 8 : Nat) : Int) = ((y.toNat : Int) + 1) % 256 from by omega] at ho'
                        have HO' := Lib.hid ho'
                        have hon : Only (fun k => g7 = k) wr _ := (Only.refl _ wr).setCell (p := ⟨g7, j, none⟩) (fun _ => rfl) (.int .u8 (((y.toNat : Int) + 1) % 256))
                        have HK' : Hid (St w (wr.setCell ⟨g7, j, none⟩ (.int .u8 (((y.toNat : Int) + 1) % 256))) F L t at_ p true) := Lib.hid ⟨⟨HKx.out.kept.feed.only hon (fun k hF e => (HG7.out g7 rfl).1 (e ▸ hF)), HKx.out.kept.below.setCell (p := ⟨g7, j, none⟩) (HG7.out g7 rfl).2.2 _⟩, HKx.out.txt_, HKx.out.psh, HKx.out.le⟩
                        have HB' := Lib.hid (hon.blk HBx.out (HG7.out g7 rfl).2.1)
                        clear ho' hon
                        go_wp2_with fail
                        go_roundw
                        case rel => exact ⟨j + 1, lst.set j (UInt8.ofNat (y.toNat + 1)), by omega, by go_num, Lib.hid (by rw [List.length_set]; exact HLS.out), HO', HK', HB'⟩
                        case measure => simp [intOf]; omega
                      · obtain rfl : j = bl := by omega
                        have e2 : wr.cell? ⟨qs, 2, none⟩ = some (.slice ba j bc) := HBx.out.cell 2
                        have HBYx := Lib.hid (HBYW.out.below (Nat.le_refl _) HKx.out.kept.below)
                        clear HOx HLS HG7
                        go_wp2_with fail
                        go_meet
                        case rel => exact ⟨t, at_, p, true, F, L, rfl, by go_num, rfl, by omega, by omega, HKx⟩
            · as_aux_lemma =>
                cases en
                · as_aux_lemma =>
                    have HBB : Hid (Bytes (X.alloc (.cells #[] 5)) ba bl bc l) := Lib.hid (by rw [HX.out]; exact HBY.out.below (Nat.le_refl _) (((Below.refl _ _).alloc (Nat.le_refl _) _).alloc (by simp) _))
                    have HXS : Hid (X.heap.size = wr.heap.size + 1) := Lib.hid (by rw [HX.out]; simp)
                    have e2a : (X.alloc (.cells #[] 5)).cell? ⟨wr.heap.size, 2, none⟩ = some (.slice ba bl bc) := (HBL.out.alloc _).cell 2
                    have HE : Hid (Own 5 X.heap.size (X.alloc (.cells #[] 5)) (.slice (some ⟨X.heap.size, 0, none⟩) 0 0) []) := Lib.hid (Own.empty 5 X (Nat.le_refl _))
                    go_wp2_with (at_builtin; refine wpList_append_lie (by rfl) (.tmp 49) (.tmp 51) 25 rfl X.heap.size 5 Try.underlying25 info5 (.slice (some ⟨X.heap.size, 0, none⟩) 0 0) [] rfl HE.out ba bl bc l rfl HBB.out (by simp; omega) (by simp) ?_)
                    intro a7 c7 w7 hown7 hgrow7 _
                    have hb7 : Below X.heap.size X w7 := ((Below.refl _ X).alloc (Nat.le_refl _) _).grown hgrow7 (by simp) (fun k hk => by simp [Value.ownBlock] at hk; omega)
                    have HK7 := Lib.hid (HK0.out.later hb7)
                    have HBL7 : Hid (Blk w7 wr.heap.size 27 #[.int .i64 kind, .int .i64 n, .slice ba bl bc]) := Lib.hid (HBL.out.same (hb7.block _ (by have := HXS.out; omega)))
                    have hown : Own 5 X.heap.size w7 (.slice a7 bl c7) l := by simpa using hown7
                    obtain ⟨ax, cx, hax, hbyx⟩ := hown.bytes
                    have hlb := HBY.out.len_eq
                    rw [hlb] at hax hbyx
                    simp only [Value.slice.injEq, true_and] at hax
                    obtain ⟨rfl, rfl⟩ := hax
                    have HO7 := Lib.hid hown
                    have HSEP : Hid (∀ b off, a7 = some ⟨b, off, none⟩ → ¬ F b ∧ w.heap.size ≤ b ∧ wr.heap.size < b ∧ b < w7.heap.size) := Lib.hid (by
                      intro b off hab
                      have h1 := World.ownsRow.lt HO7.out b (by rw [hab]; rfl)
                      have h2 := HL.out.kept.below.size
                      have h3 := HXS.out
                      exact ⟨fun hF => by have := (HL.out.kept.feed.lt b hF).2; omega, by omega, by omega, h1.2⟩)
                    have HBX := Lib.hid hbyx
                    have HLB := Lib.hid hlb
                    clear hown7 hgrow7 hb7 hown hbyx HBB HK0 HBL hlb HE e2a
                    go_wp2_with fail
                    refine (push_open _ _ p F _ w7 HK7.out.kept.feed a7 bl c7 l HBX.out (fun b off h => (HSEP.out b off h).1) (by have := HK7.out.len; omega) (by have := HK7.out.psh; have := HK7.out.size; omega) (by omega)).mono ?_
                    rintro e w2 ⟨rfl, hd⟩
                    obtain ⟨F2, hk2, ho2, hn2⟩ := HK7.out.done hd (L ++ bitsOf l) (t ++ txt (bitsOf l)) at_ (by rw [List.drop_append_of_le_length HK7.out.le]) (by rw [HK7.out.txt_, txt_append]) (by rw [List.length_append, bitsOf_len, HLB.out]; have := HK7.out.psh; omega) (by rw [List.length_append]; have := HK7.out.le; omega)
                    have HK2 := Lib.hid hk2
                    have HBL2 := Lib.hid (ho2.blk HBL7.out HNE.out)
                    have HO2 : Hid (Own 5 X.heap.size w2 (.slice a7 bl c7) l) := Lib.hid (ho2.own HO7.out (fun k' hk' hF => by
                      have h1 := World.ownsRow.lt HO7.out k' hk'
                      have h3 := HXS.out
                      have := (HL.out.kept.feed.lt _ hF).2
                      omega))
                    have HG7 : Hid (∀ g, a7 = some ⟨g, 0, none⟩ → ¬ F2 g ∧ g ≠ wr.heap.size ∧ w.heap.size ≤ g) := Lib.hid (fun g hg => by
                      have h1 := HSEP.out g 0 hg
                      refine ⟨fun hF => ?_, by omega, h1.2.1⟩
                      rcases hn2 g hF with h | h
                      · exact h1.1 h
                      · omega)
                    obtain ⟨t2, ht2⟩ : ∃ x, x = t ++ txt (bitsOf l) := ⟨_, rfl⟩
                    obtain ⟨L2, hL2⟩ : ∃ x, x = L ++ bitsOf l := ⟨_, rfl⟩
                    rw [← ht2, ← hL2] at HK2
                    have hs2 : (txt (bitsOf l)).size ≤ 160 := by rw [txt_len, bitsOf_len, HLB.out]; omega
                    have hts2 : t2.size ≤ 160 * (k + 1) ∧ t.size ≤ t2.size := by rw [ht2, ByteArray.size_append]; omega
                    have HT2 := Lib.hid ht2
                    have HRO : Hid (∀ X, Bytes X ba bl bc l → Calls Try.prog 8 #[.slice ba bl bc] X fun e w' => e = .returned (.string (txt (bitsOf l))) ∧ Below X.heap.size X w') := Lib.hid (fun X h => refof_any ba bl bc l X h (by omega))
                    generalize txt (bitsOf l) = s2 at HT2 HRO hs2
                    have hq3 : ¬ 9223372036854775807 < t.size + s2.size := by omega
                    clear hd hk2 ho2 hn2 HK7 HBL7 HO7 HSEP HBX ht2 hL2
                    go_wp2_with fail
                    generalize wr.heap.size = qs at *
                    go_loopw [10] (fun i wx => ∃ (j : Nat) (lst : List UInt8), j ≤ bl ∧ i = .int .i64 (j : Int) ∧ Hid (lst.length = bl) ∧ Hid (Own 5 X.heap.size wx (.slice a7 bl c7) lst) ∧ Hid (St w wx F2 L2 t2 at_ (p + bl) false) ∧ Hid (Blk wx qs 27 #[.int .i64 kind, .int .i64 n, .slice ba bl bc])) (fun i _ => bl - (intOf i).toNat)
                    case atStart => exact ⟨0, l, Nat.zero_le _, rfl, HLB, HO2, HK2, HBL2⟩
                    case round =>
                      clear HO2 HK2 HBL2
                      obtain ⟨j, lst, hj, rfl, HLS, HOx, HKx, HBx⟩ := hrel
                      by_cases hjl : j < bl
                      · obtain ⟨g7, cc, hv7, _⟩ := HOx.out.some_ (by have := HLS.out; omega)
                        simp only [Value.slice.injEq] at hv7
                        obtain ⟨rfl, -, -⟩ := hv7
                        have hjs : j < lst.length := by have := HLS.out; omega
                        have hcell := own_cell HOx.out HLS.out j hjs
                        have hfree := own_free HOx.out HLS.out j
                        generalize lst[j] = y at hcell
                        unfold bv at hcell
                        have hy : (y.toNat : Int) < 256 := by have := y.toNat_lt; omega
                        have ho' := own_store HOx.out HLS.out j (UInt8.ofNat (y.toNat + 1))
                        unfold bv at ho'
                        rw [UInt8.toNat_ofNat', show (((y.toNat + 1) % 2 ^ 8 : Nat) : Int) = ((y.toNat : Int) + 1) % 256 from by omega] at ho'
                        have HO' := Lib.hid ho'
                        have hon : Only (fun k => g7 = k) wr _ := (Only.refl _ wr).setCell (p := ⟨g7, j, none⟩) (fun _ => rfl) (.int .u8 (((y.toNat : Int) + 1) % 256))
                        have HK' : Hid (St w (wr.setCell ⟨g7, j, none⟩ (.int .u8 (((y.toNat : Int) + 1) % 256))) F2 L2 t2 at_ (p + bl) false) := Lib.hid ⟨⟨HKx.out.kept.feed.only hon (fun k hF e => (HG7.out g7 rfl).1 (e ▸ hF)), HKx.out.kept.below.setCell (p := ⟨g7, j, none⟩) (HG7.out g7 rfl).2.2 _⟩, HKx.out.txt_, HKx.out.psh, HKx.out.le⟩
                        have HB' := Lib.hid (hon.blk HBx.out (HG7.out g7 rfl).2.1)
                        clear ho' hon
                        go_wp2_with fail
                        go_roundw
                        case rel => exact ⟨j + 1, lst.set j (UInt8.ofNat (y.toNat + 1)), by omega, by go_num, Lib.hid (by rw [List.length_set]; exact HLS.out), HO', HK', HB'⟩
                        case measure => simp [intOf]; omega
                      · obtain rfl : j = bl := by omega
                        have e2 : wr.cell? ⟨qs, 2, none⟩ = some (.slice ba j bc) := HBx.out.cell 2
                        have HBYx := Lib.hid (HBYW.out.below (Nat.le_refl _) HKx.out.kept.below)
                        clear HOx HLS HG7
                        go_wp2_with fail
                        refine (HRO.out _ HBYx.out).mono ?_
                        rintro e wo ⟨rfl, hbo⟩
                        have HKo := Lib.hid (HKx.out.later hbo)
                        clear hbo HKx HBYx HRO
                        go_wp2_with fail
                        rw [← HT2.out]
                        go_meet
                        case rel => exact ⟨t2, at_, _, false, F2, L2, rfl, by go_num, rfl, by omega, by omega, HKo⟩
                · as_aux_lemma =>
                    have HBB : Hid (Bytes (X.alloc (.cells #[] 5)) ba bl bc l) := Lib.hid (by rw [HX.out]; exact HBY.out.below (Nat.le_refl _) (((Below.refl _ _).alloc (Nat.le_refl _) _).alloc (by simp) _))
                    have HXS : Hid (X.heap.size = wr.heap.size + 1) := Lib.hid (by rw [HX.out]; simp)
                    have e2a : (X.alloc (.cells #[] 5)).cell? ⟨wr.heap.size, 2, none⟩ = some (.slice ba bl bc) := (HBL.out.alloc _).cell 2
                    have HE : Hid (Own 5 X.heap.size (X.alloc (.cells #[] 5)) (.slice (some ⟨X.heap.size, 0, none⟩) 0 0) []) := Lib.hid (Own.empty 5 X (Nat.le_refl _))
                    go_wp2_with (at_builtin; refine wpList_append_lie (by rfl) (.tmp 49) (.tmp 51) 25 rfl X.heap.size 5 Try.underlying25 info5 (.slice (some ⟨X.heap.size, 0, none⟩) 0 0) [] rfl HE.out ba bl bc l rfl HBB.out (by simp; omega) (by simp) ?_)
                    intro a7 c7 w7 hown7 hgrow7 _
                    have hb7 : Below X.heap.size X w7 := ((Below.refl _ X).alloc (Nat.le_refl _) _).grown hgrow7 (by simp) (fun k hk => by simp [Value.ownBlock] at hk; omega)
                    have HK7 := Lib.hid (HK0.out.later hb7)
                    have HBL7 : Hid (Blk w7 wr.heap.size 27 #[.int .i64 kind, .int .i64 n, .slice ba bl bc]) := Lib.hid (HBL.out.same (hb7.block _ (by have := HXS.out; omega)))
                    have hown : Own 5 X.heap.size w7 (.slice a7 bl c7) l := by simpa using hown7
                    obtain ⟨ax, cx, hax, hbyx⟩ := hown.bytes
                    have hlb := HBY.out.len_eq
                    rw [hlb] at hax hbyx
                    simp only [Value.slice.injEq, true_and] at hax
                    obtain ⟨rfl, rfl⟩ := hax
                    have HO7 := Lib.hid hown
                    have HSEP : Hid (∀ b off, a7 = some ⟨b, off, none⟩ → ¬ F b ∧ w.heap.size ≤ b ∧ wr.heap.size < b ∧ b < w7.heap.size) := Lib.hid (by
                      intro b off hab
                      have h1 := World.ownsRow.lt HO7.out b (by rw [hab]; rfl)
                      have h2 := HL.out.kept.below.size
                      have h3 := HXS.out
                      exact ⟨fun hF => by have := (HL.out.kept.feed.lt b hF).2; omega, by omega, by omega, h1.2⟩)
                    have HBX := Lib.hid hbyx
                    have HLB := Lib.hid hlb
                    clear hown7 hgrow7 hb7 hown hbyx HBB HK0 HBL hlb HE e2a
                    go_wp2_with fail
                    refine (push_ended _ _ p F _ w7 HK7.out.kept.feed _).mono ?_
                    rintro e w2 ⟨rfl, rfl⟩
                    have HK2 := HK7
                    have HBL2 := HBL7
                    have HO2 := HO7
                    have HG7 : Hid (∀ g, a7 = some ⟨g, 0, none⟩ → ¬ F g ∧ g ≠ wr.heap.size ∧ w.heap.size ≤ g) := Lib.hid (fun g hg => by
                      have h1 := HSEP.out g 0 hg
                      exact ⟨h1.1, by omega, h1.2.1⟩)
                    clear HK7 HBL7 HO7 HSEP HBX
                    go_wp2_with fail
                    generalize wr.heap.size = qs at *
                    go_loopw [10] (fun i wx => ∃ (j : Nat) (lst : List UInt8), j ≤ bl ∧ i = .int .i64 (j : Int) ∧ Hid (lst.length = bl) ∧ Hid (Own 5 X.heap.size wx (.slice a7 bl c7) lst) ∧ Hid (St w wx F L t at_ p true) ∧ Hid (Blk wx qs 27 #[.int .i64 kind, .int .i64 n, .slice ba bl bc])) (fun i _ => bl - (intOf i).toNat)
                    case atStart => exact ⟨0, l, Nat.zero_le _, rfl, HLB, HO2, HK2, HBL2⟩
                    case round =>
                      clear HO2 HK2 HBL2
                      obtain ⟨j, lst, hj, rfl, HLS, HOx, HKx, HBx⟩ := hrel
                      by_cases hjl : j < bl
                      · obtain ⟨g7, cc, hv7, _⟩ := HOx.out.some_ (by have := HLS.out; omega)
                        simp only [Value.slice.injEq] at hv7
                        obtain ⟨rfl, -, -⟩ := hv7
                        have hjs : j < lst.length := by have := HLS.out; omega
                        have hcell := own_cell HOx.out HLS.out j hjs
                        have hfree := own_free HOx.out HLS.out j
                        generalize lst[j] = y at hcell
                        unfold bv at hcell
                        have hy : (y.toNat : Int) < 256 := by have := y.toNat_lt; omega
                        have ho' := own_store HOx.out HLS.out j (UInt8.ofNat (y.toNat + 1))
                        unfold bv at ho'
                        rw [UInt8.toNat_ofNat', show (((y.toNat + 1) % 2 ^ 8 : Nat) : Int) = ((y.toNat : Int) + 1) % 256 from by omega] at ho'
                        have HO' := Lib.hid ho'
                        have hon : Only (fun k => g7 = k) wr _ := (Only.refl _ wr).setCell (p := ⟨g7, j, none⟩) (fun _ => rfl) (.int .u8 (((y.toNat : Int) + 1) % 256))
                        have HK' : Hid (St w (wr.setCell ⟨g7, j, none⟩ (.int .u8 (((y.toNat : Int) + 1) % 256))) F L t at_ p true) := Lib.hid ⟨⟨HKx.out.kept.feed.only hon (fun k hF e => (HG7.out g7 rfl).1 (e ▸ hF)), HKx.out.kept.below.setCell (p := ⟨g7, j, none⟩) (HG7.out g7 rfl).2.2 _⟩, HKx.out.txt_, HKx.out.psh, HKx.out.le⟩
                        have HB' := Lib.hid (hon.blk HBx.out (HG7.out g7 rfl).2.1)
                        clear ho' hon
                        go_wp2_with fail
                        go_roundw
                        case rel => exact ⟨j + 1, lst.set j (UInt8.ofNat (y.toNat + 1)), by omega, by go_num, Lib.hid (by rw [List.length_set]; exact HLS.out), HO', HK', HB'⟩
                        case measure => simp [intOf]; omega
                      · obtain rfl : j = bl := by omega
                        have e2 : wr.cell? ⟨qs, 2, none⟩ = some (.slice ba j bc) := HBx.out.cell 2
                        have HBYx := Lib.hid (HBYW.out.below (Nat.le_refl _) HKx.out.kept.below)
                        clear HOx HLS HG7
                        go_wp2_with fail
                        go_meet
                        case rel => exact ⟨t, at_, p, true, F, L, rfl, by go_num, rfl, by omega, by omega, HKx⟩
            · as_aux_lemma =>
                have e1a : X.cell? ⟨wr.heap.size, 1, none⟩ = some (.int .i64 n) := HBL.out.cell 1
                by_cases hn : n < 0
                · as_aux_lemma =>
                    have hv : peekV (L.drop at_) n = 0 := by unfold peekV; rw [if_neg (by omega)]
                    have hc : skipCode (L.drop at_) n = 1 := if_pos hn
                    have hb : skipBits (L.drop at_) n = L.drop at_ := if_pos hn
                    have HC := Lib.hid hc
                    have HB := Lib.hid hb
                    have HV := Lib.hid hv
                    have HLN : Hid ((L.drop at_).length ≤ 10000000000) := Lib.hid (by rw [HK0.out.len]; omega)
                    clear hc hb hv
                    go_wp2_with fail
                    refine (peek_any n _ _ p F _ en X HK0.out.kept.feed).mono ?_
                    rw [HV.out]
                    rintro e w' ⟨rfl, kk, rfl⟩
                    have HK1 := Lib.hid (HK0.out.drewN kk)
                    have e1b : (X.drewN kk).cell? ⟨wr.heap.size, 1, none⟩ = some (.int .i64 n) := HBL.out.cell 1
                    generalize X.drewN kk = w4 at *
                    clear HV
                    go_wp2_with fail
                    refine (skip_any n _ _ p F _ en w4 HK1.out.kept.feed HLN.out).mono ?_
                    rw [HC.out, HB.out]
                    rintro e w2 ⟨rfl, hd⟩
                    obtain ⟨F2, hk2, -, -⟩ := HK1.out.done hd L t (at_) rfl HK1.out.txt_ HK1.out.psh (HK1.out.le)
                    have HK2 := Lib.hid hk2
                    clear hd hk2 HK1 HC HB HLN
                    go_wp2_with fail
                    go_meet
                    case rel => exact ⟨t, at_, p, en, F2, L, rfl, by go_num, rfl, by omega, by omega, HK2⟩
                · obtain ⟨m, rfl⟩ : ∃ m : Nat, n = (m : Int) := ⟨n.toNat, by omega⟩
                  clear hn
                  by_cases hm0 : m = 0
                  · as_aux_lemma =>
                      subst hm0
                      have hv : peekV (L.drop at_) 0 = 0 := by unfold peekV; rw [if_neg (by omega)]
                      have hc : skipCode (L.drop at_) (0 : Nat) = 0 := by unfold skipCode; rw [if_neg (by omega), if_neg (by rw [HK0.out.len]; omega)]
                      have hb : skipBits (L.drop at_) (0 : Nat) = L.drop (at_ + 0) := by unfold skipBits; rw [if_neg (by omega), if_neg (by rw [HK0.out.len]; omega), List.drop_drop]; congr 1
                      have hle2 : ¬ (0 : Int) > (t.size : Int) - (at_ : Int) := by omega
                      have HC := Lib.hid hc
                      have HB := Lib.hid hb
                      have HV := Lib.hid hv
                      have HLN : Hid ((L.drop at_).length ≤ 10000000000) := Lib.hid (by rw [HK0.out.len]; omega)
                      clear hc hb hv
                      go_wp2_with fail
                      refine (peek_any 0 _ _ p F _ en X HK0.out.kept.feed).mono ?_
                      rw [HV.out]
                      rintro e w' ⟨rfl, kk, rfl⟩
                      have HK1 := Lib.hid (HK0.out.drewN kk)
                      have e1b : (X.drewN kk).cell? ⟨wr.heap.size, 1, none⟩ = some (.int .i64 0) := HBL.out.cell 1
                      generalize X.drewN kk = w4 at *
                      clear HV
                      go_wp2_with fail
                      refine (skip_any 0 _ _ p F _ en w4 HK1.out.kept.feed HLN.out).mono ?_
                      rw [show (0 : Int) = ((0 : Nat) : Int) from rfl, HC.out, HB.out]
                      rintro e w2 ⟨rfl, hd⟩
                      obtain ⟨F2, hk2, -, -⟩ := HK1.out.done hd L t (at_) rfl HK1.out.txt_ HK1.out.psh (HK1.out.le)
                      have HK2 := Lib.hid hk2
                      clear hd hk2 HK1 HC HB HLN
                      go_wp2_with fail
                      go_meet
                      case rel => exact ⟨t, at_, p, en, F2, L, rfl, by go_num, rfl, by omega, by omega, HK2⟩
                  · have hm0' : 0 < m := by omega
                    clear hm0
                    by_cases hm : m ≤ 32
                    · by_cases hav : m ≤ t.size - at_
                      · as_aux_lemma =>
                          have hc : skipCode (L.drop at_) (m : Nat) = 0 := by unfold skipCode; rw [if_neg (by omega), if_neg (by rw [HK0.out.len]; omega)]
                          have hb : skipBits (L.drop at_) (m : Nat) = L.drop (at_ + m) := by unfold skipBits; rw [if_neg (by omega), if_neg (by rw [HK0.out.len]; omega), List.drop_drop]; congr 1
                          have hle2 : ¬ (m : Int) > (t.size : Int) - (at_ : Int) := by omega
                          have hm1 : (1 : Int) ≤ (m : Int) := by omega
                          have hm32 : (m : Int) ≤ 32 := by omega
                          obtain ⟨E, hE1, hE2, hE3, hmin⟩ : ∃ E : Nat, at_ ≤ E ∧ E ≤ t.size ∧ (E = at_ + m ∨ E = t.size ∧ t.size ≤ at_ + m) ∧ (if (at_ : Int) + (m : Int) < (t.size : Int) then (at_ : Int) + (m : Int) else (t.size : Int)) = (E : Int) := by
                            by_cases hx : (at_ : Int) + (m : Int) < (t.size : Int)
                            · exact ⟨at_ + m, by omega, by omega, .inl rfl, by rw [if_pos hx]; omega⟩
                            · exact ⟨t.size, by omega, by omega, .inr ⟨rfl, by omega⟩, by rw [if_neg hx]⟩
                          have hsub : t.extract at_ E = txt ((L.drop at_).take (E - at_)) := by have := txt_sub L at_ E hE1; rw [HK0.out.txt_]; exact this
                          have htk : (L.drop at_).take m = (L.drop at_).take (E - at_) := by
                            rcases hE3 with h | ⟨h, h'⟩
                            · rw [h]; congr 1; omega
                            · rw [h, List.take_of_length_le (by rw [HK0.out.len]; omega), List.take_of_length_le (by rw [HK0.out.len]; omega)]
                          have hv : peekV (L.drop at_) m = num ((L.drop at_).take (E - at_)) := by unfold peekV; rw [if_pos (by omega), Int.toNat_natCast, htk]
                          have hln : ((L.drop at_).take (E - at_)).length ≤ 32 := by rw [← htk]; simp; omega
                          have HN := Lib.hid (fun X => refnumber_any ((L.drop at_).take (E - at_)) X hln)
                          have HSUB := Lib.hid hsub
                          have hE4 : (at_ : Int) ≤ (E : Int) := by omega
                          have hE5 : (E : Int) ≤ (t.size : Int) := by omega
                          generalize num ((L.drop at_).take (E - at_)) = z at *
                          clear hsub htk hln hE3
                          have HC := Lib.hid hc
                          have HB := Lib.hid hb
                          have HV := Lib.hid hv
                          have HLN : Hid ((L.drop at_).length ≤ 10000000000) := Lib.hid (by rw [HK0.out.len]; omega)
                          clear hc hb hv
                          go_wp2_with fail
                          rw [HSUB.out]
                          refine (HN.out X).mono ?_
                          rintro e w' ⟨rfl, rfl⟩
                          go_wp2_with fail
                          refine (peek_any m _ _ p F _ en X HK0.out.kept.feed).mono ?_
                          rw [HV.out]
                          rintro e w' ⟨rfl, kk, rfl⟩
                          have HK1 := Lib.hid (HK0.out.drewN kk)
                          have e1b : (X.drewN kk).cell? ⟨wr.heap.size, 1, none⟩ = some (.int .i64 (m : Int)) := HBL.out.cell 1
                          generalize X.drewN kk = w4 at *
                          clear HV
                          go_wp2_with fail
                          refine (skip_any m _ _ p F _ en w4 HK1.out.kept.feed HLN.out).mono ?_
                          rw [HC.out, HB.out]
                          rintro e w2 ⟨rfl, hd⟩
                          obtain ⟨F2, hk2, -, -⟩ := HK1.out.done hd L t (at_ + m) rfl HK1.out.txt_ HK1.out.psh (by have := HK1.out.size; omega)
                          have HK2 := Lib.hid hk2
                          clear hd hk2 HK1 HC HB HLN
                          go_wp2_with fail
                          go_meet
                          case rel => exact ⟨t, at_ + m, p, en, F2, L, rfl, by go_num, rfl, by omega, by omega, HK2⟩
                      · as_aux_lemma =>
                          have hc : skipCode (L.drop at_) (m : Nat) = 5 := by unfold skipCode; rw [if_neg (by omega), if_pos (by rw [HK0.out.len]; omega)]
                          have hb : skipBits (L.drop at_) (m : Nat) = L.drop at_ := by unfold skipBits; rw [if_neg (by omega), if_pos (by rw [HK0.out.len]; omega)]
                          have hle2 : (m : Int) > (t.size : Int) - (at_ : Int) := by omega
                          have hm1 : (1 : Int) ≤ (m : Int) := by omega
                          have hm32 : (m : Int) ≤ 32 := by omega
                          obtain ⟨E, hE1, hE2, hE3, hmin⟩ : ∃ E : Nat, at_ ≤ E ∧ E ≤ t.size ∧ (E = at_ + m ∨ E = t.size ∧ t.size ≤ at_ + m) ∧ (if (at_ : Int) + (m : Int) < (t.size : Int) then (at_ : Int) + (m : Int) else (t.size : Int)) = (E : Int) := by
                            by_cases hx : (at_ : Int) + (m : Int) < (t.size : Int)
                            · exact ⟨at_ + m, by omega, by omega, .inl rfl, by rw [if_pos hx]; omega⟩
                            · exact ⟨t.size, by omega, by omega, .inr ⟨rfl, by omega⟩, by rw [if_neg hx]⟩
                          have hsub : t.extract at_ E = txt ((L.drop at_).take (E - at_)) := by have := txt_sub L at_ E hE1; rw [HK0.out.txt_]; exact this
                          have htk : (L.drop at_).take m = (L.drop at_).take (E - at_) := by
                            rcases hE3 with h | ⟨h, h'⟩
                            · rw [h]; congr 1; omega
                            · rw [h, List.take_of_length_le (by rw [HK0.out.len]; omega), List.take_of_length_le (by rw [HK0.out.len]; omega)]
                          have hv : peekV (L.drop at_) m = num ((L.drop at_).take (E - at_)) := by unfold peekV; rw [if_pos (by omega), Int.toNat_natCast, htk]
                          have hln : ((L.drop at_).take (E - at_)).length ≤ 32 := by rw [← htk]; simp; omega
                          have HN := Lib.hid (fun X => refnumber_any ((L.drop at_).take (E - at_)) X hln)
                          have HSUB := Lib.hid hsub
                          have hE4 : (at_ : Int) ≤ (E : Int) := by omega
                          have hE5 : (E : Int) ≤ (t.size : Int) := by omega
                          generalize num ((L.drop at_).take (E - at_)) = z at *
                          clear hsub htk hln hE3
                          have HC := Lib.hid hc
                          have HB := Lib.hid hb
                          have HV := Lib.hid hv
                          have HLN : Hid ((L.drop at_).length ≤ 10000000000) := Lib.hid (by rw [HK0.out.len]; omega)
                          clear hc hb hv
                          go_wp2_with fail
                          rw [HSUB.out]
                          refine (HN.out X).mono ?_
                          rintro e w' ⟨rfl, rfl⟩
                          go_wp2_with fail
                          refine (peek_any m _ _ p F _ en X HK0.out.kept.feed).mono ?_
                          rw [HV.out]
                          rintro e w' ⟨rfl, kk, rfl⟩
                          have HK1 := Lib.hid (HK0.out.drewN kk)
                          have e1b : (X.drewN kk).cell? ⟨wr.heap.size, 1, none⟩ = some (.int .i64 (m : Int)) := HBL.out.cell 1
                          generalize X.drewN kk = w4 at *
                          clear HV
                          go_wp2_with fail
                          refine (skip_any m _ _ p F _ en w4 HK1.out.kept.feed HLN.out).mono ?_
                          rw [HC.out, HB.out]
                          rintro e w2 ⟨rfl, hd⟩
                          obtain ⟨F2, hk2, -, -⟩ := HK1.out.done hd L t (at_) rfl HK1.out.txt_ HK1.out.psh (HK1.out.le)
                          have HK2 := Lib.hid hk2
                          clear hd hk2 HK1 HC HB HLN
                          go_wp2_with fail
                          go_meet
                          case rel => exact ⟨t, at_, p, en, F2, L, rfl, by go_num, rfl, by omega, by omega, HK2⟩
                    · by_cases hav : m ≤ t.size - at_
                      · as_aux_lemma =>
                          have hv : peekV (L.drop at_) m = 0 := by unfold peekV; rw [if_neg (by omega)]
                          have d8 : decide ((m : Int) ≤ 32) = false := by simp; omega
                          have hm1 : (1 : Int) ≤ (m : Int) := by omega
                          have hc : skipCode (L.drop at_) (m : Nat) = 0 := by unfold skipCode; rw [if_neg (by omega), if_neg (by rw [HK0.out.len]; omega)]
                          have hb : skipBits (L.drop at_) (m : Nat) = L.drop (at_ + m) := by unfold skipBits; rw [if_neg (by omega), if_neg (by rw [HK0.out.len]; omega), List.drop_drop]; congr 1
                          have hle2 : ¬ (m : Int) > (t.size : Int) - (at_ : Int) := by omega
                          have HC := Lib.hid hc
                          have HB := Lib.hid hb
                          have HV := Lib.hid hv
                          have HLN : Hid ((L.drop at_).length ≤ 10000000000) := Lib.hid (by rw [HK0.out.len]; omega)
                          clear hc hb hv
                          go_wp2_with fail
                          refine (peek_any m _ _ p F _ en X HK0.out.kept.feed).mono ?_
                          rw [HV.out]
                          rintro e w' ⟨rfl, kk, rfl⟩
                          have HK1 := Lib.hid (HK0.out.drewN kk)
                          have e1b : (X.drewN kk).cell? ⟨wr.heap.size, 1, none⟩ = some (.int .i64 (m : Int)) := HBL.out.cell 1
                          generalize X.drewN kk = w4 at *
                          clear HV
                          go_wp2_with fail
                          refine (skip_any m _ _ p F _ en w4 HK1.out.kept.feed HLN.out).mono ?_
                          rw [HC.out, HB.out]
                          rintro e w2 ⟨rfl, hd⟩
                          obtain ⟨F2, hk2, -, -⟩ := HK1.out.done hd L t (at_ + m) rfl HK1.out.txt_ HK1.out.psh (by have := HK1.out.size; omega)
                          have HK2 := Lib.hid hk2
                          clear hd hk2 HK1 HC HB HLN
                          go_wp2_with fail
                          go_meet
                          case rel => exact ⟨t, at_ + m, p, en, F2, L, rfl, by go_num, rfl, by omega, by omega, HK2⟩
                      · as_aux_lemma =>
                          have hv : peekV (L.drop at_) m = 0 := by unfold peekV; rw [if_neg (by omega)]
                          have d8 : decide ((m : Int) ≤ 32) = false := by simp; omega
                          have hm1 : (1 : Int) ≤ (m : Int) := by omega
                          have hc : skipCode (L.drop at_) (m : Nat) = 5 := by unfold skipCode; rw [if_neg (by omega), if_pos (by rw [HK0.out.len]; omega)]
                          have hb : skipBits (L.drop at_) (m : Nat) = L.drop at_ := by unfold skipBits; rw [if_neg (by omega), if_pos (by rw [HK0.out.len]; omega)]
                          have hle2 : (m : Int) > (t.size : Int) - (at_ : Int) := by omega
                          have HC := Lib.hid hc
                          have HB := Lib.hid hb
                          have HV := Lib.hid hv
                          have HLN : Hid ((L.drop at_).length ≤ 10000000000) := Lib.hid (by rw [HK0.out.len]; omega)
                          clear hc hb hv
                          go_wp2_with fail
                          refine (peek_any m _ _ p F _ en X HK0.out.kept.feed).mono ?_
                          rw [HV.out]
                          rintro e w' ⟨rfl, kk, rfl⟩
                          have HK1 := Lib.hid (HK0.out.drewN kk)
                          have e1b : (X.drewN kk).cell? ⟨wr.heap.size, 1, none⟩ = some (.int .i64 (m : Int)) := HBL.out.cell 1
                          generalize X.drewN kk = w4 at *
                          clear HV
                          go_wp2_with fail
                          refine (skip_any m _ _ p F _ en w4 HK1.out.kept.feed HLN.out).mono ?_
                          rw [HC.out, HB.out]
                          rintro e w2 ⟨rfl, hd⟩
                          obtain ⟨F2, hk2, -, -⟩ := HK1.out.done hd L t (at_) rfl HK1.out.txt_ HK1.out.psh (HK1.out.le)
                          have HK2 := Lib.hid hk2
                          clear hd hk2 HK1 HC HB HLN
                          go_wp2_with fail
                          go_meet
                          case rel => exact ⟨t, at_, p, en, F2, L, rfl, by go_num, rfl, by omega, by omega, HK2⟩
            · as_aux_lemma =>
                have e1a : X.cell? ⟨wr.heap.size, 1, none⟩ = some (.int .i64 n) := HBL.out.cell 1
                by_cases hn : n < 0
                · as_aux_lemma =>
                    have hv : peekV (L.drop at_) n = 0 := by unfold peekV; rw [if_neg (by omega)]
                    have hc : skipCode (L.drop at_) n = 1 := if_pos hn
                    have hb : skipBits (L.drop at_) n = L.drop at_ := if_pos hn
                    have HC := Lib.hid hc
                    have HB := Lib.hid hb
                    have HV := Lib.hid hv
                    have HLN : Hid ((L.drop at_).length ≤ 10000000000) := Lib.hid (by rw [HK0.out.len]; omega)
                    clear hc hb hv
                    go_wp2_with fail
                    refine (peek_any n _ _ p F _ en X HK0.out.kept.feed).mono ?_
                    rw [HV.out]
                    rintro e w' ⟨rfl, kk, rfl⟩
                    have HK1 := Lib.hid (HK0.out.drewN kk)
                    have e1b : (X.drewN kk).cell? ⟨wr.heap.size, 1, none⟩ = some (.int .i64 n) := HBL.out.cell 1
                    generalize X.drewN kk = w4 at *
                    clear HV
                    go_wp2_with fail
                    refine (skip_any n _ _ p F _ en w4 HK1.out.kept.feed HLN.out).mono ?_
                    rw [HC.out, HB.out]
                    rintro e w2 ⟨rfl, hd⟩
                    obtain ⟨F2, hk2, -, -⟩ := HK1.out.done hd L t (at_) rfl HK1.out.txt_ HK1.out.psh (HK1.out.le)
                    have HK2 := Lib.hid hk2
                    clear hd hk2 HK1 HC HB HLN
                    go_wp2_with fail
                    go_meet
                    case rel => exact ⟨t, at_, p, en, F2, L, rfl, by go_num, rfl, by omega, by omega, HK2⟩
                · obtain ⟨m, rfl⟩ : ∃ m : Nat, n = (m : Int) := ⟨n.toNat, by omega⟩
                  clear hn
                  by_cases hm0 : m = 0
                  · as_aux_lemma =>
                      subst hm0
                      have hv : peekV (L.drop at_) 0 = 0 := by unfold peekV; rw [if_neg (by omega)]
                      have hc : skipCode (L.drop at_) (0 : Nat) = 0 := by unfold skipCode; rw [if_neg (by omega), if_neg (by rw [HK0.out.len]; omega)]
                      have hb : skipBits (L.drop at_) (0 : Nat) = L.drop (at_ + 0) := by unfold skipBits; rw [if_neg (by omega), if_neg (by rw [HK0.out.len]; omega), List.drop_drop]; congr 1
                      have hle2 : ¬ (0 : Int) > (t.size : Int) - (at_ : Int) := by omega
                      have HC := Lib.hid hc
                      have HB := Lib.hid hb
                      have HV := Lib.hid hv
                      have HLN : Hid ((L.drop at_).length ≤ 10000000000) := Lib.hid (by rw [HK0.out.len]; omega)
                      clear hc hb hv
                      go_wp2_with fail
                      refine (peek_any 0 _ _ p F _ en X HK0.out.kept.feed).mono ?_
                      rw [HV.out]
                      rintro e w' ⟨rfl, kk, rfl⟩
                      have HK1 := Lib.hid (HK0.out.drewN kk)
                      have e1b : (X.drewN kk).cell? ⟨wr.heap.size, 1, none⟩ = some (.int .i64 0) := HBL.out.cell 1
                      generalize X.drewN kk = w4 at *
                      clear HV
                      go_wp2_with fail
                      refine (skip_any 0 _ _ p F _ en w4 HK1.out.kept.feed HLN.out).mono ?_
                      rw [show (0 : Int) = ((0 : Nat) : Int) from rfl, HC.out, HB.out]
                      rintro e w2 ⟨rfl, hd⟩
                      obtain ⟨F2, hk2, -, -⟩ := HK1.out.done hd L t (at_) rfl HK1.out.txt_ HK1.out.psh (HK1.out.le)
                      have HK2 := Lib.hid hk2
                      clear hd hk2 HK1 HC HB HLN
                      go_wp2_with fail
                      go_meet
                      case rel => exact ⟨t, at_, p, en, F2, L, rfl, by go_num, rfl, by omega, by omega, HK2⟩
                  · have hm0' : 0 < m := by omega
                    clear hm0
                    by_cases hm : m ≤ 32
                    · by_cases hav : m ≤ t.size - at_
                      · as_aux_lemma =>
                          have hc : skipCode (L.drop at_) (m : Nat) = 0 := by unfold skipCode; rw [if_neg (by omega), if_neg (by rw [HK0.out.len]; omega)]
                          have hb : skipBits (L.drop at_) (m : Nat) = L.drop (at_ + m) := by unfold skipBits; rw [if_neg (by omega), if_neg (by rw [HK0.out.len]; omega), List.drop_drop]; congr 1
                          have hle2 : ¬ (m : Int) > (t.size : Int) - (at_ : Int) := by omega
                          have hm1 : (1 : Int) ≤ (m : Int) := by omega
                          have hm32 : (m : Int) ≤ 32 := by omega
                          obtain ⟨E, hE1, hE2, hE3, hmin⟩ : ∃ E : Nat, at_ ≤ E ∧ E ≤ t.size ∧ (E = at_ + m ∨ E = t.size ∧ t.size ≤ at_ + m) ∧ (if (at_ : Int) + (m : Int) < (t.size : Int) then (at_ : Int) + (m : Int) else (t.size : Int)) = (E : Int) := by
                            by_cases hx : (at_ : Int) + (m : Int) < (t.size : Int)
                            · exact ⟨at_ + m, by omega, by omega, .inl rfl, by rw [if_pos hx]; omega⟩
                            · exact ⟨t.size, by omega, by omega, .inr ⟨rfl, by omega⟩, by rw [if_neg hx]⟩
                          have hsub : t.extract at_ E = txt ((L.drop at_).take (E - at_)) := by have := txt_sub L at_ E hE1; rw [HK0.out.txt_]; exact this
                          have htk : (L.drop at_).take m = (L.drop at_).take (E - at_) := by
                            rcases hE3 with h | ⟨h, h'⟩
                            · rw [h]; congr 1; omega
                            · rw [h, List.take_of_length_le (by rw [HK0.out.len]; omega), List.take_of_length_le (by rw [HK0.out.len]; omega)]
                          have hv : peekV (L.drop at_) m = num ((L.drop at_).take (E - at_)) := by unfold peekV; rw [if_pos (by omega), Int.toNat_natCast, htk]
                          have hln : ((L.drop at_).take (E - at_)).length ≤ 32 := by rw [← htk]; simp; omega
                          have HN := Lib.hid (fun X => refnumber_any ((L.drop at_).take (E - at_)) X hln)
                          have HSUB := Lib.hid hsub
                          have hE4 : (at_ : Int) ≤ (E : Int) := by omega
                          have hE5 : (E : Int) ≤ (t.size : Int) := by omega
                          generalize num ((L.drop at_).take (E - at_)) = z at *
                          clear hsub htk hln hE3
                          have HC := Lib.hid hc
                          have HB := Lib.hid hb
                          have HV := Lib.hid hv
                          have HLN : Hid ((L.drop at_).length ≤ 10000000000) := Lib.hid (by rw [HK0.out.len]; omega)
                          clear hc hb hv
                          go_wp2_with fail
                          rw [HSUB.out]
                          refine (HN.out X).mono ?_
                          rintro e w' ⟨rfl, rfl⟩
                          go_wp2_with fail
                          refine (peek_any m _ _ p F _ en X HK0.out.kept.feed).mono ?_
                          rw [HV.out]
                          rintro e w' ⟨rfl, kk, rfl⟩
                          have HK1 := Lib.hid (HK0.out.drewN kk)
                          have e1b : (X.drewN kk).cell? ⟨wr.heap.size, 1, none⟩ = some (.int .i64 (m : Int)) := HBL.out.cell 1
                          generalize X.drewN kk = w4 at *
                          clear HV
                          go_wp2_with fail
                          refine (skip_any m _ _ p F _ en w4 HK1.out.kept.feed HLN.out).mono ?_
                          rw [HC.out, HB.out]
                          rintro e w2 ⟨rfl, hd⟩
                          obtain ⟨F2, hk2, -, -⟩ := HK1.out.done hd L t (at_ + m) rfl HK1.out.txt_ HK1.out.psh (by have := HK1.out.size; omega)
                          have HK2 := Lib.hid hk2
                          clear hd hk2 HK1 HC HB HLN
                          go_wp2_with fail
                          go_meet
                          case rel => exact ⟨t, at_ + m, p, en, F2, L, rfl, by go_num, rfl, by omega, by omega, HK2⟩
                      · as_aux_lemma =>
                          have hc : skipCode (L.drop at_) (m : Nat) = 5 := by unfold skipCode; rw [if_neg (by omega), if_pos (by rw [HK0.out.len]; omega)]
                          have hb : skipBits (L.drop at_) (m : Nat) = L.drop at_ := by unfold skipBits; rw [if_neg (by omega), if_pos (by rw [HK0.out.len]; omega)]
                          have hle2 : (m : Int) > (t.size : Int) - (at_ : Int) := by omega
                          have hm1 : (1 : Int) ≤ (m : Int) := by omega
                          have hm32 : (m : Int) ≤ 32 := by omega
                          obtain ⟨E, hE1, hE2, hE3, hmin⟩ : ∃ E : Nat, at_ ≤ E ∧ E ≤ t.size ∧ (E = at_ + m ∨ E = t.size ∧ t.size ≤ at_ + m) ∧ (if (at_ : Int) + (m : Int) < (t.size : Int) then (at_ : Int) + (m : Int) else (t.size : Int)) = (E : Int) := by
                            by_cases hx : (at_ : Int) + (m : Int) < (t.size : Int)
                            · exact ⟨at_ + m, by omega, by omega, .inl rfl, by rw [if_pos hx]; omega⟩
                            · exact ⟨t.size, by omega, by omega, .inr ⟨rfl, by omega⟩, by rw [if_neg hx]⟩
                          have hsub : t.extract at_ E = txt ((L.drop at_).take (E - at_)) := by have := txt_sub L at_ E hE1; rw [HK0.out.txt_]; exact this
                          have htk : (L.drop at_).take m = (L.drop at_).take (E - at_) := by
                            rcases hE3 with h | ⟨h, h'⟩
                            · rw [h]; congr 1; omega
                            · rw [h, List.take_of_length_le (by rw [HK0.out.len]; omega), List.take_of_length_le (by rw [HK0.out.len]; omega)]
                          have hv : peekV (L.drop at_) m = num ((L.drop at_).take (E - at_)) := by unfold peekV; rw [if_pos (by omega), Int.toNat_natCast, htk]
                          have hln : ((L.drop at_).take (E - at_)).length ≤ 32 := by rw [← htk]; simp; omega
                          have HN := Lib.hid (fun X => refnumber_any ((L.drop at_).take (E - at_)) X hln)
                          have HSUB := Lib.hid hsub
                          have hE4 : (at_ : Int) ≤ (E : Int) := by omega
                          have hE5 : (E : Int) ≤ (t.size : Int) := by omega
                          generalize num ((L.drop at_).take (E - at_)) = z at *
                          clear hsub htk hln hE3
                          have HC := Lib.hid hc
                          have HB := Lib.hid hb
                          have HV := Lib.hid hv
                          have HLN : Hid ((L.drop at_).length ≤ 10000000000) := Lib.hid (by rw [HK0.out.len]; omega)
                          clear hc hb hv
                          go_wp2_with fail
                          rw [HSUB.out]
                          refine (HN.out X).mono ?_
                          rintro e w' ⟨rfl, rfl⟩
                          go_wp2_with fail
                          refine (peek_any m _ _ p F _ en X HK0.out.kept.feed).mono ?_
                          rw [HV.out]
                          rintro e w' ⟨rfl, kk, rfl⟩
                          have HK1 := Lib.hid (HK0.out.drewN kk)
                          have e1b : (X.drewN kk).cell? ⟨wr.heap.size, 1, none⟩ = some (.int .i64 (m : Int)) := HBL.out.cell 1
                          generalize X.drewN kk = w4 at *
                          clear HV
                          go_wp2_with fail
                          refine (skip_any m _ _ p F _ en w4 HK1.out.kept.feed HLN.out).mono ?_
                          rw [HC.out, HB.out]
                          rintro e w2 ⟨rfl, hd⟩
                          obtain ⟨F2, hk2, -, -⟩ := HK1.out.done hd L t (at_) rfl HK1.out.txt_ HK1.out.psh (HK1.out.le)
                          have HK2 := Lib.hid hk2
                          clear hd hk2 HK1 HC HB HLN
                          go_wp2_with fail
                          go_meet
                          case rel => exact ⟨t, at_, p, en, F2, L, rfl, by go_num, rfl, by omega, by omega, HK2⟩
                    · by_cases hav : m ≤ t.size - at_
                      · as_aux_lemma =>
                          have hv : peekV (L.drop at_) m = 0 := by unfold peekV; rw [if_neg (by omega)]
                          have d8 : decide ((m : Int) ≤ 32) = false := by simp; omega
                          have hm1 : (1 : Int) ≤ (m : Int) := by omega
                          have hc : skipCode (L.drop at_) (m : Nat) = 0 := by unfold skipCode; rw [if_neg (by omega), if_neg (by rw [HK0.out.len]; omega)]
                          have hb : skipBits (L.drop at_) (m : Nat) = L.drop (at_ + m) := by unfold skipBits; rw [if_neg (by omega), if_neg (by rw [HK0.out.len]; omega), List.drop_drop]; congr 1
                          have hle2 : ¬ (m : Int) > (t.size : Int) - (at_ : Int) := by omega
                          have HC := Lib.hid hc
                          have HB := Lib.hid hb
                          have HV := Lib.hid hv
                          have HLN : Hid ((L.drop at_).length ≤ 10000000000) := Lib.hid (by rw [HK0.out.len]; omega)
                          clear hc hb hv
                          go_wp2_with fail
                          refine (peek_any m _ _ p F _ en X HK0.out.kept.feed).mono ?_
                          rw [HV.out]
                          rintro e w' ⟨rfl, kk, rfl⟩
                          have HK1 := Lib.hid (HK0.out.drewN kk)
                          have e1b : (X.drewN kk).cell? ⟨wr.heap.size, 1, none⟩ = some (.int .i64 (m : Int)) := HBL.out.cell 1
                          generalize X.drewN kk = w4 at *
                          clear HV
                          go_wp2_with fail
                          refine (skip_any m _ _ p F _ en w4 HK1.out.kept.feed HLN.out).mono ?_
                          rw [HC.out, HB.out]
                          rintro e w2 ⟨rfl, hd⟩
                          obtain ⟨F2, hk2, -, -⟩ := HK1.out.done hd L t (at_ + m) rfl HK1.out.txt_ HK1.out.psh (by have := HK1.out.size; omega)
                          have HK2 := Lib.hid hk2
                          clear hd hk2 HK1 HC HB HLN
                          go_wp2_with fail
                          go_meet
                          case rel => exact ⟨t, at_ + m, p, en, F2, L, rfl, by go_num, rfl, by omega, by omega, HK2⟩
                      · as_aux_lemma =>
                          have hv : peekV (L.drop at_) m = 0 := by unfold peekV; rw [if_neg (by omega)]
                          have d8 : decide ((m : Int) ≤ 32) = false := by simp; omega
                          have hm1 : (1 : Int) ≤ (m : Int) := by omega
                          have hc : skipCode (L.drop at_) (m : Nat) = 5 := by unfold skipCode; rw [if_neg (by omega), if_pos (by rw [HK0.out.len]; omega)]
                          have hb : skipBits (L.drop at_) (m : Nat) = L.drop at_ := by unfold skipBits; rw [if_neg (by omega), if_pos (by rw [HK0.out.len]; omega)]
                          have hle2 : (m : Int) > (t.size : Int) - (at_ : Int) := by omega
                          have HC := Lib.hid hc
                          have HB := Lib.hid hb
                          have HV := Lib.hid hv
                          have HLN : Hid ((L.drop at_).length ≤ 10000000000) := Lib.hid (by rw [HK0.out.len]; omega)
                          clear hc hb hv
                          go_wp2_with fail
                          refine (peek_any m _ _ p F _ en X HK0.out.kept.feed).mono ?_
                          rw [HV.out]
                          rintro e w' ⟨rfl, kk, rfl⟩
                          have HK1 := Lib.hid (HK0.out.drewN kk)
                          have e1b : (X.drewN kk).cell? ⟨wr.heap.size, 1, none⟩ = some (.int .i64 (m : Int)) := HBL.out.cell 1
                          generalize X.drewN kk = w4 at *
                          clear HV
                          go_wp2_with fail
                          refine (skip_any m _ _ p F _ en w4 HK1.out.kept.feed HLN.out).mono ?_
                          rw [HC.out, HB.out]
                          rintro e w2 ⟨rfl, hd⟩
                          obtain ⟨F2, hk2, -, -⟩ := HK1.out.done hd L t (at_) rfl HK1.out.txt_ HK1.out.psh (HK1.out.le)
                          have HK2 := Lib.hid hk2
                          clear hd hk2 HK1 HC HB HLN
                          go_wp2_with fail
                          go_meet
                          case rel => exact ⟨t, at_, p, en, F2, L, rfl, by go_num, rfl, by omega, by omega, HK2⟩
            · as_aux_lemma =>
                obtain ⟨N, hN, hN2⟩ : ∃ N : Nat, ((at_ : Int) + 7) / 8 * 8 = (N : Int) ∧ N = (at_ + 7) / 8 * 8 := ⟨(at_ + 7) / 8 * 8, by omega, rfl⟩
                have hNt : N ≤ t.size := by have := HK0.out.size; have := HK0.out.psh; omega
                have HN := Lib.hid hN2
                clear hN2
                go_wp2_with fail
                refine (align_any _ _ p F _ en X HK0.out.kept.feed (by have := HK0.out.len; omega)).mono ?_
                rintro e w2 ⟨rfl, hd⟩
                obtain ⟨F2, hk2, ho2, -⟩ := HK0.out.done hd (L) (t) (N) (by rw [List.drop_drop]; congr 1; rw [List.length_drop]; have := HK0.out.psh; have := HK0.out.le; have := HN.out; omega) (HK0.out.txt_) (HK0.out.psh) (by have := HK0.out.size; omega)
                have HK2 := Lib.hid hk2
                clear hd hk2
                clear ho2
                go_wp2_with fail
                go_meet
                case rel => exact ⟨t, N, p, en, F2, L, rfl, by go_num, rfl, by omega, by omega, HK2⟩
            · as_aux_lemma =>
                have e1a : X.cell? ⟨wr.heap.size, 1, none⟩ = some (.int .i64 n) := HBL.out.cell 1
                by_cases hn : n < 0
                · as_aux_lemma =>
                    have hsz := HK0.out.size
                    have hps := HK0.out.psh
                    have hc : takeCode (L.drop at_) n = 1 := if_pos hn
                    have hq : takeBytes (L.drop at_) n = [] := if_pos hn
                    have hb : takeBits (L.drop at_) n = L.drop at_ := if_pos hn
                    have HC := Lib.hid hc
                    have HQ := Lib.hid hq
                    have HB := Lib.hid hb
                    have HLE : Hid (at_ ≤ L.length) := Lib.hid (HK0.out.le)
                    clear hc hq hb hsz hps
                    go_wp2_with fail
                    refine (take_any n _ _ p F _ en X HK0.out.kept.feed (by rw [HK0.out.len]; omega)).mono ?_
                    rintro e w2 ⟨a5, c5, l5, rfl, hby5, hb5, hd⟩
                    rw [HC.out]
                    rw [HQ.out] at hb5
                    rw [HB.out] at hd
                    obtain ⟨F2, hk2, ho2, -⟩ := HK0.out.done hd L t (at_) rfl HK0.out.txt_ HK0.out.psh HLE.out
                    have HK2 := Lib.hid hk2
                    have HBL2 := Lib.hid (ho2.blk HBL.out HNE.out)
                    have e1b : w2.cell? ⟨wr.heap.size, 1, none⟩ = some (.int .i64 n) := HBL2.out.cell 1
                    obtain rfl := nil_of_bits hb5
                    have k5 := conv hby5
                    clear hd hk2 ho2 hb5 hby5
                    simp only [List.length_nil] at k5 ⊢
                    go_wp2_with fail
                    go_meet
                    case rel => exact ⟨t, at_, p, en, F2, L, rfl, by go_num, rfl, by omega, by omega, HK2⟩
                · obtain ⟨m, rfl⟩ : ∃ m : Nat, n = (m : Int) := ⟨n.toNat, by omega⟩
                  clear hn
                  by_cases hav : (t.size - (at_ + 7) / 8 * 8) / 8 < m
                  · as_aux_lemma =>
                      have hsz := HK0.out.size
                      have hps := HK0.out.psh
                      obtain ⟨N, hN, hN2⟩ : ∃ N : Nat, ((at_ : Int) + 7) / 8 * 8 = (N : Int) ∧ N = (at_ + 7) / 8 * 8 := ⟨(at_ + 7) / 8 * 8, by omega, rfl⟩
                      have hNt : N ≤ t.size := by omega
                      have hdr : (L.drop at_).drop ((L.drop at_).length % 8) = L.drop N := by rw [List.drop_drop, HK0.out.len]; congr 1; omega
                      have hl8 : (L.drop at_).length / 8 = (t.size - N) / 8 := by rw [HK0.out.len]; omega
                      have hc : takeCode (L.drop at_) (m : Nat) = 5 := by unfold takeCode; rw [if_neg (by omega), if_pos (by rw [hl8]; omega)]
                      have hq : takeBytes (L.drop at_) (m : Nat) = [] := by unfold takeBytes; rw [if_neg (by omega), if_pos (by rw [hl8]; omega)]
                      have hb : takeBits (L.drop at_) (m : Nat) = L.drop N := by unfold takeBits; rw [if_neg (by omega), if_pos (by rw [hl8]; omega), hdr]
                      have hgt : (m : Int) > ((t.size : Int) - (N : Int)) / 8 := by omega
                      have HC := Lib.hid hc
                      have HQ := Lib.hid hq
                      have HB := Lib.hid hb
                      have HLE : Hid (N ≤ L.length) := Lib.hid (by omega)
                      clear hc hq hb hsz hps hN2 hdr hl8
                      go_wp2_with fail
                      refine (take_any m _ _ p F _ en X HK0.out.kept.feed (by rw [HK0.out.len]; omega)).mono ?_
                      rintro e w2 ⟨a5, c5, l5, rfl, hby5, hb5, hd⟩
                      rw [HC.out]
                      rw [HQ.out] at hb5
                      rw [HB.out] at hd
                      obtain ⟨F2, hk2, ho2, -⟩ := HK0.out.done hd L t (N) rfl HK0.out.txt_ HK0.out.psh HLE.out
                      have HK2 := Lib.hid hk2
                      have HBL2 := Lib.hid (ho2.blk HBL.out HNE.out)
                      have e1b : w2.cell? ⟨wr.heap.size, 1, none⟩ = some (.int .i64 (m : Int)) := HBL2.out.cell 1
                      obtain rfl := nil_of_bits hb5
                      have k5 := conv hby5
                      clear hd hk2 ho2 hb5 hby5
                      simp only [List.length_nil] at k5 ⊢
                      go_wp2_with fail
                      go_meet
                      case rel => exact ⟨t, N, p, en, F2, L, rfl, by go_num, rfl, by omega, by omega, HK2⟩
                  · as_aux_lemma =>
                      have hsz := HK0.out.size
                      have hps := HK0.out.psh
                      obtain ⟨N, hN, hN2⟩ : ∃ N : Nat, ((at_ : Int) + 7) / 8 * 8 = (N : Int) ∧ N = (at_ + 7) / 8 * 8 := ⟨(at_ + 7) / 8 * 8, by omega, rfl⟩
                      have hNt : N ≤ t.size := by omega
                      have hdr : (L.drop at_).drop ((L.drop at_).length % 8) = L.drop N := by rw [List.drop_drop, HK0.out.len]; congr 1; omega
                      have hl8 : (L.drop at_).length / 8 = (t.size - N) / 8 := by rw [HK0.out.len]; omega
                      obtain ⟨Q, hQ⟩ : ∃ Q, Q = (L.drop N).take (8 * m) := ⟨_, rfl⟩
                      have hc : takeCode (L.drop at_) (m : Nat) = 0 := by unfold takeCode; rw [if_neg (by omega), if_neg (by rw [hl8]; omega)]
                      have hq : takeBytes (L.drop at_) (m : Nat) = Q := by unfold takeBytes; rw [if_neg (by omega), if_neg (by rw [hl8]; omega), hdr, hQ]; rfl
                      have hb : takeBits (L.drop at_) (m : Nat) = L.drop (N + 8 * m) := by unfold takeBits; rw [if_neg (by omega), if_neg (by rw [hl8]; omega), hdr, List.drop_drop]; rfl
                      have hgt : ¬ (m : Int) > ((t.size : Int) - (N : Int)) / 8 := by omega
                      have hm8 : N + 8 * m ≤ t.size := by omega
                      have hQl : Q.length = 8 * m := by rw [hQ]; simp; omega
                      have hsub : t.extract N (N + 8 * m) = txt Q := by have := txt_sub L N (N + 8 * m) (by omega); rw [HK0.out.txt_, this, hQ]; congr 2; omega
                      have HRB : Hid (∀ Y, Calls Try.prog 14 #[.string (txt Q)] Y fun e w' => e = .returned (.slice (some ⟨Y.heap.size, 0, none⟩) m m) ∧ Hid (Bytes w' (some ⟨Y.heap.size, 0, none⟩) m m (pack Q)) ∧ Below Y.heap.size Y w') := Lib.hid (fun Y => by
                        have hx := refbytes_any Q Y (by omega)
                        rw [show (Q.length + 7) / 8 = m from by omega] at hx
                        refine hx.mono fun e w' ⟨h1, h2, h3⟩ => ⟨h1, Lib.hid ?_, h3⟩
                        obtain ⟨a', c', heq, hby⟩ := h2.out.bytes
                        rw [pack_len, show (Q.length + 7) / 8 = m from by omega] at heq hby
                        simp only [Value.slice.injEq, true_and] at heq
                        obtain ⟨rfl, rfl⟩ := heq
                        exact hby)
                      have HSUB := Lib.hid hsub
                      have hn1 : (0 : Int) ≤ (N : Int) := by omega
                      have hn2 : (N : Int) ≤ (N : Int) + 8 * (m : Int) := by omega
                      have hn3 : (N : Int) + 8 * (m : Int) ≤ (t.size : Int) := by omega
                      have HQL := Lib.hid hQl
                      have HC := Lib.hid hc
                      have HQ := Lib.hid hq
                      have HB := Lib.hid hb
                      have HLE : Hid (N + 8 * m ≤ L.length) := Lib.hid (by omega)
                      clear hc hq hb hsz hps hN2 hdr hl8 hQ hQl hsub
                      go_wp2_with fail
                      refine (take_any m _ _ p F _ en X HK0.out.kept.feed (by rw [HK0.out.len]; omega)).mono ?_
                      rintro e w2 ⟨a5, c5, l5, rfl, hby5, hb5, hd⟩
                      rw [HC.out]
                      rw [HQ.out] at hb5
                      rw [HB.out] at hd
                      obtain ⟨F2, hk2, ho2, -⟩ := HK0.out.done hd L t (N + 8 * m) rfl HK0.out.txt_ HK0.out.psh HLE.out
                      have HK2 := Lib.hid hk2
                      have HBL2 := Lib.hid (ho2.blk HBL.out HNE.out)
                      have e1b : w2.cell? ⟨wr.heap.size, 1, none⟩ = some (.int .i64 (m : Int)) := HBL2.out.cell 1
                      obtain rfl := pack_of_bits hb5
                      have hpl : (pack Q).length = m := by rw [pack_len, HQL.out]; omega
                      rw [hpl] at hby5 ⊢
                      have HBY5 := Lib.hid hby5
                      clear hd hk2 ho2 hb5 hby5 hpl
                      go_wp2_with fail
                      rw [HSUB.out]
                      refine (HRB.out w2).mono ?_
                      rintro e w3 ⟨rfl, hby3, hb3⟩
                      have HK3 := Lib.hid (HK2.out.later hb3)
                      have e1c : w3.cell? ⟨wr.heap.size, 1, none⟩ = some (.int .i64 (m : Int)) := (HBL2.out.same (hb3.block _ HBL2.out.lt)).cell 1
                      have k3 := conv hby3.out
                      have k5 := conv (HBY5.out.below (Nat.le_refl _) hb3)
                      clear hb3 hby3 HBL2 HK2
                      go_wp2_with fail
                      go_meet
                      case rel => exact ⟨t, N + 8 * m, p, en, F2, L, rfl, by go_num, rfl, by omega, by omega, HK3⟩
            · as_aux_lemma =>
                go_wp2_with fail
                refine (end_any _ _ p F _ en X HK0.out.kept.feed).mono ?_
                rintro e w2 ⟨rfl, hd⟩
                obtain ⟨F2, hk2, ho2, -⟩ := HK0.out.done hd (L) (t) (at_) (rfl) (HK0.out.txt_) (HK0.out.psh) (HK0.out.le)
                have HK2 := Lib.hid hk2
                clear hd hk2
                clear ho2
                go_wp2_with fail
                go_meet
                case rel => exact ⟨t, at_, p, true, F2, L, rfl, by go_num, rfl, by omega, by omega, HK2⟩
          case rest =>
            obtain ⟨t2, at2, p2, en2, F2, L2, rfl, rfl, rfl, hts2, hat2, HK2⟩ := hcut
            as_aux_lemma =>
              go_wp2_with fail
              refine (bits_k HK2 (by omega)).mono ?_
              rintro e w3 ⟨rfl, HK3, -⟩
              clear HK2
              go_wp2_with fail
              refine (used_k HK3 (by omega)).mono ?_
              rintro e w4 ⟨rfl, HK4, -⟩
              clear HK3
              go_wp2_with fail
              refine (ended_k HK4).mono ?_
              rintro e w' ⟨rfl, rfl⟩
              go_wp2_with fail
              refine (held_k HK4 (by omega)).mono ?_
              rintro e w5 ⟨x, rfl, hx, hx2, HK5, -⟩
              clear HK4
              go_wp2_with fail
              refine (held_k HK5 (by omega)).mono ?_
              rintro e w6 ⟨y, rfl, hy, hy2, HK6, -⟩
              clear HK5
              go_wp2_with fail
              go_roundw
              case rel => exact ⟨k + 1, t2, at2, p2, en2, F2, L2, by omega, by omega, by go_num, rfl, by go_num, rfl, by omega, by omega, HK6⟩
              case measure => simp [intOf]; omega
        · have hb20 : (20 : Int) < (bl : Int) := by omega
          go_wp2_with fail
          refine (told_any _).mono ?_
          rintro e w2 ⟨rfl, hb2⟩
          have HB2 : Hid (Below w.heap.size w w2) := Lib.hid ((HL.out.kept.below.alloc HL.out.kept.below.size _).trans (hb2.mono (by have := HL.out.kept.below.size; simp; omega)))
          clear hb2
          go_wp2_with fail
          go_ret
          exact ⟨rfl, HB2.out⟩
      · obtain rfl : k = 60 := by omega
        clear HAT
        go_wp2_with fail
        refine (told_any _).mono ?_
        rintro e w2 ⟨rfl, hb2⟩
        have HB2 : Hid (Below w.heap.size w w2) := Lib.hid (HL.out.kept.below.trans (hb2.mono HL.out.kept.below.size))
        clear hb2
        go_wp2_with fail
        go_ret
        exact ⟨rfl, HB2.out⟩
    · obtain rfl : k = len := by omega
      clear HAT
      go_wp2_with fail
      refine (told_any _).mono ?_
      rintro e w2 ⟨rfl, hb2⟩
      have HB2 : Hid (Below w.heap.size w w2) := Lib.hid (HL.out.kept.below.trans (hb2.mono HL.out.kept.below.size))
      clear hb2
      go_wp2_with fail
      go_ret
      exact ⟨rfl, HB2.out⟩
end Go.Proofs.Ytihcebpkbkgmcaa.FeedC
