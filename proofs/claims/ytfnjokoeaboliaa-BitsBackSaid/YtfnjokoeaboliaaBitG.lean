import Derived.Test.YtfnjokoeaboliaaBitT
import Derived.Test.YtfnjokoeaboliaaBitB
import Derived.Test.YtfnjokoeaboliaaBitO
namespace Go.Proofs.Ytfnjokoeaboliaa.BitC
open Go.RowKit Go.My BitMath

theorem Rd.apart {B g at_ g7 : Nat} {w w' : World} {l : List UInt8} (h : Rd B w g l at_) (hk : Only (fun k => g7 = k) w w') (hg : g7 < B) : Rd B w' g l at_ := by
  obtain ⟨⟨a, c, hb, ho⟩, h2, h3⟩ := h
  exact ⟨⟨a, c, hk.blk hb (fun e => by omega), hk.own ho (fun k hk' e => by have := (World.ownsRow.lt ho k hk').1; omega)⟩, h2, h3⟩

/-- What the loops of BitsReads keep. -/
structure Reads (w : World) (B g : Nat) (lb : List UInt8) (wr : World) (at_ : Nat) : Prop where
  rd : Rd B wr g lb at_
  below : Below w.heap.size w wr
  base : w.heap.size ≤ B
theorem Reads.later {w wr w2 : World} {B g at_ : Nat} {lb : List UInt8} (h : Reads w B g lb wr at_) (hb : Below wr.heap.size wr w2) : Reads w B g lb w2 at_ :=
  ⟨h.rd.below hb, h.below.trans (hb.mono h.below.size), h.base⟩
theorem Reads.read {w wr w2 : World} {B g at_ at2 : Nat} {lb : List UInt8} (h : Reads w B g lb wr at_) (hr : Rd B w2 g lb at2) (ho : Only (fun k => g = k) wr w2) : Reads w B g lb w2 at2 :=
  ⟨hr, h.below.trans (ho.below h.below.size (fun k hk => by have := h.rd.base; have := h.base; omega)), h.base⟩

theorem txt_sub (L : List Bool) (i n : Nat) : (txt L).extract i (i + n) = txt ((L.drop i).take n) := by
  apply ByteArray.ext
  rw [ByteArray.data_extract]
  unfold txt
  apply Array.ext'
  simp [List.extract_eq_take_drop, List.map_take, List.map_drop]

set_option maxRecDepth 100000 in
set_option maxHeartbeats 40000000 in
theorem reads_law (ab : Option Addr) (lenb capb : Nat) (lb : List UInt8) (a : Option Addr) (len cap : Nat) (f : Nat → OpV) (w : World) (hb : Bytes w ab lenb capb lb) (h : OpsIn w a len cap f) :
    Calls Try.prog 4 #[.slice ab lenb capb, .slice a len cap] w fun e w' => e = .returned (.bool true) ∧ Below w.heap.size w w' := by
  obtain ⟨hlc, hcm, hat⟩ := h
  have HAT := Lib.hid hat
  have HBY := Lib.hid hb
  have HLB := Lib.hid hb.len_eq
  have hlcb := hb.le_cap
  have hcmb := hb.cap_le
  clear hat hb
  by_cases h60 : lenb ≤ 60
  · have h60i : (lenb : Int) ≤ 60 := by omega
    go_enter Try.func4, Try.ntmps4
    go_wp2_with (at_builtin; refine wpList_append_lie (by rfl) (.tmp 20) (.tmp 21) 26 rfl w.heap.size 5 Try.underlying26 info5 (.slice (some ⟨w.heap.size, 0, none⟩) 0 0) [] rfl (Own.empty 5 w (Nat.le_refl _)) ab lenb capb lb rfl (HBY.out.below (Nat.le_refl _) ((Below.refl _ w).alloc (Nat.le_refl _) _)) (by simp; omega) (by simp) ?_)
    intro a7 c7 w1 hown hgrow _
    have HO : Hid (Own 5 w.heap.size w1 (.slice a7 lenb c7) lb) := Lib.hid (by simpa using hown)
    have HB1 : Hid (Below w.heap.size w w1) := Lib.hid (grown_below (Own.empty 5 w (Nat.le_refl _)) ((Below.refl _ _).alloc (Nat.le_refl _) _) hgrow (by simp))
    have HBX : Hid (Bytes w1 a7 lenb c7 lb) := Lib.hid (by
      obtain ⟨ax, cx, hax, hbyx⟩ := HO.out.bytes
      rw [HLB.out] at hax hbyx
      simp only [Value.slice.injEq, true_and] at hax
      obtain ⟨rfl, rfl⟩ := hax
      exact hbyx)
    clear hown hgrow
    go_wp2_with fail
    refine (new_reader a7 lenb c7 lb w1 HBX.out (by omega)).mono ?_
    rintro e w2 ⟨g, rfl, hr2, hb2⟩
    have HR2 : Hid (Reads w w1.heap.size g lb w2 0) := Lib.hid ⟨hr2, HB1.out.trans (hb2.mono HB1.out.size), HB1.out.size⟩
    have HO2 := Lib.hid (HO.out.below (Nat.le_refl _) hb2)
    have HA7 : Hid (∀ g7, a7 = some ⟨g7, 0, none⟩ → w.heap.size ≤ g7 ∧ g7 < w1.heap.size) := Lib.hid (fun g7 hg => World.ownsRow.lt HO.out g7 (by rw [hg]; rfl))
    clear hr2 hb2 HO HB1 HBX
    generalize w1.heap.size = B at *
    go_wp2_with fail
    go_loopw [7] (fun i wr => ∃ (j : Nat) (lst : List UInt8), j ≤ lenb ∧ i = .int .i64 (j : Int) ∧ Hid (lst.length = lenb) ∧ Hid (Own 5 w.heap.size wr (.slice a7 lenb c7) lst) ∧ Hid (Reads w B g lb wr 0)) (fun i _ => lenb - (intOf i).toNat)
    case atStart => exact ⟨0, lb, Nat.zero_le _, rfl, HLB, HO2, HR2⟩
    case round =>
      clear HO2 HR2
      obtain ⟨j, lst, hj, rfl, HLS, HOx, HRx⟩ := hrel
      by_cases hjl : j < lenb
      · obtain ⟨g7, cc, hv7, _⟩ := HOx.out.some_ (by have := HLS.out; omega)
        simp only [Value.slice.injEq] at hv7
        obtain ⟨rfl, -, -⟩ := hv7
        have hjs : j < lst.length := by have := HLS.out; omega
        have hcell := own_cell HOx.out HLS.out j hjs
        have hfree := own_free HOx.out HLS.out j
        generalize lst[j] = y at hcell
        unfold bv at hcell
        have hy : (y.toNat : Int) < 256 := by have := y.toNat_lt; omega
        have ho' := own_store HOx.out HLS.out j (UInt8.ofNat (y.toNat + 1))
        unfold bv at ho'
        rw [UInt8.toNat_ofNat', show (((y.toNat + 1) % 2 ^ 8 : Nat) : Int) = ((y.toNat : Int) + 1) % 256 from by omega] at ho'
        have HO' := Lib.hid ho'
        have hon : Only (fun k => g7 = k) wr _ := (Only.refl _ wr).setCell (p := ⟨g7, j, none⟩) (fun _ => rfl) (.int .u8 (((y.toNat : Int) + 1) % 256))
        have HR' : Hid (Reads w B g lb (wr.setCell ⟨g7, j, none⟩ (.int .u8 (((y.toNat : Int) + 1) % 256))) 0) := Lib.hid ⟨HRx.out.rd.apart hon (HA7.out g7 rfl).2, HRx.out.below.setCell (p := ⟨g7, j, none⟩) (HA7.out g7 rfl).1 _, HRx.out.base⟩
        clear ho' hon
        go_wp2_with fail
        go_roundw
        case rel => exact ⟨j + 1, lst.set j (UInt8.ofNat (y.toNat + 1)), by omega, by go_num, Lib.hid (by rw [List.length_set]; exact HLS.out), HO', HR'⟩
        case measure => simp [intOf]; omega
      · obtain rfl : j = lenb := by omega
        have HBY2 := Lib.hid (HBY.out.below (Nat.le_refl _) HRx.out.below)
        clear HOx HLS HA7 hjl hj
        go_wp2_with fail
        refine (refof_any ab j capb lb _ HBY2.out (by omega)).mono ?_
        rintro e w3 ⟨rfl, hb3⟩
        have HR3 := Lib.hid (HRx.out.later hb3)
        clear hb3 HRx HBY2
        obtain ⟨s, hs⟩ : ∃ s, s = txt (bitsOf lb) := ⟨_, rfl⟩
        rw [← hs]
        have hsz : s.size = 8 * j := by rw [hs, txt_len, bitsOf_len, HLB.out]
        have hsz2 : s.size ≤ 480 := by omega
        have HSZ := Lib.hid hsz
        have HS := Lib.hid hs
        clear hs hsz
        go_wp2_with fail
        have HAT2 := HAT
        clear HAT HBY h60i h60
        go_loopw [9, 10] (fun av iv wx => ∃ (k at_ : Nat), k ≤ len ∧ k ≤ 40 ∧ iv = .int .i64 (k : Int) ∧ av = .int .i64 (at_ : Int) ∧ at_ ≤ s.size ∧ Hid (Reads w B g lb wx at_)) (fun _ i _ => 40 - (intOf i).toNat)
        case atStart => exact ⟨0, 0, Nat.zero_le _, by omega, rfl, rfl, Nat.zero_le _, HR3⟩
        case round =>
          clear HR3
          obtain ⟨k, at_, hk, hk40, rfl, rfl, has, HR⟩ := hrel
          by_cases hlt : k < len
          · by_cases hlt40 : k < 40
            · obtain ⟨b, off, rfl, ho⟩ : ∃ b off, a = some ⟨b, off, none⟩ ∧ OpAt wr b off k (f k) := by
                rcases HAT2.out with h0 | ⟨b, off, ha, hc⟩
                · omega
                · exact ⟨b, off, ha, (hc k hlt).below (Nat.le_refl _) HR.out.below⟩
              generalize f k = o at ho
              obtain ⟨kind, n, v, ba, bl, bc, l⟩ := o
              obtain ⟨c0, c1, c2, c3, _, hbl, wk, wn, wv⟩ := ho
              simp only at c0 c1 c2 c3 wk wn wv
              obtain ⟨kd, hkd, hkd1, hkd2⟩ := place_in kind 5 (by omega) (by omega) wk.1 wk.2
              have hk1 : (wrap64 (kind.tmod 5 + 5)).tmod 5 = (kd : Int) := hkd1
              have hk2 : (kind.tmod 5 + 5).tmod 5 = (kd : Int) := hkd2
              clear hkd1 hkd2
              have HR0 : Hid (Reads w B g lb (wr.alloc (.cells #[.int .i64 kind, .int .i64 n, .int .u32 (v : Int), .slice ba bl bc] 28)) at_) := Lib.hid (HR.out.later ((Below.refl _ _).alloc (Nat.le_refl _) _))
              have HBL : Hid (Blk (wr.alloc (.cells #[.int .i64 kind, .int .i64 n, .int .u32 (v : Int), .slice ba bl bc] 28)) wr.heap.size 28 #[.int .i64 kind, .int .i64 n, .int .u32 (v : Int), .slice ba bl bc]) := Lib.hid (Blk.new wr _ _)
              have HNE : Hid (¬ g = wr.heap.size) := Lib.hid (by have := HR.out.rd.lt; omega)
              have HLL : Hid (lb.length ≤ 100) := Lib.hid (by rw [HLB.out]; omega)
              by_cases h2 : 2 < kd
              · have h2i : (2 : Int) < (kd : Int) := by omega
                obtain ⟨N, hN, hN2⟩ : ∃ N : Nat, ((at_ : Int) + 7) / 8 * 8 = (N : Int) ∧ N = (at_ + 7) / 8 * 8 := ⟨(at_ + 7) / 8 * 8, by omega, rfl⟩
                have hNs : N ≤ s.size := by have := HSZ.out; omega
                have hra := ralign_any B g at_ lb _ HR0.out.rd (by have := HLL.out; omega)
                rw [← hN2] at hra
                have HRA := Lib.hid hra
                clear hra hN2
                go_wp2_with fail
                refine HRA.out.mono ?_
                rintro e w4 ⟨rfl, hr4, ho4⟩
                have HR4 := Lib.hid (HR0.out.read hr4 ho4)
                clear hr4 ho4
                go_wp2_with fail
                refine (at_any B g N lb w4 HR4.out.rd).mono ?_
                rintro e w' ⟨rfl, rfl⟩
                go_wp2_with fail
                go_roundw
                case rel => exact ⟨k + 1, N, by omega, by omega, by go_num, rfl, hNs, HR4⟩
                case measure => simp [intOf]; omega
              · have h2i : ¬ (2 : Int) < (kd : Int) := by omega
                by_cases hn : n < 0 ∨ 32 < n
                · rcases hn with hn | hn
                  · go_wp2_with fail
                    refine (get_arg g n _ (.inl hn)).mono ?_
                    rintro e w4 ⟨rfl, hw4⟩
                    have HR4 : Hid (Reads w B g lb w4 at_) := Lib.hid (by rw [← hw4]; exact HR0.out)
                    have e1 : w4.cell? ⟨wr.heap.size, 1, none⟩ = some (.int .i64 n) := by rw [← hw4]; exact HBL.out.cell 1
                    clear hw4
                    go_wp2_with fail
                    refine (at_any B g at_ lb w4 HR4.out.rd).mono ?_
                    rintro e w' ⟨rfl, rfl⟩
                    go_wp2_with fail
                    go_roundw
                    case rel => exact ⟨k + 1, at_, by omega, by omega, by go_num, by go_num, by omega, HR4⟩
                    case measure => simp [intOf]; omega
                  · have hn0 : ¬ n < 0 := by omega
                    have hn1 : decide (n > 32) = true := by simpa using hn
                    go_wp2_with fail
                    refine (get_arg g n _ (.inr hn)).mono ?_
                    rintro e w4 ⟨rfl, hw4⟩
                    have HR4 : Hid (Reads w B g lb w4 at_) := Lib.hid (by rw [← hw4]; exact HR0.out)
                    have e1 : w4.cell? ⟨wr.heap.size, 1, none⟩ = some (.int .i64 n) := by rw [← hw4]; exact HBL.out.cell 1
                    clear hw4
                    go_wp2_with fail
                    refine (at_any B g at_ lb w4 HR4.out.rd).mono ?_
                    rintro e w' ⟨rfl, rfl⟩
                    go_wp2_with fail
                    go_roundw
                    case rel => exact ⟨k + 1, at_, by omega, by omega, by go_num, by go_num, by omega, HR4⟩
                    case measure => simp [intOf]; omega
                · obtain ⟨m, rfl⟩ : ∃ m : Nat, n = (m : Int) := ⟨n.toNat, by omega⟩
                  have hm : m ≤ 32 := by omega
                  have d0 : decide ((m : Int) < 0) = false := by simp
                  have d8 : decide ((m : Int) > 32) = false := by simp; omega
                  clear hn
                  by_cases hs : s.size - at_ < m
                  · have hsi : (m : Int) > (s.size : Int) - (at_ : Int) := by omega
                    have HG := Lib.hid (get_short B g at_ lb _ HR0.out.rd (by have := HLL.out; omega) m hm (by have := HSZ.out; have := HLB.out; omega))
                    go_wp2_with fail
                    refine HG.out.mono ?_
                    rintro e w4 ⟨rfl, hr4, ho4⟩
                    have HR4 := Lib.hid (HR0.out.read hr4 ho4)
                    have hb4 := ho4.blk HBL.out HNE.out
                    have e1 : w4.cell? ⟨wr.heap.size, 1, none⟩ = some (.int .i64 (m : Int)) := hb4.cell 1
                    clear hr4 ho4 hb4
                    go_wp2_with fail
                    refine (at_any B g at_ lb w4 HR4.out.rd).mono ?_
                    rintro e w' ⟨rfl, rfl⟩
                    go_wp2_with fail
                    go_roundw
                    case rel => exact ⟨k + 1, at_, by omega, by omega, by go_num, by go_num, by omega, HR4⟩
                    case measure => simp [intOf]; omega
                  · have hsi : ¬ (m : Int) > (s.size : Int) - (at_ : Int) := by omega
                    have HG := Lib.hid (get_any B g at_ lb _ HR0.out.rd (by have := HLL.out; omega) m hm (by have := HSZ.out; have := HLB.out; omega))
                    have hgl : (got lb at_ m).length = m := got_len lb at_ m (by have := HSZ.out; have := HLB.out; omega)
                    have HX : Hid (s.extract at_ (at_ + m) = txt (got lb at_ m)) := Lib.hid (by rw [HS.out, txt_sub]; rfl)
                    have HN := Lib.hid (fun X => refnumber_any (got lb at_ m) X (by omega))
                    clear hgl
                    have hb1 : (0 : Int) ≤ (at_ : Int) := by omega
                    have hb2 : (at_ : Int) ≤ (at_ : Int) + (m : Int) := by omega
                    have hb3 : (at_ : Int) + (m : Int) ≤ (s.size : Int) := by omega
                    go_wp2_with fail
                    refine HG.out.mono ?_
                    rintro e w4 ⟨rfl, hr4, ho4⟩
                    have HR4 := Lib.hid (HR0.out.read hr4 ho4)
                    have hb4 := ho4.blk HBL.out HNE.out
                    have e1 : w4.cell? ⟨wr.heap.size, 1, none⟩ = some (.int .i64 (m : Int)) := hb4.cell 1
                    clear hr4 ho4 hb4
                    generalize num (got lb at_ m) = x at *
                    go_wp2_with fail
                    rw [HX.out]
                    refine (HN.out w4).mono ?_
                    rintro e w' ⟨rfl, rfl⟩
                    go_wp2_with fail
                    refine (at_any B g (at_ + m) lb w4 HR4.out.rd).mono ?_
                    rintro e w' ⟨rfl, rfl⟩
                    go_wp2_with fail
                    go_roundw
                    case rel => exact ⟨k + 1, at_ + m, by omega, by omega, by go_num, by go_num, by omega, HR4⟩
                    case measure => simp [intOf]; omega
            · obtain rfl : k = 40 := by omega
              clear HAT2
              go_wp2_with fail
              refine (told_any _).mono ?_
              rintro e w4 ⟨rfl, hb4⟩
              have HB4 : Hid (Below w.heap.size w w4) := Lib.hid (HR.out.below.trans (hb4.mono HR.out.below.size))
              clear hb4
              go_wp2_with fail
              go_ret
              exact ⟨rfl, HB4.out⟩
          · obtain rfl : k = len := by omega
            clear HAT2
            go_wp2_with fail
            refine (told_any _).mono ?_
            rintro e w4 ⟨rfl, hb4⟩
            have HB4 : Hid (Below w.heap.size w w4) := Lib.hid (HR.out.below.trans (hb4.mono HR.out.below.size))
            clear hb4
            go_wp2_with fail
            go_ret
            exact ⟨rfl, HB4.out⟩
  · have h60i : (60 : Int) < (lenb : Int) := by omega
    go_enter Try.func4, Try.ntmps4
    go_wp2_with fail
    refine (told_any w).mono ?_
    rintro e w2 ⟨rfl, hb2⟩
    have HB2 := Lib.hid hb2
    clear hb2
    go_wp2_with fail
    go_ret
    exact ⟨rfl, HB2.out⟩
end Go.Proofs.Ytfnjokoeaboliaa.BitC
