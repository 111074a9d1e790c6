import Derived.Test.YtfnjokoeaboliaaBitT
import Derived.Test.YtfnjokoeaboliaaBitB
import Derived.Test.YtfnjokoeaboliaaBitO
import Derived.Test.YtfnjokoeaboliaaLater
import Derived.Deep.RegionLaw
namespace Go.Proofs.Ytfnjokoeaboliaa.BitC
open Go.RowKit Go.My BitMath

/-- What the loop of BitsWrites keeps. -/
structure Kept (w : World) (wr : World) (r : Option Nat) (bs : List Bool) : Prop where
  writer : Wr w.heap.size wr w.heap.size r bs
  below : Below w.heap.size w wr

theorem Kept.later {w wr w2 : World} {r : Option Nat} {bs : List Bool} (h : Kept w wr r bs) (hb : Below wr.heap.size wr w2) : Kept w w2 r bs :=
  ⟨h.writer.below hb, h.below.trans (hb.mono h.below.size)⟩

/-! ### any number of bits -/
def lowsI (n : Int) (v : Nat) : List Bool := if 1 ≤ n ∧ n ≤ 32 then lows n.toNat v else []
theorem lowsI_len (n : Int) (v : Nat) : (lowsI n v).length ≤ 32 := by
  unfold lowsI; split
  · rw [lows_len]; omega
  · simp
theorem put_all (v : Nat) (n : Int) (B g : Nat) (r : Option Nat) (bs : List Bool) (w : World) (hv : v < 4294967296) (hw : Wr B w g r bs) (hl : bs.length ≤ 100000000000) :
    Calls Try.prog 9 #[.pointer (some ⟨g, 0, none⟩), .int .u32 (v : Int), .int .i64 n] w (Wrote B g r w (bs ++ lowsI n v)) := by
  by_cases h : 1 ≤ n ∧ n ≤ 32
  · obtain ⟨m, rfl⟩ : ∃ m : Nat, n = (m : Int) := ⟨n.toNat, by omega⟩
    rw [lowsI, if_pos h, Int.toNat_natCast]
    exact put_any v m B g r bs w hv (by omega) (by omega) hw hl
  · rw [lowsI, if_neg h, List.append_nil]
    exact (put_no _ n g w (by omega)).mono fun e w' ⟨he, hw'⟩ => by subst hw'; exact ⟨r, he, hw, Only.refl _ _, Nxt.refl _ _⟩
theorem code_all (v : Nat) (n : Int) (B g : Nat) (r : Option Nat) (bs : List Bool) (w : World) (hv : v < 4294967296) (hw : Wr B w g r bs) (hl : bs.length ≤ 100000000000) :
    Calls Try.prog 11 #[.pointer (some ⟨g, 0, none⟩), .int .u32 (v : Int), .int .i64 n] w (Wrote B g r w (bs ++ (lowsI n v).reverse)) := by
  by_cases h : 1 ≤ n ∧ n ≤ 32
  · obtain ⟨m, rfl⟩ : ∃ m : Nat, n = (m : Int) := ⟨n.toNat, by omega⟩
    rw [lowsI, if_pos h, Int.toNat_natCast]
    exact code_any v m B g r bs w hv (by omega) (by omega) hw hl
  · rw [lowsI, if_neg h, List.reverse_nil, List.append_nil]
    exact (code_no _ n g w (by omega)).mono fun e w' ⟨he, hw'⟩ => by subst hw'; exact ⟨r, he, hw, Only.refl _ _, Nxt.refl _ _⟩
theorem refput_all (v : Nat) (n : Int) (w : World) (hv : v < 4294967296) :
    Calls Try.prog 10 #[.int .u32 (v : Int), .int .i64 n] w fun e w' => e = .returned (.string (txt (lowsI n v))) ∧ w = w' := by
  by_cases h : 1 ≤ n ∧ n ≤ 32
  · obtain ⟨m, rfl⟩ : ∃ m : Nat, n = (m : Int) := ⟨n.toNat, by omega⟩
    rw [lowsI, if_pos h, Int.toNat_natCast]
    exact refput_any v m w (by omega) (by omega) hv
  · rw [lowsI, if_neg h]
    exact refput_no _ n w (by omega)
theorem refcode_all (v : Nat) (n : Int) (w : World) (hv : v < 4294967296) :
    Calls Try.prog 12 #[.int .u32 (v : Int), .int .i64 n] w fun e w' => e = .returned (.string (txt (lowsI n v).reverse)) ∧ w = w' := by
  by_cases h : 1 ≤ n ∧ n ≤ 32
  · obtain ⟨m, rfl⟩ : ∃ m : Nat, n = (m : Int) := ⟨n.toNat, by omega⟩
    rw [lowsI, if_pos h, Int.toNat_natCast]
    exact refcode_any v m w (by omega) (by omega) hv
  · rw [lowsI, if_neg h]
    exact refcode_no _ n w (by omega)

/-! ### what is asked behind each op -/
theorem len_k {w X : World} {r : Option Nat} {bs : List Bool} {t : ByteArray} (H : Hid (Kept w X r bs)) (ht : Hid (t = txt bs)) (hl : t.size ≤ 100000) :
    Calls Try.prog 17 #[.pointer (some ⟨w.heap.size, 0, none⟩)] X fun e w' => e = .returned (.int .i64 (t.size : Int)) ∧ Hid (Kept w w' r bs) := by
  have hs : t.size = bs.length := by rw [ht.out, txt_len]
  rw [hs]
  exact (len_any _ _ r bs X H.out.writer (by omega)).mono fun e w' ⟨he, n, hw⟩ => by
    subst hw
    exact ⟨he, Lib.hid (H.out.later ⟨rfl, rfl, rfl, Nat.le_refl _, fun _ _ => rfl⟩)⟩
theorem conv {X : World} {ad : Option Addr} {n c : Nat} {l : List UInt8} (h : Bytes X ad n c l) : (convert 26 9 (.slice ad n c)).run Try.prog X = .ok (.string ⟨l.toArray⟩) X :=
  run_string_bytes X 26 9 5 Try.underlying26 Try.underlying5 Try.underlying9 h
theorem bytes_k {w X : World} {r : Option Nat} {bs : List Bool} {t : ByteArray} (H : Hid (Kept w X r bs)) (ht : Hid (t = txt bs)) (hl : t.size ≤ 100000) :
    Calls Try.prog 18 #[.pointer (some ⟨w.heap.size, 0, none⟩)] X fun e w' => ∃ a c, e = .returned (.slice a (pack bs).length c) ∧ Hid (Kept w w' r bs) ∧ Hid (Below X.heap.size X w') ∧
      (convert 26 9 (.slice a (pack bs).length c)).run Try.prog w' = .ok (.string ⟨(pack bs).toArray⟩) w' ∧ Hid (Bytes w' a (pack bs).length c (pack bs)) := by
  have hs : t.size = bs.length := by rw [ht.out, txt_len]
  exact (bytes_any _ _ r bs X H.out.writer (by omega)).mono fun e w' ⟨v, he, ho, hb⟩ => by
    obtain ⟨a, c, rfl, hby⟩ := ho.bytes
    exact ⟨a, c, he, Lib.hid (H.out.later hb), Lib.hid hb, conv hby, Lib.hid hby⟩
theorem refbytes_k {w X : World} {r : Option Nat} {bs : List Bool} {t : ByteArray} (H : Hid (Kept w X r bs)) (ht : Hid (t = txt bs)) (hl : t.size ≤ 100000) :
    Calls Try.prog 19 #[.string t] X fun e w' => ∃ a c, e = .returned (.slice a (pack bs).length c) ∧ Hid (Kept w w' r bs) ∧ Hid (Below X.heap.size X w') ∧
      (convert 26 9 (.slice a (pack bs).length c)).run Try.prog w' = .ok (.string ⟨(pack bs).toArray⟩) w' ∧ Hid (Bytes w' a (pack bs).length c (pack bs)) := by
  have hs : t.size = bs.length := by rw [ht.out, txt_len]
  rw [ht.out]
  exact (refbytes_any bs X (by omega)).mono fun e w' ⟨he, ho, hb⟩ => by
    obtain ⟨a, c, hv, hby⟩ := ho.out.bytes
    rw [← pack_len] at he ho
    rw [← pack_len] at hv
    exact ⟨a, c, by rw [he, hv], Lib.hid (H.out.later hb), Lib.hid hb, conv hby, Lib.hid hby⟩
theorem conv_later {X Y : World} {ad : Option Addr} {n c : Nat} {l : List UInt8} (h : Hid (Bytes X ad n c l)) (hb : Hid (Below X.heap.size X Y)) : (convert 26 9 (.slice ad n c)).run Try.prog Y = .ok (.string ⟨l.toArray⟩) Y :=
  conv (h.out.below (Nat.le_refl _) hb.out)

set_option maxRecDepth 100000 in
set_option maxHeartbeats 40000000 in
theorem writes_law (a : Option Addr) (len cap : Nat) (f : Nat → OpV) (w : World) (h : OpsIn w a len cap f) :
    Calls Try.prog 3 #[.slice a len cap] w fun e w' => e = .returned (.bool true) ∧ Below w.heap.size w w' := by
  obtain ⟨hlc, hcm, hat⟩ := h
  have HAT := Lib.hid hat
  clear hat
  go_enter Try.func3, Try.ntmps3
  go_wp2_with fail
  refine (new_writer w).mono ?_
  rintro e w1 ⟨rfl, hw1⟩
  have HL : Hid (Kept w w1 none []) := Lib.hid (by
    rw [← hw1]
    exact ⟨wr_new w, (Below.refl _ w).alloc (Nat.le_refl _) _⟩)
  clear hw1
  go_wp2_with fail
  go_loopw [4, 5] (fun sv i wr => ∃ (k : Nat) (t : ByteArray) (r : Option Nat) (bs : List Bool), k ≤ len ∧ k ≤ 40 ∧ i = .int .i64 (k : Int) ∧ sv = .string t ∧ t.size ≤ 200 * k ∧ Hid (t = txt bs) ∧ Hid (Kept w wr r bs)) (fun _ i _ => 40 - (intOf i).toNat)
  case atStart => exact ⟨0, _, none, [], Nat.zero_le _, by omega, rfl, rfl, by decide, Lib.hid rfl, HL⟩
  case round =>
    clear HL
    obtain ⟨k, t, r, bs, hk, hk40, rfl, rfl, htl, HT, HL⟩ := hrel
    by_cases hlt : k < len
    · by_cases hlt40 : k < 40
      · obtain ⟨b, off, rfl, ho, hw0⟩ : ∃ b off, a = some ⟨b, off, none⟩ ∧ OpAt wr b off k (f k) ∧ Bytes w (f k).ba (f k).bl (f k).bc (f k).l := by
          rcases HAT.out with h0 | ⟨b, off, ha, hc⟩
          · omega
          · exact ⟨b, off, ha, (hc k hlt).below (Nat.le_refl _) HL.out.below, (hc k hlt).bytes⟩
        generalize f k = o at ho hw0
        obtain ⟨kind, n, v, ba, bl, bc, l⟩ := o
        obtain ⟨c0, c1, c2, c3, hby, hbl, wk, wn, wv⟩ := ho
        simp only at c0 c1 c2 c3 hby wk wn wv
        have HBY := Lib.hid hby
        have HBYW : Hid (Bytes w ba bl bc l) := Lib.hid hw0
        clear hby hw0
        by_cases h20 : bl ≤ 20
        · obtain ⟨kd, hkd, hkd1, hkd2⟩ := place_in kind 5 (by omega) (by omega) wk.1 wk.2
          have hk1 : (wrap64 (kind.tmod 5 + 5)).tmod 5 = (kd : Int) := hkd1
          have hk2 : (kind.tmod 5 + 5).tmod 5 = (kd : Int) := hkd2
          clear hkd1 hkd2
          have HBL : Hid (Blk (wr.alloc (.cells #[.int .i64 kind, .int .i64 n, .int .u32 (v : Int), .slice ba bl bc] 28)) wr.heap.size 28 #[.int .i64 kind, .int .i64 n, .int .u32 (v : Int), .slice ba bl bc]) := Lib.hid (Blk.new wr _ _)
          have HK0 : Hid (Kept w (wr.alloc (.cells #[.int .i64 kind, .int .i64 n, .int .u32 (v : Int), .slice ba bl bc] 28)) r bs) := Lib.hid (HL.out.later ((Below.refl _ _).alloc (Nat.le_refl _) _))
          have HNE : Hid (¬ Fp w.heap.size r wr.heap.size) := Lib.hid (by
            rintro (h | h)
            · have := HL.out.writer.lt; omega
            · have := (HL.out.writer.rlt _ h).2; omega)
          have HLEN : Hid (bs.length ≤ 10000) := Lib.hid (by have := congrArg ByteArray.size HT.out; rw [txt_len] at this; omega)
          obtain rfl | rfl | rfl | rfl | rfl : kd = 0 ∨ kd = 1 ∨ kd = 2 ∨ kd = 3 ∨ kd = 4 := by omega
          · go_wp2_with fail
            refine (put_all v n _ _ r bs _ wv HK0.out.writer (by have := HLEN.out; omega)).mono ?_
            rintro e w2 ⟨r2, rfl, hw2, ho2, _⟩
            have HK3 : Hid (Kept w w2 r2 (bs ++ lowsI n v)) := Lib.hid ⟨hw2, HK0.out.below.trans (ho2.below HK0.out.below.size HK0.out.writer.fp)⟩
            have hb2 := ho2.blk HBL.out HNE.out
            have e0 : w2.cell? ⟨wr.heap.size, 1, none⟩ = some (.int .i64 n) := hb2.cell 1
            have e1 : w2.cell? ⟨wr.heap.size, 2, none⟩ = some (.int .u32 (v : Int)) := hb2.cell 2
            clear hw2 ho2 hb2
            go_wp2_with fail
            refine (refput_all v n w2 wv).mono ?_
            rintro e w' ⟨rfl, rfl⟩
            have hqs : (txt (lowsI n v)).size ≤ 32 := by rw [txt_len]; first | exact lowsI_len n v | (rw [List.length_reverse]; exact lowsI_len n v)
            have hqt : (t ++ txt (lowsI n v)).size ≤ 200 * (k + 1) := by rw [ByteArray.size_append]; omega
            have HT3 : Hid (t ++ txt (lowsI n v) = txt (bs ++ lowsI n v)) := Lib.hid (by rw [HT.out, txt_append])
            generalize txt (lowsI n v) = q at *
            have hsz3 : (t ++ q).size ≤ 100000 := by omega
            have hne3 : (((t ++ q).size : Int) != ((t ++ q).size : Int)) = false := by simp
            obtain ⟨bs3, hbs3⟩ : ∃ x, x = bs ++ lowsI n v := ⟨_, rfl⟩
            rw [← hbs3] at HK3 HT3
            clear hbs3
            go_wp2_with fail
            have HKd : Hid (Kept w w2.drew r2 bs3) := Lib.hid (HK3.out.later (Below.refl _ _).drew)
            go_region_law (go_simp; first
              | (go_at_call 17; refine (len_k (by assumption) HT3 hsz3).mono ?_; rintro e wl ⟨rfl, HKl⟩)
              | (go_at_call 18; refine (bytes_k (by assumption) HT3 hsz3).mono ?_; rintro e wb ⟨ab, cb, rfl, HKb, HBb, kb, HYb⟩; try have kbr := conv_later HYr HBb)
              | (go_at_call 19; refine (refbytes_k (by assumption) HT3 hsz3).mono ?_; rintro e wq ⟨ar, cr, rfl, HKr, HBr, kr, HYr⟩; try have krb := conv_later HYb HBr))
            all_goals
              clear HKd
              go_wp2_with fail
              go_roundw
              case rel => exact ⟨k + 1, _, r2, bs3, by omega, by omega, by go_num, rfl, by assumption, HT3, by assumption⟩
              case measure => simp [intOf]; omega
          · go_wp2_with fail
            refine (put_all v n _ _ r bs _ wv HK0.out.writer (by have := HLEN.out; omega)).mono ?_
            rintro e w2 ⟨r2, rfl, hw2, ho2, _⟩
            have HK3 : Hid (Kept w w2 r2 (bs ++ lowsI n v)) := Lib.hid ⟨hw2, HK0.out.below.trans (ho2.below HK0.out.below.size HK0.out.writer.fp)⟩
            have hb2 := ho2.blk HBL.out HNE.out
            have e0 : w2.cell? ⟨wr.heap.size, 1, none⟩ = some (.int .i64 n) := hb2.cell 1
            have e1 : w2.cell? ⟨wr.heap.size, 2, none⟩ = some (.int .u32 (v : Int)) := hb2.cell 2
            clear hw2 ho2 hb2
            go_wp2_with fail
            refine (refput_all v n w2 wv).mono ?_
            rintro e w' ⟨rfl, rfl⟩
            have hqs : (txt (lowsI n v)).size ≤ 32 := by rw [txt_len]; first | exact lowsI_len n v | (rw [List.length_reverse]; exact lowsI_len n v)
            have hqt : (t ++ txt (lowsI n v)).size ≤ 200 * (k + 1) := by rw [ByteArray.size_append]; omega
            have HT3 : Hid (t ++ txt (lowsI n v) = txt (bs ++ lowsI n v)) := Lib.hid (by rw [HT.out, txt_append])
            generalize txt (lowsI n v) = q at *
            have hsz3 : (t ++ q).size ≤ 100000 := by omega
            have hne3 : (((t ++ q).size : Int) != ((t ++ q).size : Int)) = false := by simp
            obtain ⟨bs3, hbs3⟩ : ∃ x, x = bs ++ lowsI n v := ⟨_, rfl⟩
            rw [← hbs3] at HK3 HT3
            clear hbs3
            go_wp2_with fail
            have HKd : Hid (Kept w w2.drew r2 bs3) := Lib.hid (HK3.out.later (Below.refl _ _).drew)
            go_region_law (go_simp; first
              | (go_at_call 17; refine (len_k (by assumption) HT3 hsz3).mono ?_; rintro e wl ⟨rfl, HKl⟩)
              | (go_at_call 18; refine (bytes_k (by assumption) HT3 hsz3).mono ?_; rintro e wb ⟨ab, cb, rfl, HKb, HBb, kb, HYb⟩; try have kbr := conv_later HYr HBb)
              | (go_at_call 19; refine (refbytes_k (by assumption) HT3 hsz3).mono ?_; rintro e wq ⟨ar, cr, rfl, HKr, HBr, kr, HYr⟩; try have krb := conv_later HYb HBr))
            all_goals
              clear HKd
              go_wp2_with fail
              go_roundw
              case rel => exact ⟨k + 1, _, r2, bs3, by omega, by omega, by go_num, rfl, by assumption, HT3, by assumption⟩
              case measure => simp [intOf]; omega
          · go_wp2_with fail
            refine (code_all v n _ _ r bs _ wv HK0.out.writer (by have := HLEN.out; omega)).mono ?_
            rintro e w2 ⟨r2, rfl, hw2, ho2, _⟩
            have HK3 : Hid (Kept w w2 r2 (bs ++ (lowsI n v).reverse)) := Lib.hid ⟨hw2, HK0.out.below.trans (ho2.below HK0.out.below.size HK0.out.writer.fp)⟩
            have hb2 := ho2.blk HBL.out HNE.out
            have e0 : w2.cell? ⟨wr.heap.size, 1, none⟩ = some (.int .i64 n) := hb2.cell 1
            have e1 : w2.cell? ⟨wr.heap.size, 2, none⟩ = some (.int .u32 (v : Int)) := hb2.cell 2
            clear hw2 ho2 hb2
            go_wp2_with fail
            refine (refcode_all v n w2 wv).mono ?_
            rintro e w' ⟨rfl, rfl⟩
            have hqs : (txt ((lowsI n v).reverse)).size ≤ 32 := by rw [txt_len]; first | exact lowsI_len n v | (rw [List.length_reverse]; exact lowsI_len n v)
            have hqt : (t ++ txt ((lowsI n v).reverse)).size ≤ 200 * (k + 1) := by rw [ByteArray.size_append]; omega
            have HT3 : Hid (t ++ txt ((lowsI n v).reverse) = txt (bs ++ (lowsI n v).reverse)) := Lib.hid (by rw [HT.out, txt_append])
            generalize txt ((lowsI n v).reverse) = q at *
            have hsz3 : (t ++ q).size ≤ 100000 := by omega
            have hne3 : (((t ++ q).size : Int) != ((t ++ q).size : Int)) = false := by simp
            obtain ⟨bs3, hbs3⟩ : ∃ x, x = bs ++ (lowsI n v).reverse := ⟨_, rfl⟩
            rw [← hbs3] at HK3 HT3
            clear hbs3
            go_wp2_with fail
            have HKd : Hid (Kept w w2.drew r2 bs3) := Lib.hid (HK3.out.later (Below.refl _ _).drew)
            go_region_law (go_simp; first
              | (go_at_call 17; refine (len_k (by assumption) HT3 hsz3).mono ?_; rintro e wl ⟨rfl, HKl⟩)
              | (go_at_call 18; refine (bytes_k (by assumption) HT3 hsz3).mono ?_; rintro e wb ⟨ab, cb, rfl, HKb, HBb, kb, HYb⟩; try have kbr := conv_later HYr HBb)
              | (go_at_call 19; refine (refbytes_k (by assumption) HT3 hsz3).mono ?_; rintro e wq ⟨ar, cr, rfl, HKr, HBr, kr, HYr⟩; try have krb := conv_later HYb HBr))
            all_goals
              clear HKd
              go_wp2_with fail
              go_roundw
              case rel => exact ⟨k + 1, _, r2, bs3, by omega, by omega, by go_num, rfl, by assumption, HT3, by assumption⟩
              case measure => simp [intOf]; omega
          · go_wp2_with fail
            refine (align_any _ _ r bs _ HK0.out.writer (by have := HLEN.out; omega)).mono ?_
            rintro e w2 ⟨r2, rfl, hw2, ho2, _⟩
            have HK3 : Hid (Kept w w2 r2 (pad bs)) := Lib.hid ⟨hw2, HK0.out.below.trans (ho2.below HK0.out.below.size HK0.out.writer.fp)⟩
            clear hw2 ho2
            have hal := refalign_any bs w2 (by have := HLEN.out; omega)
            rw [← HT.out] at hal
            have HAL := Lib.hid hal
            clear hal
            go_wp2_with fail
            refine HAL.out.mono ?_
            rintro e w' ⟨rfl, rfl⟩
            have hqt : (txt (pad bs)).size ≤ 200 * (k + 1) := by
              have h1 := congrArg ByteArray.size HT.out
              rw [txt_len] at h1
              rw [txt_len, pad_len]; omega
            have HT3 : Hid (txt (pad bs) = txt (pad bs)) := Lib.hid rfl
            clear HAL
            obtain ⟨q, hq⟩ : ∃ q, q = txt (pad bs) := ⟨_, rfl⟩
            rw [← hq] at hqt ⊢
            replace HT3 : Hid (q = txt (pad bs)) := Lib.hid hq
            clear hq
            have hsz3 : q.size ≤ 100000 := by omega
            have hne3 : ((q.size : Int) != (q.size : Int)) = false := by simp
            obtain ⟨bs3, hbs3⟩ : ∃ x, x = pad bs := ⟨_, rfl⟩
            rw [← hbs3] at HK3 HT3
            clear hbs3
            go_wp2_with fail
            have HKd : Hid (Kept w w2.drew r2 bs3) := Lib.hid (HK3.out.later (Below.refl _ _).drew)
            go_region_law (go_simp; first
              | (go_at_call 17; refine (len_k (by assumption) HT3 hsz3).mono ?_; rintro e wl ⟨rfl, HKl⟩)
              | (go_at_call 18; refine (bytes_k (by assumption) HT3 hsz3).mono ?_; rintro e wb ⟨ab, cb, rfl, HKb, HBb, kb, HYb⟩; try have kbr := conv_later HYr HBb)
              | (go_at_call 19; refine (refbytes_k (by assumption) HT3 hsz3).mono ?_; rintro e wq ⟨ar, cr, rfl, HKr, HBr, kr, HYr⟩; try have krb := conv_later HYb HBr))
            all_goals
              clear HKd
              go_wp2_with fail
              go_roundw
              case rel => exact ⟨k + 1, _, r2, bs3, by omega, by omega, by go_num, rfl, by assumption, HT3, by assumption⟩
              case measure => simp [intOf]; omega
          · have HBB : Hid (Bytes (wr.alloc (.cells #[.int .i64 kind, .int .i64 n, .int .u32 (v : Int), .slice ba bl bc] 28)) ba bl bc l) := Lib.hid (HBY.out.below (Nat.le_refl _) ((Below.refl _ _).alloc (Nat.le_refl _) _))
            have hrs := HL.out.below.size
            have HE : Hid (Own 5 (wr.heap.size + 1) ((wr.alloc (.cells #[.int .i64 kind, .int .i64 n, .int .u32 (v : Int), .slice ba bl bc] 28)).alloc (.cells #[] 5)) (.slice (some ⟨wr.heap.size + 1, 0, none⟩) 0 0) []) := Lib.hid (by
              have h := Own.empty 5 (base := wr.heap.size + 1) (wr.alloc (.cells #[.int .i64 kind, .int .i64 n, .int .u32 (v : Int), .slice ba bl bc] 28)) (by simp)
              rwa [show (wr.alloc (.cells #[.int .i64 kind, .int .i64 n, .int .u32 (v : Int), .slice ba bl bc] 28)).heap.size = wr.heap.size + 1 from by simp] at h)
            go_wp2_with (at_builtin; refine wpList_append_lie (by rfl) (.tmp 36) (.tmp 38) 26 rfl (wr.heap.size + 1) 5 Try.underlying26 info5 (.slice (some ⟨wr.heap.size + 1, 0, none⟩) 0 0) [] rfl HE.out ba bl bc l rfl (HBB.out.below (Nat.le_refl _) ((Below.refl _ _).alloc (Nat.le_refl _) _)) (by simp; omega) (by simp) ?_)
            intro a7 c7 w7 hown7 hgrow7 _
            have hb7 : Below (wr.heap.size + 1) (wr.alloc (.cells #[.int .i64 kind, .int .i64 n, .int .u32 (v : Int), .slice ba bl bc] 28)) w7 := ((Below.refl (wr.heap.size + 1) _).alloc (by simp) _).grown hgrow7 (by simp) (fun k hk => by simp [Value.ownBlock] at hk; omega)
            have hb7' : Below (wr.alloc (.cells #[.int .i64 kind, .int .i64 n, .int .u32 (v : Int), .slice ba bl bc] 28)).heap.size (wr.alloc (.cells #[.int .i64 kind, .int .i64 n, .int .u32 (v : Int), .slice ba bl bc] 28)) w7 := by simpa using hb7
            have HK7 := Lib.hid (HK0.out.later hb7')
            have HBL7 : Hid (Blk w7 wr.heap.size 28 #[.int .i64 kind, .int .i64 n, .int .u32 (v : Int), .slice ba bl bc]) := Lib.hid (HBL.out.same (hb7.block _ (by omega)))
            have HBY7 := Lib.hid (HBB.out.below (Nat.le_refl _) hb7')
            have hown : Own 5 (wr.heap.size + 1) w7 (.slice a7 bl c7) l := by simpa using hown7
            obtain ⟨ax, cx, hax, hbyx⟩ := hown.bytes
            have hlb := HBY.out.len_eq
            rw [hlb] at hax hbyx
            simp only [Value.slice.injEq, true_and] at hax
            obtain ⟨rfl, rfl⟩ := hax
            have HO7 := Lib.hid hown
            have HSEP : Hid (∀ b off, a7 = some ⟨b, off, none⟩ → ¬ Fp w.heap.size r b ∧ w.heap.size ≤ b ∧ wr.heap.size < b ∧ b < w7.heap.size) := Lib.hid (by
              intro b off hab
              have h1 := World.ownsRow.lt HO7.out b (by rw [hab]; rfl)
              refine ⟨?_, by omega, by omega, h1.2⟩
              rintro (h | h)
              · have := HL.out.writer.lt; omega
              · have := (HL.out.writer.rlt _ h).2; omega)
            have HBX := Lib.hid hbyx
            clear hown7 hgrow7 hb7 hb7' hown hbyx HBB HK0 HBL
            go_wp2_with fail
            refine (raw_any _ _ r bs w7 HK7.out.writer (by have := HLEN.out; omega) a7 bl c7 l HBX.out (fun b off h => (HSEP.out b off h).1) (by omega)).mono ?_
            rintro e w2 ⟨r2, rfl, hw2, ho2, hn2⟩
            have HK2 : Hid (Kept w w2 r2 (pad bs ++ bitsOf l)) := Lib.hid ⟨hw2, HK7.out.below.trans (ho2.below HK7.out.below.size HK7.out.writer.fp)⟩
            have HBL2 := Lib.hid (ho2.blk HBL7.out HNE.out)
            have e3 : w2.cell? ⟨wr.heap.size, 3, none⟩ = some (.slice ba bl bc) := HBL2.out.cell 3
            have HBYd : Hid (Bytes w2.drew ba bl bc l) := Lib.hid (HBYW.out.below (Nat.le_refl _) HK2.out.below.drew)
            have HKd2 : Hid (Kept w w2.drew r2 (pad bs ++ bitsOf l)) := Lib.hid (HK2.out.later (Below.refl _ _).drew)
            have HOd : Hid (Own 5 (wr.heap.size + 1) w2.drew (.slice a7 bl c7) l) := Lib.hid (ho2.drew.own HO7.out (fun k' hk' hfp => by
              cases a7 with
              | none => cases hk'
              | some ad =>
                have h1 := World.ownsRow.lt HO7.out k' hk'
                rcases hfp with rfl | hfp
                · have := HL.out.writer.lt; omega
                · have := (HL.out.writer.rlt _ hfp).2; omega))
            have HG7 : Hid (∀ g, a7 = some ⟨g, 0, none⟩ → g ≠ w.heap.size ∧ r2 ≠ some g ∧ w.heap.size ≤ g) := Lib.hid (fun g hg => by
              have h1 := (HSEP.out g 0 hg)
              have h2 := HL.out.writer.lt
              refine ⟨by omega, ?_, by omega⟩
              rintro rfl
              rcases hn2 with h | ⟨j, h, hj⟩
              · exact h1.1 (.inr h.symm)
              · injection h with h; omega)
            have HTA : Hid (∀ X, Calls Try.prog 14 #[.string t] X fun e w' => e = .returned (.string (txt (pad bs))) ∧ X = w') := Lib.hid (fun X => by
              have := refalign_any bs X (by have := HLEN.out; omega)
              rwa [← HT.out] at this)
            have HT4 : Hid (txt (pad bs) ++ txt (bitsOf l) = txt (pad bs ++ bitsOf l)) := Lib.hid (txt_append _ _)
            have hq1 : (txt (pad bs)).size ≤ 200 * k + 8 := by
              have h1 := congrArg ByteArray.size HT.out
              rw [txt_len] at h1
              rw [txt_len, pad_len]; omega
            have hq2 : (txt (bitsOf l)).size ≤ 160 := by rw [txt_len, bitsOf_len, hlb]; omega
            have HRO : Hid (∀ X, Bytes X ba bl bc l → Calls Try.prog 16 #[.slice ba bl bc] X fun e w' => e = .returned (.string (txt (bitsOf l))) ∧ Below X.heap.size X w') := Lib.hid (fun X h => refof_any ba bl bc l X h (by omega))
            generalize hs1 : txt (pad bs) = s1 at HTA HT4 hq1
            generalize hs2 : txt (bitsOf l) = s2 at HRO HT4 hq2
            obtain ⟨bs2, hbs2⟩ : ∃ x, x = pad bs ++ bitsOf l := ⟨_, rfl⟩
            rw [← hbs2] at HT4 HKd2
            have hq3 : ¬ 9223372036854775807 < s1.size + s2.size := by omega
            clear hs1 hs2 hbs2 hw2 ho2 hn2 HSEP HBX HK7 HBL7 HBY7 HK2
            go_wp2_with fail
            go_region_law (go_simp; first
              | (go_at_call 14; refine (HTA.out _).mono ?_; rintro e w' ⟨rfl, rfl⟩)
              | (go_at_call 16; refine (HRO.out _ HBYd.out).mono ?_; rintro e wo ⟨rfl, hbo⟩))
            all_goals
              have HKo := Lib.hid (HKd2.out.later hbo)
              have HOo := Lib.hid (HOd.out.below (Nat.le_refl _) hbo)
              clear hbo HKd2 HOd HBYd HTA HRO
              have hqt : (s1 ++ s2).size ≤ 200 * (k + 1) := by rw [ByteArray.size_append]; omega
              generalize s1 ++ s2 = q at *
              clear hq1 hq2 hq3
              clear e3 HBL2
              go_wp2_with fail
              generalize wr.heap.size = qs at *
              go_loopw [8] (fun i wx => ∃ (j : Nat) (lst : List UInt8), j ≤ bl ∧ i = .int .i64 (j : Int) ∧ Hid (lst.length = bl) ∧ Hid (Own 5 (qs + 1) wx (.slice a7 bl c7) lst) ∧ Hid (Kept w wx r2 bs2)) (fun i _ => bl - (intOf i).toNat)
              case atStart => exact ⟨0, l, Nat.zero_le _, rfl, Lib.hid hlb, HOo, HKo⟩
              case round =>
                clear HOo HKo
                obtain ⟨j, lst, hj, rfl, HLS, HOx, HKx⟩ := hrel
                by_cases hjl : j < bl
                · obtain ⟨g7, cc, hv7, _⟩ := HOx.out.some_ (by have := HLS.out; omega)
                  simp only [Value.slice.injEq] at hv7
                  obtain ⟨rfl, -, -⟩ := hv7
                  have hjs : j < lst.length := by have := HLS.out; omega
                  have hcell := own_cell HOx.out HLS.out j hjs
                  have hfree := own_free HOx.out HLS.out j
                  generalize lst[j] = y at hcell
                  unfold bv at hcell
                  have hy : (y.toNat : Int) < 256 := by have := y.toNat_lt; omega
                  have ho' := own_store HOx.out HLS.out j (UInt8.ofNat (y.toNat + 1))
                  unfold bv at ho'
                  rw [UInt8.toNat_ofNat', show (((y.toNat + 1) % 2 ^ 8 : Nat) : Int) = ((y.toNat : Int) + 1) % 256 from by omega] at ho'
                  have HO' := Lib.hid ho'
                  have hon : Only (fun k => g7 = k) wr _ := (Only.refl _ wr).setCell (p := ⟨g7, j, none⟩) (fun _ => rfl) (.int .u8 (((y.toNat : Int) + 1) % 256))
                  have HK' : Hid (Kept w (wr.setCell ⟨g7, j, none⟩ (.int .u8 (((y.toNat : Int) + 1) % 256))) r2 bs2) := Lib.hid ⟨Wr.apart HKx.out.writer hon (HG7.out g7 rfl).1 (HG7.out g7 rfl).2.1, HKx.out.below.setCell (p := ⟨g7, j, none⟩) (HG7.out g7 rfl).2.2 _⟩
                  clear ho' hon
                  go_wp2_with fail
                  go_roundw
                  case rel => exact ⟨j + 1, lst.set j (UInt8.ofNat (y.toNat + 1)), by omega, by go_num, Lib.hid (by rw [List.length_set]; exact HLS.out), HO', HK'⟩
                  case measure => simp [intOf]; omega
                · obtain rfl : j = bl := by omega
                  have HK3 := HKx
                  have HT3 := HT4
                  clear HKx HT4 HOx HLS
                  have hsz3 : q.size ≤ 100000 := by omega
                  have hne3 : ((q.size : Int) != (q.size : Int)) = false := by simp
                  obtain ⟨bs3, hbs3⟩ : ∃ x, x = bs2 := ⟨_, rfl⟩
                  rw [← hbs3] at HK3 HT3
                  clear hbs3
                  go_wp2_with fail
                  have HKd : Hid (Kept w wr.drew r2 bs3) := Lib.hid (HK3.out.later (Below.refl _ _).drew)
                  go_region_law (go_simp; first
                    | (go_at_call 17; refine (len_k (by assumption) HT3 hsz3).mono ?_; rintro e wl ⟨rfl, HKl⟩)
                    | (go_at_call 18; refine (bytes_k (by assumption) HT3 hsz3).mono ?_; rintro e wb ⟨ab, cb, rfl, HKb, HBb, kb, HYb⟩; try have kbr := conv_later HYr HBb)
                    | (go_at_call 19; refine (refbytes_k (by assumption) HT3 hsz3).mono ?_; rintro e wq ⟨ar, cr, rfl, HKr, HBr, kr, HYr⟩; try have krb := conv_later HYb HBr))
                  all_goals
                    clear HKd
                    go_wp2_with fail
                    go_roundw
                    case rel => exact ⟨k + 1, _, r2, bs3, by omega, by omega, by go_num, rfl, by assumption, HT3, by assumption⟩
                    case measure => simp [intOf]; omega
        · --B20
          have hb20 : (20 : Int) < (bl : Int) := by omega
          go_wp2_with fail
          refine (told_any _).mono ?_
          rintro e w2 ⟨rfl, hb2⟩
          have HB2 : Hid (Below w.heap.size w w2) := Lib.hid ((HL.out.below.alloc HL.out.below.size _).trans (hb2.mono (by have := HL.out.below.size; simp; omega)))
          clear hb2
          go_wp2_with fail
          go_ret
          exact ⟨rfl, HB2.out⟩
      · obtain rfl : k = 40 := by omega
        clear HAT
        go_wp2_with fail
        refine (told_any _).mono ?_
        rintro e w2 ⟨rfl, hb2⟩
        have HB2 : Hid (Below w.heap.size w w2) := Lib.hid (HL.out.below.trans (hb2.mono HL.out.below.size))
        clear hb2
        go_wp2_with fail
        go_ret
        exact ⟨rfl, HB2.out⟩
    · obtain rfl : k = len := by omega
      clear HAT
      go_wp2_with fail
      refine (told_any _).mono ?_
      rintro e w2 ⟨rfl, hb2⟩
      have HB2 : Hid (Below w.heap.size w w2) := Lib.hid (HL.out.below.trans (hb2.mono HL.out.below.size))
      clear hb2
      go_wp2_with fail
      go_ret
      exact ⟨rfl, HB2.out⟩
end Go.Proofs.Ytfnjokoeaboliaa.BitC
