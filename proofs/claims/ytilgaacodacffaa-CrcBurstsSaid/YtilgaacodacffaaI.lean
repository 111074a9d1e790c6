import Derived.Test.YtilgaacodacffaaH
import Derived.Deep.RegionHeld3
namespace Go.Proofs.Ytilgaacodacffaa
open Go.RowKit Go.My CrcMath

theorem told_b {B : Nat} {w0 w : World} (_hB : w0.heap.size ≤ B) (h : Below B w0 w) (hs : B ≤ w.heap.size) : Calls Try.prog 9 #[] w fun e w' => e = .returned (.bool true) ∧ Below B w0 w' ∧ B ≤ w'.heap.size :=
  (told_bv w).mono fun _ _ ⟨he, hw⟩ => ⟨he, h.trans (hw.mono hs), Nat.le_trans hs hw.size⟩
theorem sum_b {B : Nat} {w0 w : World} {a : Option Addr} {len cap : Nat} {l : List UInt8} (hb : Bytes w0 a len cap l) (hB : w0.heap.size ≤ B) (h : Below B w0 w) (hs : B ≤ w.heap.size) :
    Calls Try.prog 12 #[.slice a len cap] w fun e w' => e = .returned (.int .u32 ((crc 0#32 l).toNat : Int)) ∧ Below B w0 w' ∧ B ≤ w'.heap.size :=
  (sum_bv a len cap l w (hb.below hB h)).mono fun _ _ ⟨he, hw⟩ => ⟨he, h.trans (hw.mono hs), Nat.le_trans hs hw.size⟩

theorem bytes_to {w : World} {a : Option Addr} {len cap n : Nat} {l : List UInt8} (h : Bytes w a len cap l) (hn : n ≤ len) : Bytes w a n cap (l.take n) := by
  have h1 := h.len_eq
  have h2 := h.le_cap
  refine ⟨by simp; omega, by omega, h.cap_le, fun e => ?_, ?_⟩
  · have := h.nil e; omega
  · by_cases h0 : n = 0
    · exact .inl h0
    · rcases h.at_ with h3 | ⟨b, off, ha, hb, hc⟩
      · omega
      · exact .inr ⟨b, off, ha, hb, fun i hi => by rw [List.getElem_take]; exact hc i (by simp at hi; omega)⟩
theorem run_slice_to {P : Program} {t e : TypeId} {i : TypeInfo} (ht : P.underlying t = some (.slice e)) (hi : P.info? e = some i) (k : IntKind) (a : Option Addr) (len cap n : Nat) (hn : n ≤ cap) (w : World) :
    (Instr.sliceAt t (.slice a len cap) none (some (.int k (n : Int))) none).run P w = .ok (.slice a n cap) w := by
  have h0 : (fun x : Addr => x.add 0) = id := by funext x; simp [Addr.add]
  have hn' : (n : Int) ≤ (cap : Int) := by omega
  have hb := run_sliceBound (P := P) (w := w) k (n : Int) cap .sliceAcap (Int.natCast_nonneg n) hn'
  simp only [Int.toNat_natCast] at hb
  simp [Instr.sliceAt, Instr.slice, Instr.sliceBounds, run_underlying ht, sizeOf, typeInfo, hi, hb, h0]
theorem run_min4 (w : World) (a b c n : Nat) (h : n = min (min (min a b) c) 300) :
    (Builtin.min_ #[3, 3, 3, 3] 3 #[.int .i64 (a : Int), .int .i64 (b : Int), .int .i64 (c : Int), .int .i64 300]).run Try.prog w = .ok (.int .i64 (n : Int)) w := by
  simp [Builtin.min_, Builtin.min2]
  subst h
  repeat' split
  all_goals omega

/-- The text after k rounds. -/
def xorTo (z : List UInt8) (n k : Nat) : List UInt8 := z.take k ++ List.replicate (n - k) 0
theorem xorTo_set (z : List UInt8) (n k : Nat) (hz : z.length = n) (hk : k < n) (x : UInt8) (hx : z[k]'(by omega) = x) : ((xorTo z n k).map bv).set k (bv x) = (xorTo z n (k + 1)).map bv := by
  subst hx
  rw [← List.map_set]
  congr 1
  unfold xorTo
  rw [show n - k = (n - (k + 1)) + 1 from by omega, List.replicate_succ, List.take_succ_eq_append_getElem (by omega), List.append_assoc, List.singleton_append]
  rw [List.set_append_right _ _ (by simp; omega)]
  congr 1
  have : k - (z.take k).length = 0 := by simp; omega
  rw [this]; rfl
theorem xorTo_zero (z : List UInt8) (n : Nat) : xorTo z n 0 = List.replicate n 0 := by simp [xorTo]
theorem xorTo_all (z : List UInt8) (n : Nat) (hz : z.length = n) : xorTo z n n = z := by simp [xorTo, List.take_of_length_le (Nat.le_of_eq hz)]
theorem xorTo_len (z : List UInt8) (n k : Nat) (hz : z.length = n) (hk : k ≤ n) : (xorTo z n k).length = n := by simp [xorTo]; omega
theorem xors_len : ∀ (l m : List UInt8), l.length = m.length → (xors l m).length = m.length
  | [], [], _ => rfl
  | _ :: l, _ :: m, h => by simp only [xors, List.length_cons]; rw [xors_len l m (by simpa using h)]
theorem xors_get : ∀ (l m : List UInt8) (i : Nat) (h1 : i < l.length) (h2 : i < m.length) (h3 : i < (xors l m).length), (xors l m)[i] = l[i] ^^^ m[i]
  | _ :: _, _ :: _, 0, _, _, _ => rfl
  | _ :: l, _ :: m, i + 1, h1, h2, h3 => xors_get l m i (by simpa using h1) (by simpa using h2) (by simpa [xors] using h3)

set_option maxRecDepth 100000 in
set_option maxHeartbeats 4000000 in
theorem xors_law (a1 : Option Addr) (len1 cap1 : Nat) (l1 : List UInt8) (a2 : Option Addr) (len2 cap2 : Nat) (l2 : List UInt8) (a3 : Option Addr) (len3 cap3 : Nat) (l3 : List UInt8) (w : World) (hb1 : Bytes w a1 len1 cap1 l1) (hb2 : Bytes w a2 len2 cap2 l2) (hb3 : Bytes w a3 len3 cap3 l3) :
    Calls Try.prog 8 #[.slice a1 len1 cap1, .slice a2 len2 cap2, .slice a3 len3 cap3] w fun e w' => e = .returned (.bool true) ∧ Below w.heap.size w w' := by
  have H1 := Lib.hid hb1
  have H2 := Lib.hid hb2
  have H3 := Lib.hid hb3
  have hm1 := hb1.cap_le
  have hl1 := hb1.le_cap
  have hm2 := hb2.cap_le
  have hl2 := hb2.le_cap
  have hm3 := hb3.cap_le
  have hl3 := hb3.le_cap
  clear hb1 hb2 hb3
  generalize hn : min (min (min len1 len2) len3) 300 = n
  have hmin := fun w => run_min4 w len1 len2 len3 n hn.symm
  have hn1 : n ≤ len1 := by omega
  have hn2 : n ≤ len2 := by omega
  have hn3 : n ≤ len3 := by omega
  have hn4 : n ≤ 300 := by omega
  clear hn
  have e1 : (l1.take n).length = n := by simp [H1.out.len_eq]; omega
  have e2 : (l2.take n).length = n := by simp [H2.out.len_eq]; omega
  have e3 : (l3.take n).length = n := by simp [H3.out.len_eq]; omega
  have e4 : (xors (l1.take n) (l2.take n)).length = n := by rw [xors_len _ _ (by rw [e1, e2]), e2]
  obtain ⟨z, hz⟩ : ∃ z, z = xors (xors (l1.take n) (l2.take n)) (l3.take n) := ⟨_, rfl⟩
  have e5 : z.length = n := by rw [hz, xors_len _ _ (by rw [e4, e3]), e3]
  have E1 := Lib.hid e1
  have E2 := Lib.hid e2
  have E3 := Lib.hid e3
  have E4 := Lib.hid e4
  have E5 := Lib.hid e5
  have HZ := Lib.hid hz
  clear e1 e2 e3 e4 e5 hz
  go_enter Try.func8, Try.ntmps8
  go_wp2_with (at_make; refine wpList_make_bytes _ rfl (.tmp 17) (.tmp 17) 23 rfl w.heap.size 5 Try.underlying23 info5 .i64 .i64 n rfl rfl (by omega) (Nat.le_refl _) ?_)
  intro w1 hown hg
  have b1 : Below w.heap.size w w1 := (Below.refl _ _).grown hg (Nat.le_refl _) (fun k h => by cases h)
  rw [← xorTo_zero z n] at hown
  have HO := Lib.hid hown
  have HB1 := Lib.hid b1
  clear hown hg b1 hmin
  go_wp2_with fail
  go_loopw [9] (fun i wr => ∃ k : Nat, k ≤ n ∧ i = .int .i64 (k : Int) ∧ Hid (Own 5 w.heap.size wr (.slice (some ⟨w.heap.size, 0, none⟩) n n) (xorTo z n k)) ∧ Hid (Below w.heap.size w wr)) (fun i _ => n - (intOf i).toNat)
  case atStart => exact ⟨0, Nat.zero_le _, rfl, HO, HB1⟩
  case round =>
    clear HO HB1
    obtain ⟨k, hk, rfl, HO, HB⟩ := hrel
    by_cases hlt : k < n
    · obtain ⟨r1, _, _, _, h1⟩ := H1.out.below (Nat.le_refl _) HB.out
      obtain ⟨r2, _, _, _, h2⟩ := H2.out.below (Nat.le_refl _) HB.out
      obtain ⟨r3, _, _, _, h3⟩ := H3.out.below (Nat.le_refl _) HB.out
      rcases h1 with h0 | ⟨p1, o1, rfl, s1, c1⟩
      · omega
      rcases h2 with h0 | ⟨p2, o2, rfl, s2, c2⟩
      · omega
      rcases h3 with h0 | ⟨p3, o3, rfl, s3, c3⟩
      · omega
      have c1 := c1 k (by omega)
      have c2 := c2 k (by omega)
      have c3 := c3 k (by omega)
      have HL := HO.out
      unfold Own at HL
      rw [xorTo_len z n k E5.out hk] at HL
      have hcell := World.ownsRow.cellAt HL k (by omega)
      rw [List.getElem?_map, List.getElem?_eq_getElem (by rw [xorTo_len z n k E5.out hk]; omega)] at hcell
      have hcell2 : ∃ v, wr.cell? ⟨w.heap.size, k, none⟩ = some (.int .u8 v) := ⟨_, hcell⟩
      obtain ⟨v0, hcell3⟩ := hcell2
      have hfr := World.ownsRow.frozenAt HL k
      generalize hx1 : l1[k] = x1 at *
      generalize hx2 : l2[k] = x2 at *
      generalize hx3 : l3[k] = x3 at *
      have hzk : z[k]'(by rw [E5.out]; omega) = x1 ^^^ x2 ^^^ x3 := by
        have hz := HZ.out
        subst hz
        rw [xors_get _ _ _ (by rw [E4.out]; omega) (by rw [E3.out]; omega), xors_get _ _ _ (by rw [E1.out]; omega) (by rw [E2.out]; omega), List.getElem_take, List.getElem_take, List.getElem_take, hx1, hx2, hx3]
      have HS := Lib.hid (xorTo_set z n k E5.out hlt _ hzk)
      have HLL := Lib.hid HL
      clear hcell HL hx1 hx2 hx3 hzk r1 r2 r3
      go_wp2_with fail
      go_region
      go_wp2_with fail
      go_roundw
      case rel =>
        have hv : Value.int IntKind.u8 (bits BinOp.xor IntKind.u8 (bits BinOp.xor IntKind.u8 (x1.toNat : Int) (x2.toNat : Int)) (x3.toNat : Int)) = bv (x1 ^^^ x2 ^^^ x3) := by
          rw [u8_xor_nat _ _ x1.toNat_lt x2.toNat_lt, ← UInt8.toNat_xor, u8_xor_nat _ _ (UInt8.toNat_lt _) x3.toNat_lt, ← UInt8.toNat_xor]; rfl
        refine ⟨k + 1, hlt, by go_num, Lib.hid ?_, Lib.hid (HB.out.setCell (Nat.le_refl _) _).drew⟩
        have := (HLL.out.stored k (bv (x1 ^^^ x2 ^^^ x3))).1.drew
        rw [HS.out] at this
        rw [hv]
        unfold Own
        rw [xorTo_len z n _ E5.out hlt]
        exact this
      case measure => simp [intOf]; omega
    · obtain rfl : k = n := by omega
      obtain ⟨az, cz, hez, hbz⟩ := HO.out.bytes
      rw [xorTo_all z k E5.out, E5.out] at hez hbz
      simp only [Value.slice.injEq, true_and] at hez
      obtain ⟨rfl, rfl⟩ := hez
      have HBZ := Lib.hid hbz
      clear hbz
      go_wp2_with fail
      obtain ⟨i5, hi5, _⟩ := info_parts info5
      have sl1 := fun w => run_slice_to Try.underlying23 hi5 .i64 a1 len1 cap1 k (by omega) w
      have sl2 := fun w => run_slice_to Try.underlying23 hi5 .i64 a2 len2 cap2 k (by omega) w
      have sl3 := fun w => run_slice_to Try.underlying23 hi5 .i64 a3 len3 cap3 k (by omega) w
      have S1 := Lib.hid (bytes_to (H1.out.below (Nat.le_refl _) HB.out) hn1)
      have S2 := Lib.hid (bytes_to (H2.out.below (Nat.le_refl _) HB.out) hn2)
      have S3 := Lib.hid (bytes_to (H3.out.below (Nat.le_refl _) HB.out) hn3)
      have hS0 : Below wr.heap.size wr wr.drew := (Below.refl _ _).drew
      have hT0 : wr.heap.size ≤ wr.drew.heap.size := Nat.le_refl _
      have HX : Hid (crc 0#32 z = crc 0#32 (l1.take k) ^^^ crc 0#32 (l2.take k) ^^^ crc 0#32 (l3.take k)) := Lib.hid (by rw [HZ.out]; exact crc_xor3 _ _ _ (by rw [E1.out, E2.out]) (by rw [E4.out, E3.out]))
      go_region_held3 (fun w' => Below wr.heap.size wr w' ∧ wr.heap.size ≤ w'.heap.size) (first | exact ⟨Below.refl _ _, Nat.le_refl _⟩ | exact ⟨by assumption, by assumption⟩) (first | (go_at_call 9; refine (told_b (Nat.le_refl _) (by assumption) (by assumption)).mono ?_; rintro e w' ⟨rfl, hS, hT⟩) | (go_at_call 12; (with_reducible refine (sum_b HBZ.out (Nat.le_refl _) (by assumption) (by assumption)).mono ?_); rintro e w' ⟨rfl, hS, hT⟩) | (go_at_call 12; (with_reducible refine (sum_b S1.out (Nat.le_refl _) (by assumption) (by assumption)).mono ?_); rintro e w' ⟨rfl, hS, hT⟩) | (go_at_call 12; (with_reducible refine (sum_b S2.out (Nat.le_refl _) (by assumption) (by assumption)).mono ?_); rintro e w' ⟨rfl, hS, hT⟩) | (go_at_call 12; (with_reducible refine (sum_b S3.out (Nat.le_refl _) (by assumption) (by assumption)).mono ?_); rintro e w' ⟨rfl, hS, hT⟩))
      rw [bv_xor, bv_xor, ← HX.out, beq_self_eq_true]
      go_wp2_with fail
      go_ret
      exact ⟨rfl, HB.out.trans (hS.mono HB.out.size)⟩
end Go.Proofs.Ytilgaacodacffaa
