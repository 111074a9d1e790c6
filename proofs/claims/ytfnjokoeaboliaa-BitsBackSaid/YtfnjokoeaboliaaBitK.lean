import Derived.Test.YtfnjokoeaboliaaBitG
namespace Go.Proofs.Ytfnjokoeaboliaa.BitC
open Go.RowKit Go.My BitMath

set_option maxRecDepth 100000 in
set_option maxHeartbeats 2000000 in
theorem raw_carry (B g : Nat) (r : Option Nat) (bs : List Bool) (w : World) (hw : Wr B w g r bs) (hl : bs.length ≤ 100000000000) (a : Option Addr) (len cap : Nat) (lb : List UInt8) (hb : ∀ w', Only (Fp g r) w w' → Bytes w' a len cap lb) (hlb : len ≤ 100000000000) :
    Calls Try.prog 15 #[.pointer (some ⟨g, 0, none⟩), .slice a len cap] w (Wrote B g r w (pad bs ++ bitsOf lb)) := by
  have HW := Lib.hid hw
  have HBY := Lib.hid hb
  clear hw hb
  go_enter Try.func15, Try.ntmps15
  go_wp2_with fail
  refine (align_any B g r bs w HW.out hl).mono ?_
  rintro e w1 hp
  obtain ⟨r1, rfl, hw1, ho1, hn1⟩ := hp
  have HB1 := Lib.hid (HBY.out w1 ho1)
  have HO1 := Lib.hid ho1
  have HN1 := Lib.hid hn1
  obtain ⟨v0, l, rest, c, hat, hr0, hc, hr, hbs⟩ := hw1
  obtain ⟨a0, c0, rfl, -⟩ := hat.own.bytes
  have hc0 := hat.blk.cell 0
  have hf0 := hat.blk.frozen 0
  simp only [List.getElem?_toArray, List.getElem?_cons_zero] at hc0
  have hlen := congrArg List.length hbs
  rw [pad_len, List.length_append, bitsOf_len, lows_len] at hlen
  obtain rfl : c = 0 := by omega
  have hll : l.length ≤ 200000000000 := by omega
  have HR0 := Lib.hid hr0
  have HBS := Lib.hid hbs
  have HAT := Lib.hid hat
  have HR := Lib.hid hr
  have hown := hat.own
  have hne := hat.far
  have hBs : B ≤ w1.heap.size := by have := hat.base; have := hat.blk.lt; omega
  clear hat hr0 hbs hlen hr hc ho1 hn1
  go_wp2_with (at_builtin; refine wpList_append_lie (by rfl) (.tmp 12) (.tmp 13) 26 rfl B 5 Try.underlying26 info5 (.slice a0 l.length c0) l rfl hown a len cap lb rfl HB1.out (by omega) hBs ?_)
  intro a1 c1 w2 hown1 hgrow hnext
  have hb2 := HAT.out.blk.grown hgrow (Ne.symm hne)
  have e0 : w2.cell? ⟨g, 0, none⟩ = some (.slice a0 l.length c0) := hb2.cell 0
  have f0 := hb2.frozen 0
  have HB2 := Lib.hid hb2
  have HOW := Lib.hid hown1
  have HG := Lib.hid hgrow
  have HX := Lib.hid hnext
  have HNE := Lib.hid hne
  clear hb2 hown1 hgrow hnext hown hne hc0 hf0
  go_wp2_with fail
  go_end0
  have hfar := own_len_ne HOW.out HB2.out (by decide)
  have hO1 : Only (Fp g r) w w2 := HO1.out.next HN1.out (((Only.refl _ w1)).grown HG.out fun k _ hk => .inr (by rw [← HR0.out]; exact hk))
  have hO2 : Only (fun k => g = k) w2 (w2.setCell ⟨g, 0, none⟩ (.slice a1 (l.length + len) c1)) := (Only.refl _ w2).setCell (p := ⟨g, 0, none⟩) (fun _ => rfl) _
  refine ⟨_, rfl, ⟨_, l ++ lb, rest, 0, ⟨HB2.out.set_ 0 _, hO2.own HOW.out (fun k hk e => hfar (by rw [hk, ← e])), HAT.out.base⟩, rfl, by omega, HR.out, ?_⟩, hO1.trans hO2 (fun i _ h => .inl h.symm), ?_⟩
  · rw [HBS.out, bitsOf_append]; simp [lows]
  · have hnx := HX.out
    rw [HR0.out] at hnx
    exact HN1.out.trans hnx HO1.out.size

/-! ### what BitsBack puts -/
def kk (o : OpV) : Nat := 1 + (o.n % 32).toNat
def wrote (f : Nat → OpV) : Nat → List Bool
  | 0 => []
  | k + 1 => if (f k).kind % 4 = 3 then pad (wrote f k ++ lows (kk (f k)) (f k).v) ++ bitsOf (f k).l else wrote f k ++ lows (kk (f k)) (f k).v
theorem kk_le (o : OpV) : 1 ≤ kk o ∧ kk o ≤ 32 := by unfold kk; omega
theorem wrote_step (f : Nat → OpV) (k : Nat) : ∃ rest, wrote f (k + 1) = wrote f k ++ lows (kk (f k)) (f k).v ++ rest := by
  rw [wrote]; split
  · exact ⟨_, by unfold pad; rw [List.append_assoc]⟩
  · exact ⟨[], by simp⟩
theorem wrote_prefix (f : Nat → OpV) (k n : Nat) (h : k ≤ n) : ∃ rest, wrote f n = wrote f k ++ rest := by
  induction n with
  | zero => obtain rfl : k = 0 := by omega
            exact ⟨[], by simp⟩
  | succ n ih =>
    by_cases hk : k = n + 1
    · subst hk; exact ⟨[], by simp⟩
    · obtain ⟨r1, h1⟩ := ih (by omega)
      obtain ⟨r2, h2⟩ := wrote_step f n
      exact ⟨r1 ++ (lows (kk (f n)) (f n).v ++ r2), by rw [h2, h1]; simp⟩
/-- The bits that are read. -/
theorem data_bits (f : Nat → OpV) (n : Nat) : ∃ z, bitsOf (pack (wrote f n)) = wrote f n ++ z := ⟨_, bitsOf_pack _⟩
theorem data_num (f : Nat → OpV) (k n : Nat) (h : k < n) : ∃ rest, bitsOf (pack (wrote f n)) = wrote f k ++ lows (kk (f k)) (f k).v ++ rest := by
  obtain ⟨z, hz⟩ := data_bits f n
  obtain ⟨r1, h1⟩ := wrote_prefix f (k + 1) n h
  obtain ⟨r2, h2⟩ := wrote_step f k
  exact ⟨r2 ++ (r1 ++ z), by rw [hz, h1, h2]; simp⟩
theorem data_raw (f : Nat → OpV) (k n : Nat) (h : k < n) (h3 : (f k).kind % 4 = 3) : ∃ rest, bitsOf (pack (wrote f n)) = pad (wrote f k ++ lows (kk (f k)) (f k).v) ++ bitsOf (f k).l ++ rest := by
  obtain ⟨z, hz⟩ := data_bits f n
  obtain ⟨r1, h1⟩ := wrote_prefix f (k + 1) n h
  exact ⟨r1 ++ z, by rw [hz, h1, wrote, if_pos h3]; simp⟩
theorem got_of {lb : List UInt8} {A X R : List Bool} (h : bitsOf lb = A ++ X ++ R) : got lb A.length X.length = X ∧ A.length + X.length ≤ 8 * lb.length := by
  refine ⟨?_, ?_⟩
  · unfold got
    rw [h, List.append_assoc, List.drop_append_of_le_length (Nat.le_refl _), List.drop_length, List.nil_append, List.take_append_of_le_length (Nat.le_refl _), List.take_length]
  · have := congrArg List.length h
    rw [bitsOf_len] at this
    simp at this
    omega
theorem bitsOf_at (l : List UInt8) (j : Nat) (h : j < l.length) : bitsOf l = bitsOf (l.take j) ++ lows 8 l[j].toNat ++ bitsOf (l.drop (j + 1)) := by
  conv => lhs; rw [← List.take_append_drop j l, List.drop_eq_getElem_cons h]
  rw [bitsOf_append, bitsOf_cons, List.append_assoc]
/-- The number that is got in its place. -/
theorem back_num (f : Nat → OpV) (k n : Nat) (h : k < n) : num (got (pack (wrote f n)) (wrote f k).length (kk (f k))) = (f k).v % 2 ^ kk (f k) ∧ (wrote f k).length + kk (f k) ≤ 8 * (pack (wrote f n)).length := by
  obtain ⟨R, hR⟩ := data_num f k n h
  have := got_of hR
  rw [lows_len] at this
  exact ⟨by rw [this.1, num_lows], this.2⟩
theorem back_byte (f : Nat → OpV) (k n j : Nat) (h : k < n) (h3 : (f k).kind % 4 = 3) (hj : j < (f k).l.length) :
    num (got (pack (wrote f n)) (((wrote f k).length + kk (f k) + 7) / 8 * 8 + 8 * j) 8) = (f k).l[j].toNat ∧ ((wrote f k).length + kk (f k) + 7) / 8 * 8 + 8 * j + 8 ≤ 8 * (pack (wrote f n)).length := by
  obtain ⟨R, hR⟩ := data_raw f k n h h3
  rw [bitsOf_at _ j hj] at hR
  have hR2 : bitsOf (pack (wrote f n)) = (pad (wrote f k ++ lows (kk (f k)) (f k).v) ++ bitsOf ((f k).l.take j)) ++ lows 8 (f k).l[j].toNat ++ (bitsOf ((f k).l.drop (j + 1)) ++ R) := by rw [hR]; simp
  have hg := got_of hR2
  rw [lows_len, List.length_append, pad_len, List.length_append, lows_len, bitsOf_len, List.length_take, Nat.min_eq_left (by omega)] at hg
  exact ⟨by rw [hg.1, num_lows]; have := (f k).l[j].toNat_lt; omega, hg.2⟩
theorem wrote_len3 (f : Nat → OpV) (k : Nat) (h3 : (f k).kind % 4 = 3) : (wrote f (k + 1)).length = ((wrote f k).length + kk (f k) + 7) / 8 * 8 + 8 * (f k).l.length := by
  rw [wrote, if_pos h3, List.length_append, pad_len, List.length_append, lows_len, bitsOf_len]
theorem wrote_len (f : Nat → OpV) (k : Nat) (h3 : ¬ (f k).kind % 4 = 3) : (wrote f (k + 1)).length = (wrote f k).length + kk (f k) := by
  rw [wrote, if_neg h3, List.length_append, lows_len]

theorem u32_mask (v n : Nat) (hv : v < 4294967296) (hn : n ≤ 32) : bits .and .u32 (v : Int) (((2 : Int) ^ n - 1) % 4294967296) = (v : Int) % 2 ^ n := by
  have hp : 0 < 2 ^ n := Nat.two_pow_pos n
  have h7 : 2 ^ n ≤ 2 ^ 32 := Nat.pow_le_pow_right (by omega) hn
  have e : ((2 : Int) ^ n - 1) % 4294967296 = ((2 ^ n - 1 : Nat) : Int) := by
    have e1 : (2 : Int) ^ n = ((2 ^ n : Nat) : Int) := by push_cast; rfl
    rw [e1]; omega
  rw [e, u32_and_nat _ _ (by omega) (by omega), Nat.and_two_pow_sub_one_eq_mod]
  push_cast; rfl

/-- What the first loop of BitsBack keeps. -/
structure Back (w : World) (f : Nat → OpV) (wr : World) (r : Option Nat) (k : Nat) : Prop where
  writer : Wr w.heap.size wr w.heap.size r (wrote f k)
  below : Below w.heap.size w wr
  small : ∀ i, i < k → (f i).bl ≤ 20
  len : (wrote f k).length ≤ 250 * k

set_option maxRecDepth 100000 in
set_option maxHeartbeats 40000000 in
theorem back_law (a : Option Addr) (len cap : Nat) (f : Nat → OpV) (w : World) (h : OpsIn w a len cap f) :
    Calls Try.prog 5 #[.slice a len cap] w fun e w' => e = .returned (.bool true) ∧ Below w.heap.size w w' := by
  obtain ⟨hlc, hcm, hat⟩ := h
  have HAT := Lib.hid hat
  clear hat
  obtain ⟨N, hN, hN1, hN2⟩ : ∃ N : Nat, min (len : Int) 40 = (N : Int) ∧ N ≤ len ∧ N ≤ 40 := ⟨min len 40, by omega, by omega, by omega⟩
  go_enter Try.func5, Try.ntmps5
  go_wp2_with fail
  refine (new_writer w).mono ?_
  rintro e w1 ⟨rfl, hw1⟩
  have HL : Hid (Back w f w1 none 0) := Lib.hid (by
    rw [← hw1]
    exact ⟨wr_new w, (Below.refl _ w).alloc (Nat.le_refl _) _, fun i hi => by omega, by simp [wrote]⟩)
  clear hw1
  go_wp2_with fail
  all_goals
    first
      | (have HN : Hid (N = 40) := Lib.hid (by omega))
      | (have HN : Hid (N = len) := Lib.hid (by omega))
    clear hN
    go_loopw [5] (fun i wr => ∃ (k : Nat) (r : Option Nat), k ≤ N ∧ i = .int .i64 (k : Int) ∧ Hid (Back w f wr r k)) (fun i _ => N - (intOf i).toNat)
    case atStart => exact ⟨0, none, Nat.zero_le _, rfl, HL⟩
    case round =>
      clear HL
      obtain ⟨k, r, hk, rfl, HL⟩ := hrel
      by_cases hlt : k < N
      · obtain ⟨b, off, rfl, ho⟩ : ∃ b off, a = some ⟨b, off, none⟩ ∧ OpAt wr b off k (f k) := by
          rcases HAT.out with h0 | ⟨b, off, ha, hc⟩
          · omega
          · exact ⟨b, off, ha, (hc k (by omega)).below (Nat.le_refl _) HL.out.below⟩
        have hki : (k : Int) < (len : Int) := by omega
        have hki4 : (k : Int) < 40 := by omega
        have HOW : Hid (OpAt w b off k (f k)) := Lib.hid (by
          rcases HAT.out with h0 | ⟨b', off', ha, hc⟩
          · omega
          · injection ha with ha; injection ha with ha1 ha2; subst ha1 ha2; exact hc k (by omega))
        obtain ⟨c0, c1, c2, c3, hby, hbl, wk, wn, wv⟩ := ho
        clear hby
        by_cases h20 : (f k).bl ≤ 20
        · have h20i : ((f k).bl : Int) ≤ 20 := by omega
          obtain ⟨q, hq, hq2, hq3⟩ : ∃ q : Nat, bits .and .i64 (f k).n 31 = (q : Int) ∧ q < 32 ∧ kk (f k) = 1 + q := ⟨((f k).n % 32).toNat, by rw [i64_and_mask (f k).n 5 (by omega) 31 32 rfl rfl]; omega, by omega, rfl⟩
          have hk3 := i64_and_mask (f k).kind 2 (by omega) 3 4 rfl rfl
          have hput := put_any (f k).v (1 + q) w.heap.size w.heap.size r (wrote f k) wr wv (by omega) (by omega) HL.out.writer (by have := HL.out.len; omega)
          rw [show ((1 + q : Nat) : Int) = 1 + (q : Int) from by omega] at hput
          have HPUT := Lib.hid hput
          have HQ := Lib.hid hq3
          clear hput hq3
          by_cases h3 : (f k).kind % 4 = 3
          · have h3i : ((f k).kind % 4 == 3) = true := by simpa using h3
            have HLN := Lib.hid (wrote_len3 f k h3)
            have HWR : Hid (wrote f (k + 1) = pad (wrote f k ++ lows (kk (f k)) (f k).v) ++ bitsOf (f k).l) := Lib.hid (by rw [wrote, if_pos h3])
            go_wp2_with fail
            refine HPUT.out.mono ?_
            rintro e w2 ⟨r2, rfl, hw2, ho2, _⟩
            have HW2 := Lib.hid hw2
            have HB2 : Hid (Below w.heap.size w w2) := Lib.hid (HL.out.below.trans (ho2.below HL.out.below.size HL.out.writer.fp))
            obtain ⟨d0, _, _, d3, _, _, _, _, _⟩ := HOW.out.below (Nat.le_refl _) HB2.out
            clear hw2 ho2
            have HRAW := Lib.hid (raw_carry w.heap.size w.heap.size r2 _ w2 HW2.out (by rw [List.length_append, lows_len]; have := HL.out.len; omega) (f k).ba (f k).bl (f k).bc (f k).l (fun w' ho => HOW.out.bytes.below (Nat.le_refl _) (HB2.out.trans (ho.below HB2.out.size HW2.out.fp))) (by omega))
            go_wp2_with fail
            refine HRAW.out.mono ?_
            rintro e w3 ⟨r3, rfl, hw3, ho3, _⟩
            have HL3 : Hid (Back w f w3 r3 (k + 1)) := Lib.hid ⟨by rw [HWR.out, HQ.out]; exact hw3, HB2.out.trans (ho3.below HB2.out.size HW2.out.fp), fun i hi => by
              by_cases hik : i = k
              · rw [hik]; exact h20
              · exact HL.out.small i (by omega), by rw [HLN.out, HQ.out, HOW.out.bytes.len_eq]; have := HL.out.len; omega⟩
            clear hw3 ho3 d0 d3
            go_wp2_with fail
            go_roundw
            case rel => exact ⟨k + 1, r3, by omega, by go_num, HL3⟩
            case measure => simp [intOf]; omega
          · have h3i : ((f k).kind % 4 == 3) = false := by simpa using h3
            have HLN := Lib.hid (wrote_len f k h3)
            have HWR : Hid (wrote f (k + 1) = wrote f k ++ lows (kk (f k)) (f k).v) := Lib.hid (by rw [wrote, if_neg h3])
            go_wp2_with fail
            refine HPUT.out.mono ?_
            rintro e w2 ⟨r2, rfl, hw2, ho2, _⟩
            have HL3 : Hid (Back w f w2 r2 (k + 1)) := Lib.hid ⟨by rw [HWR.out, HQ.out]; exact hw2, HL.out.below.trans (ho2.below HL.out.below.size HL.out.writer.fp), fun i hi => by
              by_cases hik : i = k
              · rw [hik]; exact h20
              · exact HL.out.small i (by omega), by rw [HLN.out, HQ.out]; have := HL.out.len; omega⟩
            obtain ⟨d0, _, _, d3, _, _, _, _, _⟩ := HOW.out.below (Nat.le_refl _) HL3.out.below
            clear hw2 ho2
            go_wp2_with fail
            go_roundw
            case rel => exact ⟨k + 1, r2, by omega, by go_num, HL3⟩
            case measure => simp [intOf]; omega
        · have h20i : (20 : Int) < ((f k).bl : Int) := by omega
          go_wp2_with fail
          refine (told_any _).mono ?_
          rintro e w2 ⟨rfl, hb2⟩
          have HB2 : Hid (Below w.heap.size w w2) := Lib.hid (HL.out.below.trans (hb2.mono HL.out.below.size))
          clear hb2
          go_wp2_with fail
          go_ret
          exact ⟨rfl, HB2.out⟩
      · obtain rfl : k = N := by omega
        first
          | (have hd : ¬ (k : Int) < 40 := by have := HN.out; omega)
          | (have hd : ¬ (k : Int) < (len : Int) := by have := HN.out; omega)
        go_wp2_with fail
        refine (bytes_any _ _ r _ wr HL.out.writer (by have := HL.out.len; omega)).mono ?_
        rintro e w2 ⟨v, rfl, hv, hb2⟩
        obtain ⟨a2, c2, rfl, hby⟩ := hv.bytes
        have HB2 := Lib.hid (HL.out.below.trans (hb2.mono HL.out.below.size))
        have HBY := Lib.hid hby
        have HLB : Hid ((pack (wrote f k)).length ≤ 2000) := Lib.hid (by rw [pack_len]; have := HL.out.len; omega)
        have HX1 := Lib.hid (fun i h => back_num f i k h)
        have HX2 := Lib.hid (fun i j h => back_byte f i k j h)
        have HSM := Lib.hid HL.out.small
        generalize pack (wrote f k) = lb at *
        clear hv hb2 hby HL hd
        go_wp2_with fail
        refine (new_reader a2 lb.length c2 lb w2 HBY.out (by have := HLB.out; omega)).mono ?_
        rintro e w3 ⟨g, rfl, hr3, hb3⟩
        have HR3 : Hid (Reads w w2.heap.size g lb w3 (wrote f 0).length) := Lib.hid ⟨hr3, HB2.out.trans (hb3.mono HB2.out.size), HB2.out.size⟩
        clear hr3 hb3 HBY HB2
        generalize w2.heap.size = B at *
        go_wp2_with fail
        go_loopw [8] (fun i wx => ∃ m : Nat, m ≤ k ∧ i = .int .i64 (m : Int) ∧ Hid (Reads w B g lb wx (wrote f m).length)) (fun i _ => k - (intOf i).toNat)
        case atStart => exact ⟨0, Nat.zero_le _, rfl, HR3⟩
        case round =>
          clear HR3
          obtain ⟨m, hm, rfl, HR⟩ := hrel
          by_cases hmk : m < k
          · have hmi : (m : Int) < (len : Int) := by omega
            have hmi4 : (m : Int) < 40 := by omega
            obtain ⟨b, off, rfl, how⟩ : ∃ b off, a = some ⟨b, off, none⟩ ∧ OpAt w b off m (f m) := by
              rcases HAT.out with h0 | ⟨b, off, ha, hc⟩
              · omega
              · exact ⟨b, off, ha, hc m (by omega)⟩
            have HOW := Lib.hid how
            obtain ⟨q, hq, hq2, hq3⟩ : ∃ q : Nat, bits .and .i64 (f m).n 31 = (q : Int) ∧ q < 32 ∧ kk (f m) = 1 + q := ⟨((f m).n % 32).toNat, by rw [i64_and_mask (f m).n 5 (by omega) 31 32 rfl rfl]; omega, by omega, rfl⟩
            have hk3 := i64_and_mask (f m).kind 2 (by omega) 3 4 rfl rfl
            have hx := HX1.out m hmk
            rw [hq3] at hx
            have hget := get_any B g (wrote f m).length lb wr HR.out.rd (by have := HLB.out; omega) (1 + q) (by omega) hx.2
            rw [hx.1, show ((1 + q : Nat) : Int) = 1 + (q : Int) from by omega] at hget
            have HGET := Lib.hid hget
            have HQ := Lib.hid hq3
            obtain ⟨c0, c1, c2, c3, _, _, wk, wn, wv⟩ := how.below (Nat.le_refl _) HR.out.below
            clear hget hq3 hx how
            have hmask := u32_mask (f m).v (1 + q) wv (by omega)
            by_cases h3 : (f m).kind % 4 = 3
            · have h3i : ((f m).kind % 4 != 3) = false := by simpa using h3
              have HLN : Hid ((wrote f (m + 1)).length = ((wrote f m).length + (1 + q) + 7) / 8 * 8 + 8 * (f m).l.length) := Lib.hid (by rw [wrote_len3 f m h3, HQ.out])
              have HXB : Hid (∀ j (hj : j < (f m).l.length), num (got lb (((wrote f m).length + (1 + q) + 7) / 8 * 8 + 8 * j) 8) = (f m).l[j].toNat ∧ ((wrote f m).length + (1 + q) + 7) / 8 * 8 + 8 * j + 8 ≤ 8 * lb.length) := Lib.hid (fun j hj => by have := HX2.out m j hmk h3 hj; rwa [HQ.out] at this)
              go_wp2_with fail
              refine HGET.out.mono ?_
              rintro e w4 ⟨rfl, hr4, ho4⟩
              have HR4 := Lib.hid (HR.out.read hr4 ho4)
              obtain ⟨d0, _, d2, d3, _, _, _, _, _⟩ := HOW.out.below (Nat.le_refl _) HR4.out.below
              clear hr4 ho4 HGET
              go_wp2_with fail
              refine (ralign_any B g _ lb w4 HR4.out.rd (by have := HLB.out; omega)).mono ?_
              rintro e w5 ⟨rfl, hr5, ho5⟩
              have HR5 := Lib.hid (HR4.out.read hr5 ho5)
              clear hr5 ho5 d0 d2 d3
              generalize ((wrote f m).length + (1 + q) + 7) / 8 * 8 = P at *
              have h20 := HSM.out m hmk
              go_wp2_with fail
              clear h3i hmask hk3 hq c0 c1 c2 c3 wk wn wv HR HR4
              have HLL : Hid ((f m).l.length = (f m).bl) := Lib.hid HOW.out.bytes.len_eq
              go_loopw [12] (fun i wx => ∃ j : Nat, j ≤ (f m).bl ∧ i = .int .i64 (j : Int) ∧ Hid (Reads w B g lb wx (P + 8 * j))) (fun i _ => (f m).bl - (intOf i).toNat)
              case atStart => exact ⟨0, Nat.zero_le _, rfl, HR5⟩
              case round =>
                clear HR5
                obtain ⟨j, hj, rfl, HRj⟩ := hrel
                by_cases hjl : j < (f m).bl
                · have hjL : j < (f m).l.length := by have := HLL.out; omega
                  obtain ⟨_, _, _, d3, hby, _, _, _, _⟩ := HOW.out.below (Nat.le_refl _) HRj.out.below
                  obtain ⟨bb, oo, hba, hcb⟩ : ∃ bb oo, (f m).ba = some ⟨bb, oo, none⟩ ∧ wr.cell? ⟨bb, oo + j, none⟩ = some (.int .u8 ((f m).l[j].toNat : Int)) := by
                    rcases hby.at_ with h0 | ⟨bb, oo, ha, _, hc⟩
                    · omega
                    · exact ⟨bb, oo, ha, hc j hjL⟩
                  rw [hba] at d3
                  have hx := HXB.out j hjL
                  have hget := get_any B g (P + 8 * j) lb wr HRj.out.rd (by have := HLB.out; omega) 8 (by omega) hx.2
                  rw [hx.1] at hget
                  have HGET := Lib.hid hget
                  have hyl : ((f m).l[j].toNat : Int) < 256 := by have := (f m).l[j].toNat_lt; omega
                  have hcB : Hid (Bytes w (some ⟨bb, oo, none⟩) (f m).bl (f m).bc (f m).l) := Lib.hid (by rw [← hba]; exact HOW.out.bytes)
                  generalize hyy : (f m).l[j].toNat = y at *
                  clear hget hx hby hba
                  go_wp2_with fail
                  refine HGET.out.mono ?_
                  rintro e w6 ⟨rfl, hr6, ho6⟩
                  have HR6 : Hid (Reads w B g lb w6 (P + 8 * (j + 1))) := Lib.hid (by have := HRj.out.read hr6 ho6; rwa [show P + 8 * j + 8 = P + 8 * (j + 1) from by omega] at this)
                  obtain ⟨_, _, _, d6, hb6, _, _, _, _⟩ := HOW.out.below (Nat.le_refl _) HR6.out.below
                  have d63 : w6.cell? ⟨b, off + m * 4 + 3, none⟩ = some (.slice (some ⟨bb, oo, none⟩) (f m).bl (f m).bc) := by
                    have e1 := HR6.out.below.cell (p := ⟨b, off + m * 4 + 3, none⟩) HOW.out.lt
                    have e2 := HRj.out.below.cell (p := ⟨b, off + m * 4 + 3, none⟩) HOW.out.lt
                    rw [e1, ← e2]; exact d3
                  have d6c : w6.cell? ⟨bb, oo + j, none⟩ = some (.int .u8 (y : Int)) := by
                    rcases (hcB.out.below (Nat.le_refl _) HR6.out.below).at_ with h0 | ⟨bb', oo', ha, _, hc⟩
                    · omega
                    · injection ha with ha; injection ha with ha1 ha2; subst ha1 ha2; rw [← hyy]; exact hc j hjL
                  clear hr6 ho6 HGET hb6 d6 d3 hcb
                  go_wp2_with fail
                  go_roundw
                  case rel => exact ⟨j + 1, by omega, by go_num, HR6⟩
                  case measure => simp [intOf]; omega
                · obtain rfl : j = (f m).bl := by omega
                  have HR6 : Hid (Reads w B g lb wr (wrote f (m + 1)).length) := Lib.hid (by rw [HLN.out, HLL.out]; exact HRj.out)
                  obtain ⟨_, _, _, d3, _, _, _, _, _⟩ := HOW.out.below (Nat.le_refl _) HRj.out.below
                  go_wp2_with fail
                  go_roundw
                  case rel => exact ⟨m + 1, by omega, by go_num, HR6⟩
                  case measure => simp [intOf]; omega
            · have h3i : ((f m).kind % 4 != 3) = true := by simpa using h3
              have HLN : Hid ((wrote f (m + 1)).length = (wrote f m).length + (1 + q)) := Lib.hid (by rw [wrote_len f m h3, HQ.out])
              go_wp2_with fail
              refine HGET.out.mono ?_
              rintro e w4 ⟨rfl, hr4, ho4⟩
              have HR4 : Hid (Reads w B g lb w4 (wrote f (m + 1)).length) := Lib.hid (by rw [HLN.out]; exact HR.out.read hr4 ho4)
              obtain ⟨d0, _, d2, d3, _, _, _, _, _⟩ := HOW.out.below (Nat.le_refl _) HR4.out.below
              clear hr4 ho4 HGET
              go_wp2_with fail
              go_roundw
              case rel => exact ⟨m + 1, by omega, by go_num, HR4⟩
              case measure => simp [intOf]; omega
          · obtain rfl : m = k := by omega
            have HN' := HN
            first
              | (have hd : ¬ (m : Int) < 40 := by have := HN'.out; omega)
              | (have hd : ¬ (m : Int) < (len : Int) := by have := HN'.out; omega)
            clear HX1 HX2 HSM HAT
            go_wp2_with fail
            refine (told_any _).mono ?_
            rintro e w4 ⟨rfl, hb4⟩
            have HB4 : Hid (Below w.heap.size w w4) := Lib.hid (HR.out.below.trans (hb4.mono HR.out.below.size))
            clear hb4
            go_wp2_with fail
            go_ret
            exact ⟨rfl, HB4.out⟩
end Go.Proofs.Ytfnjokoeaboliaa.BitC
