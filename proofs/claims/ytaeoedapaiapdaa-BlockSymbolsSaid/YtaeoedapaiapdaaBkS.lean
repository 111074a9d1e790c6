/-
  begin, storeOne, Store: bytes as stored blocks.
-/
import Derived.Test.YtaeoedapaiapdaaBitY
import Derived.Test.YtaeoedapaiapdaaBkRd
import Derived.Deep.DeepCutAuto
import Derived.Deep.CutBlock
namespace Go.Proofs.Ytaeoedapaiapdaa.BlkC
open Go.RowKit Go.My BitMath BitC
open InfMath (bn gap stb stbs)

theorem begin_any (B g : Nat) (r : Option Nat) (bs : List Bool) (k : Nat) (last : Bool) (w : World) (hk : k ≤ 2) (hw : Wr B w g r bs) (hl : bs.length ≤ 100000000000) :
    Calls Try.prog 38 #[.pointer (some ⟨g, 0, none⟩), .int .u32 (k : Int), .bool last] w (Wrote B g r w (bs ++ lows 3 (bn k last))) := by
  have HP := Lib.hid (put_any (bn k last) 3 B g r bs w (by unfold bn; split <;> omega) (by omega) (by omega) hw hl)
  clear hw
  have HB : Hid (bn k last = 2 * k + if last then 1 else 0) := Lib.hid rfl
  obtain ⟨b, hb⟩ : ∃ b, b = bn k last := ⟨_, rfl⟩
  rw [← hb] at HP HB
  rcases (by omega : k = 0 ∨ k = 1 ∨ k = 2) with rfl | rfl | rfl
  all_goals
    cases last
    all_goals
      have e := HB.out
      simp only [if_true, Bool.false_eq_true, if_false] at e
      subst e
      clear hb HB
      go_enter Try.func38, Try.ntmps38
      go_wp2_with fail
      refine HP.out.mono ?_
      rintro e w' ⟨r', rfl, h⟩
      go_wp2_with fail
      go_end0
      exact ⟨r', rfl, h⟩
theorem u32_not (N : Nat) (h : N < 65536) : bits .xor .u32 4294967295 (N : Int) = ((4294967295 - N : Nat) : Int) := by
  rw [show (4294967295 : Int) = ((4294967295 : Nat) : Int) from rfl, u32_xor_nat _ _ (by omega) (by omega)]
  congr 1
  have h1 : (BitVec.allOnes 32 ^^^ BitVec.ofNat 32 N).toNat = (~~~(BitVec.ofNat 32 N)).toNat := by rw [BitVec.allOnes_xor]
  rw [BitVec.toNat_xor, BitVec.toNat_not, BitVec.toNat_allOnes, BitVec.toNat_ofNat, Nat.mod_eq_of_lt (by omega)] at h1
  exact h1
/-- Where a slice lies, another's blocks are not. -/
theorem sep_next {w : World} {g : Nat} {r r' : Option Nat} {a : Option Addr} {len cap : Nat} {l : List UInt8} (hb : Bytes w a len cap l) (h : 0 < len → ∀ b off, a = some ⟨b, off, none⟩ → ¬ Fp g r b) (hn : Nxt r w.heap.size r') : 0 < len → ∀ b off, a = some ⟨b, off, none⟩ → ¬ Fp g r' b := by
  intro h0 b off ha
  have h1 := h h0 b off ha
  rcases hb.at_ with hz | ⟨b', off', ha', hlt, -⟩
  · omega
  · rw [ha] at ha'
    injection ha' with ha'
    injection ha' with ha' _
    subst ha'
    rintro (rfl | hk)
    · exact h1 (.inl rfl)
    · rcases hn with rfl | ⟨k, rfl, hk2⟩
      · exact h1 (.inr hk)
      · injection hk with hk; omega
set_option maxRecDepth 100000 in
set_option maxHeartbeats 4000000 in
theorem one_any (B g : Nat) (r : Option Nat) (bs : List Bool) (c : List UInt8) (last : Bool) (a : Option Addr) (len cap : Nat) (w : World) (hc : len ≤ 65535) (hw : Wr B w g r bs) (hl : bs.length ≤ 10000000000) (hb : Bytes w a len cap c) (hsep : 0 < len → ∀ b off, a = some ⟨b, off, none⟩ → ¬ Fp g r b) :
    Calls Try.prog 30 #[.pointer (some ⟨g, 0, none⟩), .slice a len cap, .bool last] w (Wrote B g r w (bs ++ stb bs.length c last)) := by
  have hcl := hb.len_eq
  obtain ⟨T, hT⟩ : ∃ T, T = bs ++ stb bs.length c last := ⟨_, rfl⟩
  rw [← hT]
  have HT : Hid (T = pad (pad (bs ++ lows 3 (bn 0 last)) ++ lows 16 len ++ lows 16 (4294967295 - len)) ++ bitsOf c) := Lib.hid (by
    have e1 : pad (bs ++ lows 3 (bn 0 last)) = bs ++ lows 3 (bn 0 last) ++ List.replicate (gap bs.length) false := by
      unfold pad gap; rw [List.length_append, lows_len]
    have e2 : (pad (bs ++ lows 3 (bn 0 last))).length % 8 = 0 := by rw [pad_len]; omega
    have e3 : lows 16 (4294967295 - len) = lows 16 (65535 - len) := by
      rw [← lows_mod 16 (4294967295 - len), show (4294967295 - len) % 2 ^ 16 = 65535 - len from by omega]
    rw [pad_full _ (by rw [List.length_append, List.length_append, lows_len, lows_len]; omega), e1, e3, hT]
    unfold stb
    rw [hcl]
    simp only [List.append_assoc])
  have HB := Lib.hid hb
  have HS := Lib.hid hsep
  have hx := u32_not len (by omega)
  have hcv : IntKind.u32.wrap (len : Int) = (len : Int) := by rw [IntKind.wrap_u32]; omega
  have h0 := begin_any B g r bs 0 last w (by omega) hw (by omega)
  have H0 := Lib.hid h0
  clear hT hb hsep hw h0
  go_enter Try.func30, Try.ntmps30
  go_wp2_with fail
  refine H0.out.mono ?_
  rintro e w1 ⟨r1, rfl, hw1, ho1, hn1⟩
  have HO1 := Lib.hid ho1
  have HN1 := Lib.hid hn1
  have HA := Lib.hid (align_any B g r1 _ w1 hw1 (by rw [List.length_append, lows_len]; omega))
  clear hw1 ho1 hn1 H0
  go_wp2_with fail
  refine HA.out.mono ?_
  rintro e w2 ⟨r2, rfl, hw2, ho2, hn2⟩
  have HO2 := Lib.hid (HO1.out.next HN1.out ho2)
  have HN2 := Lib.hid (HN1.out.trans hn2 HO1.out.size)
  have HP := Lib.hid (put_any len 16 B g r2 _ w2 (by omega) (by omega) (by omega) hw2 (by rw [pad_len, List.length_append, lows_len]; omega))
  clear hw2 ho2 hn2 HA HO1 HN1
  go_wp2_with fail
  refine HP.out.mono ?_
  rintro e w3 ⟨r3, rfl, hw3, ho3, hn3⟩
  have HO3 := Lib.hid (HO2.out.next HN2.out ho3)
  have HN3 := Lib.hid (HN2.out.trans hn3 HO2.out.size)
  have HQ := Lib.hid (put_any (4294967295 - len) 16 B g r3 _ w3 (by omega) (by omega) (by omega) hw3 (by rw [List.length_append, pad_len, List.length_append, lows_len, lows_len]; omega))
  clear hw3 ho3 hn3 HP HO2 HN2
  obtain ⟨N, hN⟩ : ∃ N, N = 4294967295 - len := ⟨_, rfl⟩
  rw [← hN] at hx HQ HT
  clear hN
  have hsg : (if IntKind.u32.signed = true then (-1 : Int) else IntKind.u32.max) = 4294967295 := by decide
  go_wp2_with fail
  refine HQ.out.mono ?_
  rintro e w4 ⟨r4, rfl, hw4, ho4, hn4⟩
  have HO4 := Lib.hid (HO3.out.next HN3.out ho4)
  have HN4 := Lib.hid (HN3.out.trans hn4 HO3.out.size)
  have hb4 := bytes_only HO4.out HB.out HS.out
  have HR := Lib.hid (raw_all B g r4 _ w4 hw4 (by rw [List.length_append, List.length_append, pad_len, List.length_append, lows_len, lows_len, lows_len]; omega) a len cap c hb4 (sep_next HB.out HS.out HN4.out) (by omega))
  clear hw4 ho4 hn4 hb4 HQ HO3 HN3 hx
  go_wp2_with fail
  refine HR.out.mono ?_
  rintro e w5 ⟨r5, rfl, hw5, ho5, hn5⟩
  go_wp2_with fail
  go_end0
  exact ⟨r5, rfl, by rw [HT.out]; exact hw5, HO4.out.next HN4.out ho5, HN4.out.trans hn5 HO4.out.size⟩
theorem bytes_take {w : World} {b off len cap : Nat} {l : List UInt8} (h : Bytes w (some ⟨b, off, none⟩) len cap l) (n : Nat) (hn : n ≤ len) (h0 : 0 < len) : Bytes w (some ⟨b, off, none⟩) n cap (l.take n) := by
  have hl := h.len_eq
  refine ⟨by rw [List.length_take]; omega, by have := h.le_cap; omega, h.cap_le, (fun e => by cases e), .inr ?_⟩
  rcases h.at_ with hz | ⟨b', off', ha, hlt, hc⟩
  · omega
  · exact ⟨b', off', ha, hlt, fun i hi => by rw [List.getElem_take]; exact hc i (by rw [List.length_take] at hi; omega)⟩
theorem bytes_drop {w : World} {b off len cap : Nat} {l : List UInt8} (h : Bytes w (some ⟨b, off, none⟩) len cap l) (n : Nat) (hn : n ≤ len) (h0 : 0 < len) : Bytes w (some ⟨b, off + n, none⟩) (len - n) (cap - n) (l.drop n) := by
  have hl := h.len_eq
  have hcc := h.le_cap
  have hcp := h.cap_le
  refine ⟨by rw [List.length_drop]; omega, by omega, by omega, (fun e => by cases e), .inr ?_⟩
  rcases h.at_ with hz | ⟨b', off', ha, hlt, hc⟩
  · omega
  · injection ha with ha
    injection ha with h1 h2
    subst h1 h2
    exact ⟨b, off + n, rfl, hlt, fun i hi => by
      rw [List.getElem_drop, Nat.add_assoc]; exact hc (n + i) (by rw [List.length_drop] at hi; omega)⟩
theorem stored_room (n p : Nat) (b : List UInt8) (last : Bool) (h : b.length ≤ n) : (stbs p b last).length ≤ 9 * n + 100 := by
  rw [InfMath.stbs_len n p b last h]
  have : gap p < 8 := by unfold gap; omega
  omega
set_option maxRecDepth 100000 in
set_option maxHeartbeats 4000000 in
theorem store_any (B g : Nat) (r : Option Nat) (bs : List Bool) (l : List UInt8) (last : Bool) (a : Option Addr) (len cap : Nat) (w : World) (hlen : len ≤ 100000000) (hw : Wr B w g r bs) (hl : bs.length ≤ 1000000000) (hb : Bytes w a len cap l) (hsep : 0 < len → ∀ b off, a = some ⟨b, off, none⟩ → ¬ Fp g r b) :
    Calls Try.prog 19 #[.pointer (some ⟨g, 0, none⟩), .slice a len cap, .bool last] w (Wrote B g r w (bs ++ stbs bs.length l last)) := by
  obtain ⟨T, hT⟩ : ∃ T, T = stbs bs.length l last := ⟨_, rfl⟩
  rw [← hT]
  have hTl : T.length ≤ 900000100 := by rw [hT]; exact Nat.le_trans (stored_room len _ l last (by rw [hb.len_eq]; omega)) (by omega)
  have HT := Lib.hid hT
  have HW := Lib.hid hw
  have HB := Lib.hid hb
  have HS := Lib.hid hsep
  clear hT hw hb hsep
  go_enter Try.func19, Try.ntmps19
  go_wp2_with fail
  go_loopw [1] (fun bv wr => ∃ (a' : Option Addr) (n c : Nat) (l' : List UInt8) (X : List Bool) (r' : Option Nat), bv = .slice a' n c ∧ n ≤ 100000000 ∧ X.length ≤ 900000100 ∧ Hid (X ++ stbs (bs.length + X.length) l' last = T) ∧ Hid (Bytes w a' n c l') ∧ Hid (0 < n → ∀ b off, a' = some ⟨b, off, none⟩ → ¬ Fp g r b) ∧
    Hid (Wr B wr g r' (bs ++ X)) ∧ Hid (Only (Fp g r) w wr) ∧ Hid (Nxt r w.heap.size r')) (fun bv _ => match bv with | .slice _ n _ => n | _ => 0)
  case atStart => exact ⟨a, len, cap, l, [], r, rfl, hlen, by simp, Lib.hid (by rw [List.nil_append, List.length_nil, Nat.add_zero]; exact HT.out.symm), HB, HS, Lib.hid (by rw [List.append_nil]; exact HW.out), Lib.hid (Only.refl _ _), Lib.hid (Nxt.refl _ _)⟩
  case round =>
    clear HB HS HW HT
    obtain ⟨a', n, c, l', X, r', rfl, hn, hX, HE, HB, HS, HW, HO, HN⟩ := hrel
    have hbl : (bs ++ X).length ≤ 1900000100 := by rw [List.length_append]; omega
    have HBW := Lib.hid (bytes_only HO.out HB.out HS.out)
    have HSW := Lib.hid (sep_next HB.out HS.out HN.out)
    by_cases hlt : 65535 < n
    · obtain ⟨b, off, rfl⟩ : ∃ b off, a' = some ⟨b, off, none⟩ := by
        rcases HB.out.at_ with hz | ⟨b, off, ha, -⟩
        · omega
        · exact ⟨b, off, ha⟩
      have hcap := HB.out.le_cap
      have hcap2 := HB.out.cap_le
      have hgt : (n : Int) > 65535 := by omega
      have hne : ¬ c = 65535 := by omega
      have hlen' := HB.out.len_eq
      have H1 := Lib.hid (one_any B g r' (bs ++ X) (l'.take 65535) false (some ⟨b, off, none⟩) 65535 c wr (Nat.le_refl _) HW.out (by omega) (bytes_take HBW.out 65535 (by omega) (by omega)) (fun _ => HSW.out (by omega)))
      have HE2 : Hid ((X ++ stb (bs ++ X).length (l'.take 65535) false) ++ stbs (bs.length + (X ++ stb (bs ++ X).length (l'.take 65535) false).length) (l'.drop 65535) last = T) := Lib.hid (by
        rw [← HE.out, InfMath.stbs_more _ l' last (by omega), List.append_assoc]
        congr 2
        · rw [List.length_append]
        · rw [List.length_append, List.length_append]; congr 1; omega)
      have HBD := Lib.hid (bytes_drop HB.out 65535 (by omega) (by omega))
      have HSD : Hid (0 < n - 65535 → ∀ b' off', (some ⟨b, off + 65535, none⟩ : Option Addr) = some ⟨b', off', none⟩ → ¬ Fp g r b') := Lib.hid (fun _ b' off' he => by
        injection he with he
        injection he with he _
        subst he
        exact HS.out (by omega) b off rfl)
      have hX2 : (X ++ stb (bs ++ X).length (l'.take 65535) false).length ≤ 900000100 := by
        have := congrArg List.length HE2.out
        rw [List.length_append] at this
        omega
      obtain ⟨Y, hY⟩ : ∃ Y, Y = X ++ stb (bs ++ X).length (l'.take 65535) false := ⟨_, rfl⟩
      have HY : Hid (bs ++ X ++ stb (bs ++ X).length (l'.take 65535) false = bs ++ Y) := Lib.hid (by rw [hY, List.append_assoc])
      rw [← hY] at HE2 hX2
      clear hY HW HB HS HBW HSW HE hbl hlen'
      go_wp2_with fail
      refine H1.out.mono ?_
      rintro e w1 ⟨r1, rfl, hw1, ho1, hn1⟩
      have HO1 := Lib.hid (HO.out.next HN.out ho1)
      have HN1 := Lib.hid (HN.out.trans hn1 HO.out.size)
      have HW1 : Hid (Wr B w1 g r1 (bs ++ Y)) := Lib.hid (by rw [← HY.out]; exact hw1)
      clear hw1 ho1 hn1 H1 HO HN HY
      go_wp2_with fail
      go_roundw
      case rel => exact ⟨_, n - 65535, c - 65535, _, Y, r1, by congr 1 <;> omega, by omega, hX2, HE2, HBD, HSD, HW1, HO1, HN1⟩
      case measure => simp; omega
    · have hgt : ¬ (n : Int) > 65535 := by omega
      have H1 := Lib.hid (one_any B g r' (bs ++ X) l' last a' n c wr (by omega) HW.out (by omega) HBW.out HSW.out)
      have HE2 : Hid (bs ++ X ++ stb (bs ++ X).length l' last = bs ++ T) := Lib.hid (by
        rw [List.append_assoc, ← HE.out, InfMath.stbs_one _ l' last (by rw [HB.out.len_eq]; omega), List.length_append])
      clear HW HB HS HBW HSW HE hbl
      go_wp2_with fail
      refine H1.out.mono ?_
      rintro e w1 ⟨r1, rfl, hw1, ho1, hn1⟩
      go_wp2_with fail
      go_end0
      exact ⟨r1, rfl, by rw [← HE2.out]; exact hw1, HO.out.next HN.out ho1, HN.out.trans hn1 HO.out.size⟩
theorem store_nil (a : Option Addr) (len cap : Nat) (last : Bool) (w : World) :
    Calls Try.prog 19 #[.pointer none, .slice a len cap, .bool last] w fun e w' => e = .returned (.tuple #[]) ∧ w = w' := by
  go_enter Try.func19, Try.ntmps19
  go_wp2_with fail
  refine bodyPost_ret (results_none rfl _ _ _) rfl ?_
  exact ⟨rfl, rfl⟩
end Go.Proofs.Ytaeoedapaiapdaa.BlkC
