import Derived.Test.YtilfmmjjiiabgaaGreatDoorMgAr
import Derived.Test.YtilfmmjjiiabgaaGreatDoorMgAn

section
namespace Go.Proofs.YtilfmmjjiiabgaaGreatDoor.FeedC
open Go.RowKit Go.My BitMath RefC

set_option maxRecDepth 100000 in
set_option maxHeartbeats 2000000 in
theorem push_open (B f pushed : Nat) (F : Nat → Prop) (bs : List Bool) (w : World) (h : Fed B w f F bs pushed false) (a : Option Addr) (len cap : Nat) (l : List UInt8) (hb : Bytes w a len cap l) (hfar : ∀ b off, a = some ⟨b, off, none⟩ → ¬ F b)
    (hl : bs.length ≤ 1000000000) (hp : pushed ≤ 1000000000) (hlen : len ≤ 1000000000) :
    Calls Tryz.prog 59 #[.pointer (some ⟨f, 0, none⟩), .slice a len cap] w fun e w' => e = .returned (.tuple #[]) ∧ Done B f F w (bs ++ bitsOf l) (pushed + len) false w' := by
  obtain ⟨q, ps, word, count, h1, h2, h3, rfl⟩ := h
  have hc4 := h1.blk.cell 4
  have hc2 := h1.blk.cell 2
  have hc3 := h1.blk.cell 3
  have hf3 := h1.blk.frozen 3
  simp only [List.getElem?_toArray, List.getElem?_cons_zero, List.getElem?_cons_succ] at hc2 hc3 hc4
  have hO : Only (fun k => k = f) w (w.setCell ⟨f, 3, none⟩ (.int .i64 ((pushed : Int) + (len : Int)))) := (Only.refl (fun k => k = f) w).setCell (p := ⟨f, 3, none⟩) (fun _ => rfl) _
  have hA : FAt B (w.setCell ⟨f, 3, none⟩ (.int .i64 ((pushed : Int) + (len : Int)))) f q ps word count (pushed + len) false := by
    refine ⟨?_, h1.que.only hO (fun e => h1.far (Or.inl e.symm)) (fun k hk e => h1.far (Or.inr (e ▸ hk))), h1.base, h1.small, h1.most⟩
    rw [show ((pushed + len : Nat) : Int) = (pushed : Int) + (len : Int) from by omega]
    exact h1.blk.set_ 3 _
  have hby := hO.bytes hb (fun b off e hbf => hfar b off e (Or.inl hbf))
  have hbl : bs.length = count + 8 * (cat ps).length := by rw [h3, bits_len]
  have hpu := push_any B q (cat ps).length ps _ hA.que a len cap l hby (fun b off e hq => hfar b off e (Or.inr hq)) (by omega) (by omega)
  have HPU := Lib.hid hpu
  have HA := Lib.hid hA
  have HO : Hid (Only (FFoot f q ps) w (w.setCell ⟨f, 3, none⟩ (.int .i64 ((pushed : Int) + (len : Int))))) := Lib.hid (hO.mono (fun k _ e => .inl e))
  have H3 := Lib.hid h3
  have HL := Lib.hid hb.len_eq
  clear h1 h2 h3 hO hA hby hpu hb hfar
  go_enter Tryz.func59, Tryz.ntmps59
  go_wp2_with fail
  refine HPU.out.mono ?_
  rintro e w2 ⟨rfl, ps2, hq2, hc2', ho2, hn2⟩
  have hA2 : FAt B w2 f q ps2 word count (pushed + len) false := ⟨ho2.blk HA.out.blk HA.out.far, by rw [hc2', List.length_append, HL.out]; exact hq2, HA.out.base, HA.out.small, HA.out.most⟩
  have HA2 := Lib.hid hA2
  have HO2 := Lib.hid ho2
  have HN2 := Lib.hid hn2
  have HC2 := Lib.hid hc2'
  have hl2 : (cat ps2).length ≤ 100000000000 := by rw [hc2', List.length_append, HL.out]; omega
  clear hA2 ho2 hn2 hc2' hq2 HPU
  go_wp2_with fail
  refine (fill_any B f q ps2 word count (pushed + len) false w2 HA2.out hl2).mono ?_
  rintro e w3 ⟨rfl, ps3, word3, count3, hF, h32⟩
  have HF := Lib.hid hF
  have H32 := Lib.hid h32
  clear hF h32
  go_wp2_with fail
  go_end0
  have hO2 : Only (FFoot f q ps) w w2 := HO.out.trans HO2.out (fun i _ e => .inr e)
  have hs1 := HO.out.size
  have hs2 := hO2.size
  have hsub : ∀ k, FFoot f q ps2 k → FFoot f q ps k ∨ w.heap.size ≤ k := by
    rintro k (e | e)
    · exact .inl (.inl e)
    · rcases HN2.out k e with e | e
      · exact .inl (.inr e)
      · exact .inr (by omega)
  refine ⟨rfl, FFoot f q ps3, ⟨q, ps3, word3, count3, HF.out.at_, H32.out, ?_, rfl⟩, hO2.trans HF.out.only (fun i hi e => ?_), fun k hk => ?_⟩
  · rw [HF.out.eq, H3.out]
    unfold bits'
    rw [HC2.out, bitsOf_append, List.append_assoc]
  · rcases hsub i e with e | e
    · exact e
    · omega
  · refine hsub k ?_
    rcases hk with e | e
    · exact .inl e
    · exact .inr (HF.out.sub k e)

/-! ### Take -/
/-- What Take tells: the bytes, an error, the bits that are left. -/
def takeBits (bs : List Bool) (n : Int) : List Bool := if n < 0 then bs else if ((bs.length / 8 : Nat) : Int) < n then bs.drop (bs.length % 8) else (bs.drop (bs.length % 8)).drop (8 * n.toNat)
def takeCode (bs : List Bool) (n : Int) : Int := if n < 0 then 1 else if ((bs.length / 8 : Nat) : Int) < n then 5 else 0
def takeBytes (bs : List Bool) (n : Int) : List Bool := if n < 0 then [] else if ((bs.length / 8 : Nat) : Int) < n then [] else (bs.drop (bs.length % 8)).take (8 * n.toNat)

theorem next_fed (n : Nat) (B f pushed : Nat) (F : Nat → Prop) (bs : List Bool) (ended : Bool) (w : World) (h : Fed B w f F bs pushed ended) (h8 : bs.length % 8 = 0) (hn : 8 * n ≤ bs.length) (hl : bs.length ≤ 10000000000) :
    Calls Tryz.prog 114 #[.pointer (some ⟨f, 0, none⟩), .int .i64 (n : Int)] w fun e w' => ∃ v l, e = .returned v ∧ Own 5 w.heap.size w' v l ∧ Below w.heap.size w w' ∧ bitsOf l = bs.take (8 * n) := by
  obtain ⟨q, ps, word, count, h1, h2, rfl, rfl⟩ := h
  rw [bits_len] at h8 hn hl
  exact next_any B f q ps word count pushed n ended w h1 (by omega) hn (by omega)

theorem own_lower {E : TypeId} {B B' : Nat} {w : World} {v : Value} {l : List UInt8} (h : Own E B w v l) (hB : B' ≤ B) : Own E B' w v l := by
  obtain ⟨h1, h2⟩ := h
  refine ⟨h1, ?_⟩
  rcases h2 with h2 | ⟨g, cap, cur, h3, h4, h5⟩
  · exact .inl h2
  · exact .inr ⟨g, cap, cur, h3, by omega, h5⟩
/-- The same, with where the row lies: apart from the feed. -/
def TakenO (B f : Nat) (F : Nat → Prop) (bs : List Bool) (pushed : Nat) (ended : Bool) (n : Int) (w : World) (e : Ending) (w' : World) : Prop :=
  ∃ a c l, e = .returned (.tuple #[.slice a l.length c, .int .i64 (takeCode bs n)]) ∧ Own 5 w.heap.size w' (.slice a l.length c) l ∧ bitsOf l = takeBytes bs n ∧
    ∃ F', Fed B w' f F' (takeBits bs n) pushed ended ∧ Only F w w' ∧ (∀ k, F' k → F k ∨ w.heap.size ≤ k) ∧ ∀ k, Value.ownBlock (.slice a l.length c) = some k → ¬ F' k
theorem TakenO.none_ {B f : Nat} {F : Nat → Prop} {bs bs2 : List Bool} {pushed : Nat} {ended : Bool} {n z : Int} {w w' : World} (h1 : takeCode bs n = z) (h2 : takeBytes bs n = []) (h3 : takeBits bs n = bs2) (h : Done B f F w bs2 pushed ended w') :
    TakenO B f F bs pushed ended n w (.returned (.tuple #[.slice none 0 0, .int .i64 z])) w' := by
  obtain ⟨F', a1, a2, a3⟩ := h
  exact ⟨none, 0, [], by rw [h1]; rfl, Own.nil _ _ _, by rw [h2]; rfl, F', by rw [h3]; exact a1, a2, a3, fun k hk => by cases hk⟩

set_option maxHeartbeats 2000000 in
theorem take_own (n : Int) (B f pushed : Nat) (F : Nat → Prop) (bs : List Bool) (ended : Bool) (w : World) (h : Fed B w f F bs pushed ended) (hl : bs.length ≤ 1000000000) :
    Calls Tryz.prog 94 #[.pointer (some ⟨f, 0, none⟩), .int .i64 n] w (TakenO B f F bs pushed ended n w) := by
  have H := Lib.hid h
  clear h
  by_cases h0 : n < 0
  · have HC : Hid (takeCode bs n = 1 ∧ takeBits bs n = bs ∧ takeBytes bs n = []) := Lib.hid ⟨if_pos h0, if_pos h0, if_pos h0⟩
    go_enter Tryz.func94, Tryz.ntmps94
    go_wp2_with fail
    go_ret2
    exact TakenO.none_ HC.out.1 HC.out.2.2 HC.out.2.1 (Done.refl H.out)
  · obtain ⟨m, rfl⟩ : ∃ m : Nat, n = (m : Int) := ⟨n.toNat, by omega⟩
    obtain ⟨bs1, hbs1⟩ : ∃ x, x = bs.drop (bs.length % 8) := ⟨_, rfl⟩
    have hl1 : bs1.length = 8 * (bs.length / 8) := by rw [hbs1, List.length_drop]; omega
    have HB := Lib.hid hbs1
    have HL1 := Lib.hid hl1
    have hl2 : bs1.length ≤ 1000000000 := by omega
    have hdv : bs1.length / 8 = bs.length / 8 := by omega
    have HDV := Lib.hid hdv
    clear hbs1
    by_cases hm : bs1.length / 8 < m
    · have HC : Hid (takeCode bs m = 5 ∧ takeBits bs m = bs1 ∧ takeBytes bs m = []) := Lib.hid ⟨by unfold takeCode; rw [if_neg h0, if_pos (by omega)], by unfold takeBits; rw [if_neg h0, if_pos (by omega), HB.out], by unfold takeBytes; rw [if_neg h0, if_pos (by omega)]⟩
      clear hl1 hdv
      go_enter Tryz.func94, Tryz.ntmps94
      go_wp2_with fail
      refine (align_any B f pushed F bs ended w H.out (by omega)).mono ?_
      rw [← HB.out]
      rintro e w1 ⟨rfl, F1, hf1, ho1, hs1⟩
      have HF1 := Lib.hid hf1
      have HO1 := Lib.hid ho1
      have HS1 := Lib.hid hs1
      clear hf1 ho1 hs1
      go_wp2_with fail
      refine (bits_any B f pushed F1 bs1 ended w1 HF1.out (by omega)).mono ?_
      rintro e w' ⟨rfl, k, rfl⟩
      go_wp2_with fail
      go_ret2
      exact TakenO.none_ HC.out.1 HC.out.2.2 HC.out.2.1 (Done.trans HO1.out HS1.out (Done.drewN HF1.out k))
    · have HC : Hid (takeCode bs m = 0 ∧ takeBits bs m = bs1.drop (8 * m) ∧ takeBytes bs m = bs1.take (8 * m)) := Lib.hid ⟨by unfold takeCode; rw [if_neg h0, if_neg (by omega)], by unfold takeBits; rw [if_neg h0, if_neg (by omega), HB.out]; rfl, by unfold takeBytes; rw [if_neg h0, if_neg (by omega), HB.out]; rfl⟩
      have hm8 : 8 * m ≤ bs1.length := by omega
      have h8 : bs1.length % 8 = 0 := by omega
      have H8 := Lib.hid h8
      clear hl1 hdv h8
      by_cases hz : m = 0
      · subst hz
        go_enter Tryz.func94, Tryz.ntmps94
        go_wp2_with fail
        refine (align_any B f pushed F bs ended w H.out (by omega)).mono ?_
        rw [← HB.out]
        rintro e w1 ⟨rfl, F1, hf1, ho1, hs1⟩
        have HF1 := Lib.hid hf1
        have HO1 := Lib.hid ho1
        have HS1 := Lib.hid hs1
        clear hf1 ho1 hs1
        go_wp2_with fail
        refine (bits_any B f pushed F1 bs1 ended w1 HF1.out (by omega)).mono ?_
        rintro e w' ⟨rfl, k, rfl⟩
        go_wp2_with fail
        go_ret2
        exact TakenO.none_ HC.out.1 HC.out.2.2 HC.out.2.1 (Done.trans HO1.out HS1.out (Done.drewN HF1.out k))
      · have hmz : ((m : Int) == 0) = false := by simp; omega
        have hw8 : IntKind.i64.wrap (8 * (m : Int)) = ((8 * m : Nat) : Int) := by rw [IntWalk.i64_in _ (by omega)]; omega
        go_enter Tryz.func94, Tryz.ntmps94
        go_wp2_with fail
        refine (align_any B f pushed F bs ended w H.out (by omega)).mono ?_
        rw [← HB.out]
        rintro e w1 ⟨rfl, F1, hf1, ho1, hs1⟩
        have HF1 := Lib.hid hf1
        have HO1 := Lib.hid ho1
        have HS1 := Lib.hid hs1
        clear hf1 ho1 hs1
        go_wp2_with fail
        refine (bits_any B f pushed F1 bs1 ended w1 HF1.out (by omega)).mono ?_
        rintro e w' ⟨rfl, k, rfl⟩
        go_wp2_with fail
        refine (next_fed m B f pushed F1 bs1 ended _ (HF1.out.drewN k) H8.out hm8 (by omega)).mono ?_
        rintro e w2 ⟨v, l, rfl, hv, hb2, hbl⟩
        have HV := Lib.hid hv
        have HB2 := Lib.hid hb2
        have HBL := Lib.hid hbl
        have HF2 := Lib.hid ((HF1.out.drewN k).below hb2)
        obtain ⟨a, c, rfl, hby⟩ := hv.bytes
        clear hv hb2 hbl hby
        go_wp2_with fail
        refine (use_fed (8 * m) B f pushed F1 bs1 ended w2 HF2.out hm8 (by omega)).mono ?_
        rintro e w3 ⟨rfl, hd⟩
        have HD := Lib.hid hd
        clear hd
        go_wp2_with fail
        go_ret2
        have hO2 : Only F w w2 := (HO1.out.drewN k).then_below HB2.out
        have hsz := HB2.out.size
        obtain ⟨F3, h1, h2, h3⟩ := HD.out
        have hlie : ∀ j, Value.ownBlock (.slice a l.length c) = some j → w1.heap.size ≤ j ∧ j < w2.heap.size := fun j hj => by
          have := World.ownsRow.lt HV.out j hj
          simpa [World.drewN] using this
        have hF1 : ∀ j, F1 j → j < w1.heap.size := fun j hj => (HF1.out.lt j hj).2
        have ho : Own 5 w.heap.size w3 (.slice a l.length c) l := by
          have h4 := h2.own HV.out (fun j hj hF => by have := hlie j hj; have := hF1 j hF; omega)
          have h5 := HO1.out.size
          exact own_lower h4 (by simpa [World.drewN] using h5)
        obtain ⟨F4, k1, k2, k3⟩ := Done.trans hO2 HS1.out (show Done B f F1 w2 (bs1.drop (8 * m)) pushed ended w3 from ⟨F3, h1, h2, h3⟩)
        refine ⟨a, c, l, by rw [HC.out.1]; rfl, ho, by rw [HC.out.2.2]; exact HBL.out, F3, by rw [HC.out.2.1]; exact h1, k2, fun j hj => ?_, fun j hj hF => ?_⟩
        · rcases h3 j hj with e | e
          · exact HS1.out j e
          · have := HO1.out.size; have := HB2.out.size; simp [World.drewN] at this; exact .inr (by omega)
        · have h6 := hlie j hj
          rcases h3 j hF with e | e
          · have := hF1 j e; omega
          · omega
end Go.Proofs.YtilfmmjjiiabgaaGreatDoor.FeedC
end

section
/-
  Canonical prefix codes: Kraft's sum, the first code of each length, codes; no code is the beginning of another one. Plain lists of numbers: no program, no dump.
-/
namespace CanMath
open BitMath

/-- So many rows of 15 bits begin with a code of n bits. -/
def share (n : Nat) : Nat := if n = 0 then 0 else 2 ^ (15 - n)
/-- Kraft's sum. -/
def kr (ls : List Nat) : Nat := (ls.map share).sum
/-- The rows that begin with a code shorter than n. -/
def low (ls : List Nat) (n : Nat) : Nat := (ls.map fun x => if x < n then share x else 0).sum
/-- The first code of n bits. -/
def first (ls : List Nat) : Nat → Nat
  | 0 => 0
  | 1 => 0
  | n + 2 => 2 * (first ls (n + 1) + ls.count (n + 1))
/-- The code of the symbol at place i, of n bits. -/
def codeN (ls : List Nat) (n i : Nat) : Nat := first ls n + (ls.take i).count n
theorem kr_cons (x : Nat) (t : List Nat) : kr (x :: t) = share x + kr t := by simp [kr]
theorem share_le (n : Nat) : share n ≤ 16384 := by
  unfold share
  split
  · omega
  · rw [show 16384 = 2 ^ 14 from rfl]; exact Nat.pow_le_pow_right (by omega) (by omega)
theorem share_pos {n : Nat} (h : 0 < n) : 0 < share n := by
  unfold share; rw [if_neg (by omega)]; exact Nat.two_pow_pos _
theorem kr_le (ls : List Nat) : kr ls ≤ 16384 * ls.length := by
  induction ls with
  | nil => simp [kr]
  | cons x t ih => rw [kr_cons, List.length_cons]; have := share_le x; omega
theorem count_take_succ (ls : List Nat) (i n : Nat) (h : i < ls.length) : (ls.take (i + 1)).count n = (ls.take i).count n + (if ls[i] = n then 1 else 0) := by
  rw [List.take_succ_eq_append_getElem h, List.count_append, List.count_singleton]
  simp
theorem count_take_le (ls : List Nat) (i n : Nat) : (ls.take i).count n ≤ ls.count n := (List.take_sublist i ls).count_le n

theorem low_zero (ls : List Nat) : low ls 0 = 0 := by
  unfold low; induction ls <;> simp_all
theorem low_one (ls : List Nat) : low ls 1 = 0 := by
  unfold low
  induction ls with
  | nil => rfl
  | cons x t ih =>
    rw [List.map_cons, List.sum_cons, ih]
    split
    · rw [show x = 0 from by omega]; rfl
    · rfl
theorem low_succ (ls : List Nat) (n : Nat) : low ls (n + 1) = low ls n + ls.count n * share n := by
  unfold low
  induction ls with
  | nil => simp
  | cons x t ih =>
    rw [List.map_cons, List.sum_cons, ih, List.map_cons, List.sum_cons, List.count_cons, Nat.add_mul]
    by_cases h1 : x < n
    · rw [if_pos (by omega), if_pos h1, if_neg (by simp; omega)]; omega
    · by_cases h2 : x = n
      · subst h2; simp; omega
      · rw [if_neg (by omega), if_neg h1, if_neg (by simp; omega)]; omega
theorem low_mono (ls : List Nat) {a b : Nat} (h : a ≤ b) : low ls a ≤ low ls b := by
  induction h with
  | refl => exact Nat.le_refl _
  | step _ ih => rw [Nat.succ_eq_add_one, low_succ]; omega
theorem low_all (ls : List Nat) (h : ∀ x ∈ ls, x ≤ 15) : low ls 16 = kr ls := by
  unfold low kr
  induction ls with
  | nil => rfl
  | cons x t ih =>
    rw [List.map_cons, List.sum_cons, List.map_cons, List.sum_cons, ih (fun y hy => h y (List.mem_cons_of_mem _ hy)), if_pos (by have := h x (List.mem_cons_self ..); omega)]

theorem first_low (ls : List Nat) (n : Nat) (h1 : 1 ≤ n) (h2 : n ≤ 15) : first ls n * 2 ^ (15 - n) = low ls n := by
  induction n with
  | zero => omega
  | succ n ih =>
    cases n with
    | zero => rw [low_one]; simp [first]
    | succ n =>
      rw [first, low_succ, ← ih (by omega) (by omega)]
      have e : share (n + 1) = 2 ^ (15 - (n + 1)) := by unfold share; rw [if_neg (by omega)]
      rw [e, show 15 - (n + 1) = (15 - (n + 1 + 1)) + 1 from by omega, Nat.pow_succ, ← Nat.add_mul, Nat.mul_comm 2, Nat.mul_assoc, Nat.mul_comm 2]

/-- Where the rows begin that begin with a code. -/
def start (ls : List Nat) (n i : Nat) : Nat := codeN ls n i * 2 ^ (15 - n)
theorem start_eq (ls : List Nat) (n i : Nat) (h1 : 1 ≤ n) (h2 : n ≤ 15) : start ls n i = low ls n + (ls.take i).count n * share n := by
  unfold start codeN
  rw [Nat.add_mul, first_low ls n h1 h2]
  have e : share n = 2 ^ (15 - n) := by unfold share; rw [if_neg (by omega)]
  rw [e]
theorem start_end (ls : List Nat) (n i : Nat) (hi : i < ls.length) (hn : ls[i] = n) (h1 : 1 ≤ n) (h2 : n ≤ 15) : start ls n i + share n ≤ low ls (n + 1) := by
  rw [start_eq ls n i h1 h2, low_succ]
  have h := count_take_le ls (i + 1) n
  rw [count_take_succ ls i n hi, if_pos hn] at h
  have := Nat.mul_le_mul_right (share n) h
  rw [Nat.add_mul, Nat.one_mul] at this
  omega
theorem start_le (ls : List Nat) (n i : Nat) (h1 : 1 ≤ n) (h2 : n ≤ 15) : low ls n ≤ start ls n i := by
  rw [start_eq ls n i h1 h2]; omega

/-- The codes' rows lie one behind the other, by length and place. -/
theorem apart_len (ls : List Nat) (i k : Nat) {n : Nat} (hi : i < ls.length) (h1 : 1 ≤ ls[i]) (hk15 : n ≤ 15) (hlt : ls[i] < n) : start ls ls[i] i + share ls[i] ≤ start ls n k :=
  Nat.le_trans (start_end ls _ i hi rfl h1 (by omega)) (Nat.le_trans (low_mono ls (by omega)) (start_le ls n k (by omega) hk15))
theorem count_lt (ls : List Nat) (i k n : Nat) (hi : i < ls.length) (hn : ls[i] = n) (hik : i < k) : (ls.take i).count n + 1 ≤ (ls.take k).count n := by
  have h := count_take_succ ls i n hi
  rw [if_pos hn] at h
  rw [← h]
  have e : ls.take (i + 1) = (ls.take k).take (i + 1) := by rw [List.take_take, Nat.min_eq_left (by omega)]
  rw [e]
  exact count_take_le _ _ _
theorem apart_place (ls : List Nat) (i k : Nat) (hi : i < ls.length) (h1 : 1 ≤ ls[i]) (h2 : ls[i] ≤ 15) (hik : i < k) : start ls ls[i] i + share ls[i] ≤ start ls ls[i] k := by
  rw [start_eq ls _ i h1 h2, start_eq ls _ k h1 h2]
  have := Nat.mul_le_mul_right (share ls[i]) (count_lt ls i k ls[i] hi rfl hik)
  rw [Nat.add_mul, Nat.one_mul] at this
  omega
theorem start_room (ls : List Nat) (hall : ∀ x ∈ ls, x ≤ 15) (i : Nat) (hi : i < ls.length) (h1 : 1 ≤ ls[i]) : start ls ls[i] i + share ls[i] ≤ kr ls := by
  rw [← low_all ls hall]
  have h2 := hall ls[i] (List.getElem_mem hi)
  exact Nat.le_trans (start_end ls _ i hi rfl h1 h2) (low_mono ls (by omega))
theorem share_eq {n : Nat} (h : 1 ≤ n) : share n = 2 ^ (15 - n) := by unfold share; rw [if_neg (by omega)]
/-- A code has no more bits than its length says. -/
theorem codeN_lt (ls : List Nat) (hall : ∀ x ∈ ls, x ≤ 15) (hk : kr ls ≤ 32768) (i : Nat) (hi : i < ls.length) (h1 : 1 ≤ ls[i]) : codeN ls ls[i] i < 2 ^ ls[i] := by
  have h := start_room ls hall i hi h1
  have h2 := hall ls[i] (List.getElem_mem hi)
  have hp := share_pos (n := ls[i]) (by omega)
  rw [share_eq h1] at h hp
  unfold start at h
  have e : 32768 = 2 ^ ls[i] * 2 ^ (15 - ls[i]) := by rw [← Nat.pow_add, show ls[i] + (15 - ls[i]) = 15 from by omega]
  generalize codeN ls ls[i] i = c at *
  by_cases hc : c < 2 ^ ls[i]
  · exact hc
  · have := Nat.mul_le_mul_right (2 ^ (15 - ls[i])) (show 2 ^ ls[i] ≤ c by omega)
    omega

/-- A row of 15 bits begins with the code. -/
def Fits (ls : List Nat) (r i : Nat) : Prop := ∃ h : i < ls.length, 1 ≤ ls[i] ∧ r / 2 ^ (15 - ls[i]) = codeN ls ls[i] i
theorem div_iff (r c m : Nat) : r / 2 ^ m = c ↔ c * 2 ^ m ≤ r ∧ r < c * 2 ^ m + 2 ^ m := by
  have hp : 0 < 2 ^ m := Nat.two_pow_pos m
  constructor
  · rintro rfl
    exact ⟨Nat.div_mul_le_self _ _, Nat.lt_div_mul_add hp⟩
  · rintro ⟨h1, h2⟩
    exact Nat.div_eq_of_lt_le h1 (by rw [Nat.succ_mul]; exact h2)
theorem fits_iff (ls : List Nat) (r i : Nat) (h : i < ls.length) (h1 : 1 ≤ ls[i]) : (r / 2 ^ (15 - ls[i]) = codeN ls ls[i] i) ↔ start ls ls[i] i ≤ r ∧ r < start ls ls[i] i + share ls[i] := by
  rw [div_iff, share_eq h1]; rfl
/-- Two codes: one lies behind the other. -/
theorem sides (ls : List Nat) (hall : ∀ x ∈ ls, x ≤ 15) (i k : Nat) (hi : i < ls.length) (hk : k < ls.length) (h1 : 1 ≤ ls[i]) (k1 : 1 ≤ ls[k]) (hne : i ≠ k) :
    start ls ls[i] i + share ls[i] ≤ start ls ls[k] k ∨ start ls ls[k] k + share ls[k] ≤ start ls ls[i] i := by
  have h15 := hall ls[i] (List.getElem_mem hi)
  have k15 := hall ls[k] (List.getElem_mem hk)
  by_cases hlt : ls[i] < ls[k]
  · exact .inl (apart_len ls i k hi h1 k15 hlt)
  · by_cases hgt : ls[k] < ls[i]
    · exact .inr (apart_len ls k i hk k1 h15 hgt)
    · have e : ls[i] = ls[k] := by omega
      by_cases hik : i < k
      · have := apart_place ls i k hi h1 h15 hik
        left; rw [← e]; exact this
      · have := apart_place ls k i hk k1 k15 (by omega)
        right; rw [e]; exact this
theorem fits_one (ls : List Nat) (hall : ∀ x ∈ ls, x ≤ 15) (r i k : Nat) (h : Fits ls r i) (hk : Fits ls r k) : i = k := by
  obtain ⟨hi, h1, h⟩ := h
  obtain ⟨hk', k1, hk⟩ := hk
  rw [fits_iff ls r i hi h1] at h
  rw [fits_iff ls r k hk' k1] at hk
  by_cases hne : i = k
  · exact hne
  · rcases sides ls hall i k hi hk' h1 k1 hne with h' | h' <;> omega
theorem count_at (ls : List Nat) (n q : Nat) (h : q < ls.count n) : ∃ i, ∃ hi : i < ls.length, ls[i] = n ∧ (ls.take i).count n = q := by
  induction ls generalizing q with
  | nil => simp at h
  | cons x t ih =>
    rw [List.count_cons] at h
    by_cases hx : x = n
    · subst hx
      simp at h
      cases q with
      | zero => exact ⟨0, by simp, rfl, by simp⟩
      | succ q =>
        obtain ⟨i, hi, h1, h2⟩ := ih q (by omega)
        exact ⟨i + 1, by simpa using hi, by simpa using h1, by simp [h2]⟩
    · rw [if_neg (by simpa using hx)] at h
      obtain ⟨i, hi, h1, h2⟩ := ih q (by omega)
      refine ⟨i + 1, by simpa using hi, by simpa using h1, ?_⟩
      rw [List.take_succ_cons, List.count_cons_of_ne (by simpa using hx)]
      exact h2
/-- Each row below Kraft's sum begins with a code. -/
theorem fits_some (ls : List Nat) (hall : ∀ x ∈ ls, x ≤ 15) (r : Nat) (h : r < kr ls) : ∃ i, Fits ls r i := by
  rw [← low_all ls hall] at h
  have key : ∀ n, n ≤ 16 → r < low ls n → ∃ i, Fits ls r i := by
    intro n
    induction n with
    | zero => intro _ h; rw [low_zero] at h; omega
    | succ n ih =>
      intro hn h
      by_cases hlt : r < low ls n
      · exact ih (by omega) hlt
      · rw [low_succ] at h
        have hn0 : 1 ≤ n := by
          rcases Nat.eq_zero_or_pos n with rfl | h0
          · rw [show share 0 = 0 from rfl] at h; omega
          · exact h0
        have hp := share_pos (n := n) hn0
        obtain ⟨q, hq, hq1, hq2⟩ : ∃ q, q < ls.count n ∧ low ls n + q * share n ≤ r ∧ r < low ls n + q * share n + share n := by
          refine ⟨(r - low ls n) / share n, ?_, ?_, ?_⟩
          · rw [Nat.div_lt_iff_lt_mul hp]; omega
          · have := Nat.div_mul_le_self (r - low ls n) (share n); omega
          · have := Nat.lt_div_mul_add hp (a := r - low ls n); omega
        obtain ⟨i, hi, hin, hc⟩ := count_at ls n q hq
        subst hin
        refine ⟨i, hi, hn0, ?_⟩
        rw [fits_iff ls r i hi hn0, start_eq ls _ i hn0 (by omega), hc]
        exact ⟨hq1, hq2⟩
  exact key 16 (Nat.le_refl _) h

/-- The lengths that are not 0. -/
def some_ (ls : List Nat) : List Nat := ls.filter fun x => decide (0 < x)
end CanMath
end
