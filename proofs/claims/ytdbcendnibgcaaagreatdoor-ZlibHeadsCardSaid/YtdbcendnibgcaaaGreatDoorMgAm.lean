import Derived.Test.YtdbcendnibgcaaaGreatDoorMgAk
import Derived.Test.YtdbcendnibgcaaaGreatDoorMgAl

section
namespace Go.Proofs.YtdbcendnibgcaaaGreatDoor.FeedC
open Go.RowKit Go.My BitMath RefC

/-- A Feed with these bits ahead of it; its blocks. -/
def Fed (B : Nat) (w : World) (f : Nat) (F : Nat → Prop) (bs : List Bool) (pushed : Nat) (ended : Bool) : Prop :=
  ∃ q ps word count, FAt B w f q ps word count pushed ended ∧ (32 ≤ count ∨ cat ps = []) ∧ bs = bits' word count ps ∧ F = FFoot f q ps

section
variable {B f pushed : Nat} {w w' : World} {F S : Nat → Prop} {bs : List Bool} {ended : Bool}
theorem Fed.only (h : Fed B w f F bs pushed ended) (hk : Only S w w') (hs : ∀ k, F k → ¬ S k) : Fed B w' f F bs pushed ended := by
  obtain ⟨q, ps, word, count, h1, h2, h3, rfl⟩ := h
  exact ⟨q, ps, word, count, h1.only hk hs, h2, h3, rfl⟩
theorem Fed.below (h : Fed B w f F bs pushed ended) (hk : Below w.heap.size w w') : Fed B w' f F bs pushed ended := h.only (Only.of_below hk (fun _ => False)) (fun _ _ h => h)
theorem Fed.drewN (h : Fed B w f F bs pushed ended) (n : Nat) : Fed B (w.drewN n) f F bs pushed ended := h.below ⟨rfl, rfl, rfl, Nat.le_refl _, fun _ _ => rfl⟩
theorem Fed.lt (h : Fed B w f F bs pushed ended) : ∀ k, F k → B ≤ k ∧ k < w.heap.size := by
  obtain ⟨q, ps, word, count, h1, h2, h3, rfl⟩ := h
  exact h1.lt
theorem Fed.self (h : Fed B w f F bs pushed ended) : F f := by
  obtain ⟨q, ps, word, count, h1, h2, h3, rfl⟩ := h
  exact .inl rfl
end

/-- What a call on a Feed leaves. -/
def Done (B f : Nat) (F : Nat → Prop) (w : World) (bs : List Bool) (pushed : Nat) (ended : Bool) (w' : World) : Prop :=
  ∃ F', Fed B w' f F' bs pushed ended ∧ Only F w w' ∧ ∀ k, F' k → F k ∨ w.heap.size ≤ k

theorem Done.refl {B f pushed : Nat} {w : World} {F : Nat → Prop} {bs : List Bool} {ended : Bool} (h : Fed B w f F bs pushed ended) : Done B f F w bs pushed ended w := ⟨F, h, Only.refl _ _, fun _ h => .inl h⟩
theorem Done.drewN {B f pushed : Nat} {w : World} {F : Nat → Prop} {bs : List Bool} {ended : Bool} (h : Fed B w f F bs pushed ended) (n : Nat) : Done B f F w bs pushed ended (w.drewN n) := ⟨F, h.drewN n, (Only.refl _ _).drewN n, fun _ h => .inl h⟩
theorem Done.of_drewN {B f pushed n : Nat} {w w' : World} {F : Nat → Prop} {bs : List Bool} {ended : Bool} (h : Done B f F (w.drewN n) bs pushed ended w') : Done B f F w bs pushed ended w' := by
  obtain ⟨F', h1, h2, h3⟩ := h
  exact ⟨F', h1, Only.of_drewN h2, h3⟩
theorem Done.trans {B f : Nat} {w w1 w2 : World} {F F1 : Nat → Prop} {bs : List Bool} {pushed : Nat} {ended : Bool} (h : Only F w w1) (hs : ∀ k, F1 k → F k ∨ w.heap.size ≤ k) (k : Done B f F1 w1 bs pushed ended w2) : Done B f F w bs pushed ended w2 := by
  obtain ⟨F2, h1, h2, h3⟩ := k
  refine ⟨F2, h1, h.trans h2 (fun i hi e => ?_), fun j hj => ?_⟩
  · rcases hs i e with e | e
    · exact e
    · omega
  · rcases h3 j hj with e | e
    · exact hs j e
    · have := h.size; exact .inr (by omega)

set_option maxHeartbeats 1000000 in
theorem new_any (w : World) : Calls Tryz.prog 50 #[] w fun e w' => ∃ F, e = .returned (.pointer (some ⟨w.heap.size + 1, 0, none⟩)) ∧ Fed w.heap.size w' (w.heap.size + 1) F [] 0 false ∧ Below w.heap.size w w' := by
  go_enter Tryz.func50, Tryz.ntmps50
  go_wp2
  go_ret
  have hb := (Blk.new (w.alloc (.cells #[.pointer none, .pointer none, .int .i64 0] 121)) 123 #[.int .u64 0, .int .i64 0, .pointer (some ⟨w.heap.size, 0, none⟩), .int .i64 0, .bool false])
  have hq := (Blk.new w 121 #[.pointer none, .pointer none, .int .i64 0]).alloc (.cells #[.int .u64 0, .int .i64 0, .pointer (some ⟨w.heap.size, 0, none⟩), .int .i64 0, .bool false] 123)
  refine ⟨FFoot (w.heap.size + 1) w.heap.size [], rfl, ⟨w.heap.size, [], 0, 0, ⟨?_, ⟨hq, trivial, by simp [Apart], by simp [Full], Nat.le_refl _⟩, by omega, by omega, by omega⟩, .inr rfl, by simp [bits', lows, cat, bitsOf], rfl⟩, ?_⟩
  · simpa using hb
  · exact ((Below.refl _ w).alloc (Nat.le_refl _) _).alloc (by simp) _

theorem ended_any (B f pushed : Nat) (F : Nat → Prop) (bs : List Bool) (ended : Bool) (w : World) (h : Fed B w f F bs pushed ended) :
    Calls Tryz.prog 111 #[.pointer (some ⟨f, 0, none⟩)] w fun e w' => e = .returned (.bool ended) ∧ w = w' := by
  obtain ⟨q, ps, word, count, h1, h2, h3, rfl⟩ := h
  have hc := h1.blk.cell 4
  simp only [List.getElem?_toArray, List.getElem?_cons_zero, List.getElem?_cons_succ] at hc
  clear h1 h3
  go_enter Tryz.func111, Tryz.ntmps111
  go_wp2_with fail
  go_ret
  exact ⟨rfl, rfl⟩

theorem end_any (B f pushed : Nat) (F : Nat → Prop) (bs : List Bool) (ended : Bool) (w : World) (h : Fed B w f F bs pushed ended) :
    Calls Tryz.prog 58 #[.pointer (some ⟨f, 0, none⟩)] w fun e w' => e = .returned (.tuple #[]) ∧ Done B f F w bs pushed true w' := by
  have H := Lib.hid h
  obtain ⟨q, ps, word, count, h1, h2, h3, rfl⟩ := h
  have hc := h1.blk.cell 4
  have hf := h1.blk.frozen 4
  simp only [List.getElem?_toArray, List.getElem?_cons_zero, List.getElem?_cons_succ] at hc
  have HA := Lib.hid h1
  have H2 := Lib.hid h2
  have H3 := Lib.hid h3
  clear h1 h2 h3
  go_enter Tryz.func58, Tryz.ntmps58
  go_wp2_with fail
  go_end0
  have hO : Only (fun k => k = f) w (w.setCell ⟨f, 4, none⟩ (.bool true)) := (Only.refl (fun k => k = f) w).setCell (p := ⟨f, 4, none⟩) (fun _ => rfl) _
  refine ⟨rfl, FFoot f q ps, ⟨q, ps, word, count, ⟨HA.out.blk.set_ 4 _, HA.out.que.only hO (fun e => HA.out.far (Or.inl e.symm)) (fun k hk e => HA.out.far (Or.inr (e ▸ hk))), HA.out.base, HA.out.small, HA.out.most⟩, H2.out, H3.out, rfl⟩, hO.mono (fun k _ e => .inl e), fun k hk => .inl hk⟩

set_option maxHeartbeats 1000000 in
theorem bits_any (B f pushed : Nat) (F : Nat → Prop) (bs : List Bool) (ended : Bool) (w : World) (h : Fed B w f F bs pushed ended) (hl : bs.length ≤ 10000000000) :
    Calls Tryz.prog 75 #[.pointer (some ⟨f, 0, none⟩)] w fun e w' => e = .returned (.int .i64 (bs.length : Int)) ∧ ∃ n, w' = w.drewN n := by
  obtain ⟨q, ps, word, count, h1, h2, h3, rfl⟩ := h
  have hc1 := h1.blk.cell 1
  have hc2 := h1.blk.cell 2
  have hq2 := h1.que.blk.cell 2
  simp only [List.getElem?_toArray, List.getElem?_cons_zero, List.getElem?_cons_succ] at hc1 hc2 hq2
  have hlen : bs.length = count + 8 * (cat ps).length := by rw [h3, bits_len]
  have HL := Lib.hid hlen
  have hb1 : count + 8 * (cat ps).length ≤ 10000000000 := by omega
  have w1 : IntKind.i64.wrap (8 * ((cat ps).length : Int)) = 8 * ((cat ps).length : Int) := IntWalk.i64_in _ (by omega)
  have w2 : IntKind.i64.wrap ((count : Int) + 8 * ((cat ps).length : Int)) = (count : Int) + 8 * ((cat ps).length : Int) := IntWalk.i64_in _ (by omega)
  clear h1 h2 h3 hlen
  generalize (cat ps).length = n at *
  go_enter Tryz.func75, Tryz.ntmps75
  go_wp2_with fail
  go_quiet (fail)
  go_wp2_with fail
  go_ret
  exact ⟨ret_int (by rw [HL.out]; omega), _, rfl⟩

theorem used_any (B f pushed : Nat) (F : Nat → Prop) (bs : List Bool) (ended : Bool) (w : World) (h : Fed B w f F bs pushed ended) (hl : bs.length ≤ 10000000000) (hp : pushed ≤ 10000000000) :
    Calls Tryz.prog 70 #[.pointer (some ⟨f, 0, none⟩)] w fun e w' => e = .returned (.int .i64 ((pushed : Int) - ((bs.length / 8 : Nat) : Int))) ∧ ∃ n, w' = w.drewN n := by
  have H := Lib.hid h
  have hc3 : ∀ n, (w.drewN n).cell? ⟨f, 3, none⟩ = some (.int .i64 (pushed : Int)) := fun n => by
    obtain ⟨q, ps, word, count, h1, h2, h3, rfl⟩ := h
    exact h1.blk.cell 3
  have hc0 := hc3 0
  clear h
  go_enter Tryz.func70, Tryz.ntmps70
  go_wp2_with fail
  have hw1 : IntKind.i64.wrap ((pushed : Int) - (bs.length : Int) / 8) = (pushed : Int) - (bs.length : Int) / 8 := IntWalk.i64_in _ (by omega)
  have hc3 : w.cell? ⟨f, 3, none⟩ = some (.int .i64 (pushed : Int)) := hc0
  clear hc0
  go_quiet ((go_at_call 75; refine Calls.quiet_of (bits_any B f pushed F bs ended _ (H.out.drewN _) hl)))
  go_wp2_with fail
  go_ret
  exact ⟨ret_int (by omega), _, rfl⟩

/-! ### Peek -/
def peekV (bs : List Bool) (n : Int) : Nat := if 1 ≤ n ∧ n ≤ 32 then num (bs.take n.toNat) else 0
theorem peekV_lt (bs : List Bool) (n : Int) : peekV bs n < 4294967296 := by
  unfold peekV
  split
  · have := num_lt (bs.take n.toNat)
    exact Nat.lt_of_lt_of_le this (by rw [show 4294967296 = 2 ^ 32 from rfl]; exact Nat.pow_le_pow_right (by omega) (by simp; omega))
  · omega
theorem peek_word {word count : Nat} {ps : List Pc} (hs : word < 2 ^ count) (h : 32 ≤ count ∨ cat ps = []) (n : Nat) (hn : n ≤ 32) : num ((bits' word count ps).take n) = word % 2 ^ n := by
  unfold bits'
  by_cases hc : n ≤ count
  · rw [List.take_append_of_le_length (by rw [lows_len]; exact hc), ← num_lows]
    congr 1
    have e := lows_add n (count - n) word
    rw [show n + (count - n) = count from by omega] at e
    rw [e, List.take_append_of_le_length (by rw [lows_len]; omega), List.take_of_length_le (by rw [lows_len]; omega)]
  · rcases h with h | h
    · omega
    · rw [h, bitsOf_nil, List.append_nil, List.take_of_length_le (by rw [lows_len]; omega), num_lows, Nat.mod_eq_of_lt hs, Nat.mod_eq_of_lt]
      exact Nat.lt_of_lt_of_le hs (Nat.pow_le_pow_right (by omega) (by omega))
theorem u64_mask (v n : Nat) (hv : v < 18446744073709551616) (hn : n ≤ 32) : bits .and .u64 (v : Int) ((2 : Int) ^ n - 1) = ((v % 2 ^ n : Nat) : Int) := by
  have hp : 0 < 2 ^ n := Nat.two_pow_pos n
  have h7 : 2 ^ n ≤ 2 ^ 32 := Nat.pow_le_pow_right (by omega) hn
  have e : ((2 : Int) ^ n - 1) = ((2 ^ n - 1 : Nat) : Int) := by rw [Int.natCast_sub hp]; push_cast; rfl
  rw [e, u64_and_nat _ _ (by omega) (by omega), Nat.and_two_pow_sub_one_eq_mod]

theorem peek_no (n : Int) (f : Nat) (bs : List Bool) (w : World) (h : ¬ (1 ≤ n ∧ n ≤ 32)) :
    Calls Tryz.prog 118 #[.pointer (some ⟨f, 0, none⟩), .int .i64 n] w fun e w' => e = .returned (.int .u32 ((peekV bs n : Nat) : Int)) ∧ ∃ k, w' = w.drewN k := by
  have HV : Hid (peekV bs n = 0) := Lib.hid (by unfold peekV; rw [if_neg h])
  by_cases h1 : n < 1
  · go_enter Tryz.func118, Tryz.ntmps118
    go_wp2
    go_ret
    exact ⟨by rw [HV.out]; rfl, 0, rfl⟩
  · have h8 : decide (n > 32) = true := by simp; omega
    go_enter Tryz.func118, Tryz.ntmps118
    go_wp2
    go_ret
    exact ⟨by rw [HV.out]; rfl, 0, rfl⟩

set_option maxHeartbeats 1000000 in
theorem peek_yes (n : Nat) (B f pushed : Nat) (F : Nat → Prop) (bs : List Bool) (ended : Bool) (w : World) (h : Fed B w f F bs pushed ended) (h1 : 1 ≤ n) (h2 : n ≤ 32) :
    Calls Tryz.prog 118 #[.pointer (some ⟨f, 0, none⟩), .int .i64 (n : Int)] w fun e w' => e = .returned (.int .u32 ((peekV bs n : Nat) : Int)) ∧ ∃ k, w' = w.drewN k := by
  obtain ⟨q, ps, word, count, hA, h32, hbs, rfl⟩ := h
  have hpv : peekV bs n = word % 2 ^ n := by
    unfold peekV
    rw [if_pos (by omega), Int.toNat_natCast, hbs, peek_word hA.small h32 n h2]
  have hpl := peekV_lt bs n
  rw [hpv] at hpl
  have HV := Lib.hid hpv
  have hc0 := hA.blk.cell 0
  simp only [List.getElem?_toArray, List.getElem?_cons_zero] at hc0
  have hwl := hA.word_lt
  have hmk := u64_mask word n hwl h2
  have d8 : decide ((n : Int) > 32) = false := by simp; omega
  have d1 : decide ((n : Int) < 1) = false := by simp; omega
  have hpow : 2 ^ n ≤ 2 ^ 32 := Nat.pow_le_pow_right (by omega) h2
  have e2 : ((2 : Int) ^ n) = ((2 ^ n : Nat) : Int) := by push_cast; rfl
  have hp0 : 0 < 2 ^ n := Nat.two_pow_pos n
  have p1 : IntKind.u64.wrap ((2 : Int) ^ n) = (2 : Int) ^ n := by rw [e2]; exact IntWalk.u64_in _ (by omega)
  have p2 : IntKind.u64.wrap ((2 : Int) ^ n - 1) = (2 : Int) ^ n - 1 := by rw [e2]; exact IntWalk.u64_in _ (by omega)
  generalize word % 2 ^ n = x at *
  have p3 : IntKind.u32.wrap (x : Int) = (x : Int) := IntWalk.u32_in _ (by omega)
  clear hpv e2 hpow hp0 hA hbs h32
  go_enter Tryz.func118, Tryz.ntmps118
  go_wp2_with fail
  go_quiet (fail)
  go_wp2_with fail
  go_ret
  exact ⟨by rw [HV.out]; rfl, _, rfl⟩
theorem peek_any (n : Int) (B f pushed : Nat) (F : Nat → Prop) (bs : List Bool) (ended : Bool) (w : World) (h : Fed B w f F bs pushed ended) :
    Calls Tryz.prog 118 #[.pointer (some ⟨f, 0, none⟩), .int .i64 n] w fun e w' => e = .returned (.int .u32 ((peekV bs n : Nat) : Int)) ∧ ∃ k, w' = w.drewN k := by
  by_cases hn : 1 ≤ n ∧ n ≤ 32
  · obtain ⟨m, rfl⟩ : ∃ m : Nat, n = (m : Int) := ⟨n.toNat, by omega⟩
    exact peek_yes m B f pushed F bs ended w h (by omega) (by omega)
  · exact peek_no n f bs w hn

/-! ### Skip, Align -/
def skipCode (bs : List Bool) (n : Int) : Int := if n < 0 then 1 else if (bs.length : Int) < n then 5 else 0
def skipBits (bs : List Bool) (n : Int) : List Bool := if n < 0 then bs else if (bs.length : Int) < n then bs else bs.drop n.toNat

theorem use_fed (n : Nat) (B f pushed : Nat) (F : Nat → Prop) (bs : List Bool) (ended : Bool) (w : World) (h : Fed B w f F bs pushed ended) (hn : n ≤ bs.length) (hl : bs.length ≤ 10000000000) :
    Calls Tryz.prog 110 #[.pointer (some ⟨f, 0, none⟩), .int .i64 (n : Int)] w fun e w' => e = .returned (.tuple #[]) ∧ Done B f F w (bs.drop n) pushed ended w' := by
  obtain ⟨q, ps, word, count, h1, h2, rfl, rfl⟩ := h
  have hlen := bits_len word count ps
  refine (use_any B f q ps word count pushed n ended w h1 hn (by omega)).mono fun e w' ⟨he, ps1, word1, count1, hu⟩ => ⟨he, FFoot f q ps1, ⟨q, ps1, word1, count1, hu.at_, hu.full, hu.eq.symm, rfl⟩, hu.only, fun k hk => ?_⟩
  rcases hk with e | e
  · exact .inl (.inl e)
  · exact .inl (.inr (hu.sub k e))

theorem skip_any (n : Int) (B f pushed : Nat) (F : Nat → Prop) (bs : List Bool) (ended : Bool) (w : World) (h : Fed B w f F bs pushed ended) (hl : bs.length ≤ 10000000000) :
    Calls Tryz.prog 100 #[.pointer (some ⟨f, 0, none⟩), .int .i64 n] w fun e w' => e = .returned (.int .i64 (skipCode bs n)) ∧ Done B f F w (skipBits bs n) pushed ended w' := by
  have H := Lib.hid h
  clear h
  by_cases h0 : n < 0
  · have HC : Hid (skipCode bs n = 1 ∧ skipBits bs n = bs) := Lib.hid ⟨if_pos h0, if_pos h0⟩
    go_enter Tryz.func100, Tryz.ntmps100
    go_wp2_with fail
    go_ret
    exact ⟨by rw [HC.out.1]; rfl, by rw [HC.out.2]; exact Done.refl H.out⟩
  · obtain ⟨m, rfl⟩ : ∃ m : Nat, n = (m : Int) := ⟨n.toNat, by omega⟩
    by_cases hm : bs.length < m
    · have HC : Hid (skipCode bs m = 5 ∧ skipBits bs m = bs) := Lib.hid ⟨by unfold skipCode; rw [if_neg h0, if_pos (by omega)], by unfold skipBits; rw [if_neg h0, if_pos (by omega)]⟩
      go_enter Tryz.func100, Tryz.ntmps100
      go_wp2_with fail
      refine (bits_any B f pushed F bs ended w H.out hl).mono ?_
      rintro e w' ⟨rfl, k, rfl⟩
      go_wp2_with fail
      go_ret
      exact ⟨by rw [HC.out.1]; rfl, by rw [HC.out.2]; exact Done.drewN H.out k⟩
    · have HC : Hid (skipCode bs m = 0 ∧ skipBits bs m = bs.drop m) := Lib.hid ⟨by unfold skipCode; rw [if_neg h0, if_neg (by omega)], by unfold skipBits; rw [if_neg h0, if_neg (by omega)]; rfl⟩
      by_cases hz : m = 0
      · subst hz
        go_enter Tryz.func100, Tryz.ntmps100
        go_wp2_with fail
        refine (bits_any B f pushed F bs ended w H.out hl).mono ?_
        rintro e w' ⟨rfl, k, rfl⟩
        go_wp2_with fail
        go_ret
        exact ⟨by rw [HC.out.1]; rfl, by rw [HC.out.2, List.drop_zero]; exact Done.drewN H.out k⟩
      · have hm0 : 0 < m := by omega
        go_enter Tryz.func100, Tryz.ntmps100
        go_wp2_with fail
        refine (bits_any B f pushed F bs ended w H.out hl).mono ?_
        rintro e w' ⟨rfl, k, rfl⟩
        go_wp2_with fail
        refine (use_fed m B f pushed F bs ended _ (H.out.drewN k) (by omega) hl).mono ?_
        rintro e w' ⟨rfl, hd⟩
        have HD := Lib.hid hd
        clear hd
        go_wp2_with fail
        go_ret
        exact ⟨by rw [HC.out.1]; rfl, by rw [HC.out.2]; exact HD.out.of_drewN⟩

theorem align_any (B f pushed : Nat) (F : Nat → Prop) (bs : List Bool) (ended : Bool) (w : World) (h : Fed B w f F bs pushed ended) (hl : bs.length ≤ 10000000000) :
    Calls Tryz.prog 108 #[.pointer (some ⟨f, 0, none⟩)] w fun e w' => e = .returned (.tuple #[]) ∧ Done B f F w (bs.drop (bs.length % 8)) pushed ended w' := by
  have H := Lib.hid h
  clear h
  have HC : Hid (skipBits bs ((bs.length : Int) % 8) = bs.drop (bs.length % 8)) := Lib.hid (by
    unfold skipBits
    rw [if_neg (by omega), if_neg (by omega)]
    congr 1)
  go_enter Tryz.func108, Tryz.ntmps108
  go_wp2_with fail
  refine (bits_any B f pushed F bs ended w H.out hl).mono ?_
  rintro e w' ⟨rfl, k, rfl⟩
  go_wp2_with fail
  refine (skip_any _ B f pushed F bs ended _ (H.out.drewN k) hl).mono ?_
  rintro e w' ⟨rfl, hd⟩
  have HD := Lib.hid hd
  clear hd
  go_wp2_with fail
  go_end0
  exact ⟨rfl, by rw [← HC.out]; exact HD.out.of_drewN⟩
end Go.Proofs.YtdbcendnibgcaaaGreatDoor.FeedC
end

section
namespace Go.Proofs.YtdbcendnibgcaaaGreatDoor.FeedC
open Go.RowKit Go.My BitMath RefC

theorem push_ended (B f pushed : Nat) (F : Nat → Prop) (bs : List Bool) (w : World) (h : Fed B w f F bs pushed true) (v : Value) :
    Calls Tryz.prog 55 #[.pointer (some ⟨f, 0, none⟩), v] w fun e w' => e = .returned (.tuple #[]) ∧ w = w' := by
  obtain ⟨q, ps, word, count, h1, h2, h3, rfl⟩ := h
  have hc := h1.blk.cell 4
  simp only [List.getElem?_toArray, List.getElem?_cons_zero, List.getElem?_cons_succ] at hc
  clear h1 h2 h3
  go_enter Tryz.func55, Tryz.ntmps55
  go_wp2_with fail
  exact bodyPost_ret (results_none rfl _ _ _) rfl ⟨rfl, rfl⟩

set_option maxRecDepth 100000 in
set_option maxHeartbeats 2000000 in
theorem push_open (B f pushed : Nat) (F : Nat → Prop) (bs : List Bool) (w : World) (h : Fed B w f F bs pushed false) (a : Option Addr) (len cap : Nat) (l : List UInt8) (hb : Bytes w a len cap l) (hfar : ∀ b off, a = some ⟨b, off, none⟩ → ¬ F b)
    (hl : bs.length ≤ 1000000000) (hp : pushed ≤ 1000000000) (hlen : len ≤ 1000000000) :
    Calls Tryz.prog 55 #[.pointer (some ⟨f, 0, none⟩), .slice a len cap] w fun e w' => e = .returned (.tuple #[]) ∧ Done B f F w (bs ++ bitsOf l) (pushed + len) false w' := by
  obtain ⟨q, ps, word, count, h1, h2, h3, rfl⟩ := h
  have hc4 := h1.blk.cell 4
  have hc2 := h1.blk.cell 2
  have hc3 := h1.blk.cell 3
  have hf3 := h1.blk.frozen 3
  simp only [List.getElem?_toArray, List.getElem?_cons_zero, List.getElem?_cons_succ] at hc2 hc3 hc4
  have hO : Only (fun k => k = f) w (w.setCell ⟨f, 3, none⟩ (.int .i64 ((pushed : Int) + (len : Int)))) := (Only.refl (fun k => k = f) w).setCell (p := ⟨f, 3, none⟩) (fun _ => rfl) _
  have hA : FAt B (w.setCell ⟨f, 3, none⟩ (.int .i64 ((pushed : Int) + (len : Int)))) f q ps word count (pushed + len) false := by
    refine ⟨?_, h1.que.only hO (fun e => h1.far (Or.inl e.symm)) (fun k hk e => h1.far (Or.inr (e ▸ hk))), h1.base, h1.small, h1.most⟩
    rw [show ((pushed + len : Nat) : Int) = (pushed : Int) + (len : Int) from by omega]
    exact h1.blk.set_ 3 _
  have hby := hO.bytes hb (fun b off e hbf => hfar b off e (Or.inl hbf))
  have hbl : bs.length = count + 8 * (cat ps).length := by rw [h3, bits_len]
  have hpu := push_any B q (cat ps).length ps _ hA.que a len cap l hby (fun b off e hq => hfar b off e (Or.inr hq)) (by omega) (by omega)
  have HPU := Lib.hid hpu
  have HA := Lib.hid hA
  have HO : Hid (Only (FFoot f q ps) w (w.setCell ⟨f, 3, none⟩ (.int .i64 ((pushed : Int) + (len : Int))))) := Lib.hid (hO.mono (fun k _ e => .inl e))
  have H3 := Lib.hid h3
  have HL := Lib.hid hb.len_eq
  clear h1 h2 h3 hO hA hby hpu hb hfar
  go_enter Tryz.func55, Tryz.ntmps55
  go_wp2_with fail
  refine HPU.out.mono ?_
  rintro e w2 ⟨rfl, ps2, hq2, hc2', ho2, hn2⟩
  have hA2 : FAt B w2 f q ps2 word count (pushed + len) false := ⟨ho2.blk HA.out.blk HA.out.far, by rw [hc2', List.length_append, HL.out]; exact hq2, HA.out.base, HA.out.small, HA.out.most⟩
  have HA2 := Lib.hid hA2
  have HO2 := Lib.hid ho2
  have HN2 := Lib.hid hn2
  have HC2 := Lib.hid hc2'
  have hl2 : (cat ps2).length ≤ 100000000000 := by rw [hc2', List.length_append, HL.out]; omega
  clear hA2 ho2 hn2 hc2' hq2 HPU
  go_wp2_with fail
  refine (fill_any B f q ps2 word count (pushed + len) false w2 HA2.out hl2).mono ?_
  rintro e w3 ⟨rfl, ps3, word3, count3, hF, h32⟩
  have HF := Lib.hid hF
  have H32 := Lib.hid h32
  clear hF h32
  go_wp2_with fail
  go_end0
  have hO2 : Only (FFoot f q ps) w w2 := HO.out.trans HO2.out (fun i _ e => .inr e)
  have hs1 := HO.out.size
  have hs2 := hO2.size
  have hsub : ∀ k, FFoot f q ps2 k → FFoot f q ps k ∨ w.heap.size ≤ k := by
    rintro k (e | e)
    · exact .inl (.inl e)
    · rcases HN2.out k e with e | e
      · exact .inl (.inr e)
      · exact .inr (by omega)
  refine ⟨rfl, FFoot f q ps3, ⟨q, ps3, word3, count3, HF.out.at_, H32.out, ?_, rfl⟩, hO2.trans HF.out.only (fun i hi e => ?_), fun k hk => ?_⟩
  · rw [HF.out.eq, H3.out]
    unfold bits'
    rw [HC2.out, bitsOf_append, List.append_assoc]
  · rcases hsub i e with e | e
    · exact e
    · omega
  · refine hsub k ?_
    rcases hk with e | e
    · exact .inl e
    · exact .inr (HF.out.sub k e)

/-! ### Take -/
/-- What Take tells: the bytes, an error, the bits that are left. -/
def takeBits (bs : List Bool) (n : Int) : List Bool := if n < 0 then bs else if ((bs.length / 8 : Nat) : Int) < n then bs.drop (bs.length % 8) else (bs.drop (bs.length % 8)).drop (8 * n.toNat)
def takeCode (bs : List Bool) (n : Int) : Int := if n < 0 then 1 else if ((bs.length / 8 : Nat) : Int) < n then 5 else 0
def takeBytes (bs : List Bool) (n : Int) : List Bool := if n < 0 then [] else if ((bs.length / 8 : Nat) : Int) < n then [] else (bs.drop (bs.length % 8)).take (8 * n.toNat)

def Taken (B f : Nat) (F : Nat → Prop) (bs : List Bool) (pushed : Nat) (ended : Bool) (n : Int) (w : World) (e : Ending) (w' : World) : Prop :=
  ∃ a c l, e = .returned (.tuple #[.slice a l.length c, .int .i64 (takeCode bs n)]) ∧ Bytes w' a l.length c l ∧ bitsOf l = takeBytes bs n ∧ Done B f F w (takeBits bs n) pushed ended w'

theorem next_fed (n : Nat) (B f pushed : Nat) (F : Nat → Prop) (bs : List Bool) (ended : Bool) (w : World) (h : Fed B w f F bs pushed ended) (h8 : bs.length % 8 = 0) (hn : 8 * n ≤ bs.length) (hl : bs.length ≤ 10000000000) :
    Calls Tryz.prog 109 #[.pointer (some ⟨f, 0, none⟩), .int .i64 (n : Int)] w fun e w' => ∃ v l, e = .returned v ∧ Own 5 w.heap.size w' v l ∧ Below w.heap.size w w' ∧ bitsOf l = bs.take (8 * n) := by
  obtain ⟨q, ps, word, count, h1, h2, rfl, rfl⟩ := h
  rw [bits_len] at h8 hn hl
  exact next_any B f q ps word count pushed n ended w h1 (by omega) hn (by omega)

theorem own_lower {E : TypeId} {B B' : Nat} {w : World} {v : Value} {l : List UInt8} (h : Own E B w v l) (hB : B' ≤ B) : Own E B' w v l := by
  obtain ⟨h1, h2⟩ := h
  refine ⟨h1, ?_⟩
  rcases h2 with h2 | ⟨g, cap, cur, h3, h4, h5⟩
  · exact .inl h2
  · exact .inr ⟨g, cap, cur, h3, by omega, h5⟩
/-- The same, with where the row lies: apart from the feed. -/
def TakenO (B f : Nat) (F : Nat → Prop) (bs : List Bool) (pushed : Nat) (ended : Bool) (n : Int) (w : World) (e : Ending) (w' : World) : Prop :=
  ∃ a c l, e = .returned (.tuple #[.slice a l.length c, .int .i64 (takeCode bs n)]) ∧ Own 5 w.heap.size w' (.slice a l.length c) l ∧ bitsOf l = takeBytes bs n ∧
    ∃ F', Fed B w' f F' (takeBits bs n) pushed ended ∧ Only F w w' ∧ (∀ k, F' k → F k ∨ w.heap.size ≤ k) ∧ ∀ k, Value.ownBlock (.slice a l.length c) = some k → ¬ F' k
theorem TakenO.none_ {B f : Nat} {F : Nat → Prop} {bs bs2 : List Bool} {pushed : Nat} {ended : Bool} {n z : Int} {w w' : World} (h1 : takeCode bs n = z) (h2 : takeBytes bs n = []) (h3 : takeBits bs n = bs2) (h : Done B f F w bs2 pushed ended w') :
    TakenO B f F bs pushed ended n w (.returned (.tuple #[.slice none 0 0, .int .i64 z])) w' := by
  obtain ⟨F', a1, a2, a3⟩ := h
  exact ⟨none, 0, [], by rw [h1]; rfl, Own.nil _ _ _, by rw [h2]; rfl, F', by rw [h3]; exact a1, a2, a3, fun k hk => by cases hk⟩

set_option maxHeartbeats 2000000 in
theorem take_own (n : Int) (B f pushed : Nat) (F : Nat → Prop) (bs : List Bool) (ended : Bool) (w : World) (h : Fed B w f F bs pushed ended) (hl : bs.length ≤ 1000000000) :
    Calls Tryz.prog 89 #[.pointer (some ⟨f, 0, none⟩), .int .i64 n] w (TakenO B f F bs pushed ended n w) := by
  have H := Lib.hid h
  clear h
  by_cases h0 : n < 0
  · have HC : Hid (takeCode bs n = 1 ∧ takeBits bs n = bs ∧ takeBytes bs n = []) := Lib.hid ⟨if_pos h0, if_pos h0, if_pos h0⟩
    go_enter Tryz.func89, Tryz.ntmps89
    go_wp2_with fail
    go_ret2
    exact TakenO.none_ HC.out.1 HC.out.2.2 HC.out.2.1 (Done.refl H.out)
  · obtain ⟨m, rfl⟩ : ∃ m : Nat, n = (m : Int) := ⟨n.toNat, by omega⟩
    obtain ⟨bs1, hbs1⟩ : ∃ x, x = bs.drop (bs.length % 8) := ⟨_, rfl⟩
    have hl1 : bs1.length = 8 * (bs.length / 8) := by rw [hbs1, List.length_drop]; omega
    have HB := Lib.hid hbs1
    have HL1 := Lib.hid hl1
    have hl2 : bs1.length ≤ 1000000000 := by omega
    have hdv : bs1.length / 8 = bs.length / 8 := by omega
    have HDV := Lib.hid hdv
    clear hbs1
    by_cases hm : bs1.length / 8 < m
    · have HC : Hid (takeCode bs m = 5 ∧ takeBits bs m = bs1 ∧ takeBytes bs m = []) := Lib.hid ⟨by unfold takeCode; rw [if_neg h0, if_pos (by omega)], by unfold takeBits; rw [if_neg h0, if_pos (by omega), HB.out], by unfold takeBytes; rw [if_neg h0, if_pos (by omega)]⟩
      clear hl1 hdv
      go_enter Tryz.func89, Tryz.ntmps89
      go_wp2_with fail
      refine (align_any B f pushed F bs ended w H.out (by omega)).mono ?_
      rw [← HB.out]
      rintro e w1 ⟨rfl, F1, hf1, ho1, hs1⟩
      have HF1 := Lib.hid hf1
      have HO1 := Lib.hid ho1
      have HS1 := Lib.hid hs1
      clear hf1 ho1 hs1
      go_wp2_with fail
      refine (bits_any B f pushed F1 bs1 ended w1 HF1.out (by omega)).mono ?_
      rintro e w' ⟨rfl, k, rfl⟩
      go_wp2_with fail
      go_ret2
      exact TakenO.none_ HC.out.1 HC.out.2.2 HC.out.2.1 (Done.trans HO1.out HS1.out (Done.drewN HF1.out k))
    · have HC : Hid (takeCode bs m = 0 ∧ takeBits bs m = bs1.drop (8 * m) ∧ takeBytes bs m = bs1.take (8 * m)) := Lib.hid ⟨by unfold takeCode; rw [if_neg h0, if_neg (by omega)], by unfold takeBits; rw [if_neg h0, if_neg (by omega), HB.out]; rfl, by unfold takeBytes; rw [if_neg h0, if_neg (by omega), HB.out]; rfl⟩
      have hm8 : 8 * m ≤ bs1.length := by omega
      have h8 : bs1.length % 8 = 0 := by omega
      have H8 := Lib.hid h8
      clear hl1 hdv h8
      by_cases hz : m = 0
      · subst hz
        go_enter Tryz.func89, Tryz.ntmps89
        go_wp2_with fail
        refine (align_any B f pushed F bs ended w H.out (by omega)).mono ?_
        rw [← HB.out]
        rintro e w1 ⟨rfl, F1, hf1, ho1, hs1⟩
        have HF1 := Lib.hid hf1
        have HO1 := Lib.hid ho1
        have HS1 := Lib.hid hs1
        clear hf1 ho1 hs1
        go_wp2_with fail
        refine (bits_any B f pushed F1 bs1 ended w1 HF1.out (by omega)).mono ?_
        rintro e w' ⟨rfl, k, rfl⟩
        go_wp2_with fail
        go_ret2
        exact TakenO.none_ HC.out.1 HC.out.2.2 HC.out.2.1 (Done.trans HO1.out HS1.out (Done.drewN HF1.out k))
      · have hmz : ((m : Int) == 0) = false := by simp; omega
        have hw8 : IntKind.i64.wrap (8 * (m : Int)) = ((8 * m : Nat) : Int) := by rw [IntWalk.i64_in _ (by omega)]; omega
        go_enter Tryz.func89, Tryz.ntmps89
        go_wp2_with fail
        refine (align_any B f pushed F bs ended w H.out (by omega)).mono ?_
        rw [← HB.out]
        rintro e w1 ⟨rfl, F1, hf1, ho1, hs1⟩
        have HF1 := Lib.hid hf1
        have HO1 := Lib.hid ho1
        have HS1 := Lib.hid hs1
        clear hf1 ho1 hs1
        go_wp2_with fail
        refine (bits_any B f pushed F1 bs1 ended w1 HF1.out (by omega)).mono ?_
        rintro e w' ⟨rfl, k, rfl⟩
        go_wp2_with fail
        refine (next_fed m B f pushed F1 bs1 ended _ (HF1.out.drewN k) H8.out hm8 (by omega)).mono ?_
        rintro e w2 ⟨v, l, rfl, hv, hb2, hbl⟩
        have HV := Lib.hid hv
        have HB2 := Lib.hid hb2
        have HBL := Lib.hid hbl
        have HF2 := Lib.hid ((HF1.out.drewN k).below hb2)
        obtain ⟨a, c, rfl, hby⟩ := hv.bytes
        clear hv hb2 hbl hby
        go_wp2_with fail
        refine (use_fed (8 * m) B f pushed F1 bs1 ended w2 HF2.out hm8 (by omega)).mono ?_
        rintro e w3 ⟨rfl, hd⟩
        have HD := Lib.hid hd
        clear hd
        go_wp2_with fail
        go_ret2
        have hO2 : Only F w w2 := (HO1.out.drewN k).then_below HB2.out
        have hsz := HB2.out.size
        obtain ⟨F3, h1, h2, h3⟩ := HD.out
        have hlie : ∀ j, Value.ownBlock (.slice a l.length c) = some j → w1.heap.size ≤ j ∧ j < w2.heap.size := fun j hj => by
          have := World.ownsRow.lt HV.out j hj
          simpa [World.drewN] using this
        have hF1 : ∀ j, F1 j → j < w1.heap.size := fun j hj => (HF1.out.lt j hj).2
        have ho : Own 5 w.heap.size w3 (.slice a l.length c) l := by
          have h4 := h2.own HV.out (fun j hj hF => by have := hlie j hj; have := hF1 j hF; omega)
          have h5 := HO1.out.size
          exact own_lower h4 (by simpa [World.drewN] using h5)
        obtain ⟨F4, k1, k2, k3⟩ := Done.trans hO2 HS1.out (show Done B f F1 w2 (bs1.drop (8 * m)) pushed ended w3 from ⟨F3, h1, h2, h3⟩)
        refine ⟨a, c, l, by rw [HC.out.1]; rfl, ho, by rw [HC.out.2.2]; exact HBL.out, F3, by rw [HC.out.2.1]; exact h1, k2, fun j hj => ?_, fun j hj hF => ?_⟩
        · rcases h3 j hj with e | e
          · exact HS1.out j e
          · have := HO1.out.size; have := HB2.out.size; simp [World.drewN] at this; exact .inr (by omega)
        · have h6 := hlie j hj
          rcases h3 j hF with e | e
          · have := hF1 j e; omega
          · omega
theorem take_any (n : Int) (B f pushed : Nat) (F : Nat → Prop) (bs : List Bool) (ended : Bool) (w : World) (h : Fed B w f F bs pushed ended) (hl : bs.length ≤ 1000000000) :
    Calls Tryz.prog 89 #[.pointer (some ⟨f, 0, none⟩), .int .i64 n] w (Taken B f F bs pushed ended n w) := by
  refine (take_own n B f pushed F bs ended w h hl).mono ?_
  rintro e w' ⟨a, c, l, rfl, ho, h1, F', h2, h3, h4, -⟩
  obtain ⟨a', c', heq, hby⟩ := ho.bytes
  simp only [Value.slice.injEq, true_and] at heq
  obtain ⟨rfl, rfl⟩ := heq
  exact ⟨a, c, l, rfl, hby, h1, F', h2, h3, h4⟩
end Go.Proofs.YtdbcendnibgcaaaGreatDoor.FeedC
end
