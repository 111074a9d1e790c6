import Derived.Test.YtaeoedapaiapdaaBitA0
import Derived.Test.YtaeoedapaiapdaaMem
import Derived.StillTailTactics
import Derived.Deep.RegionLaw
namespace Go.Proofs.Ytaeoedapaiapdaa.BitC
open Go.RowKit Go.My BitMath

/-- A Writer's block: the full bytes l (the slice v), the bits behind them. -/
structure WrAt (B : Nat) (w : World) (g : Nat) (v : Value) (l : List UInt8) (rest count : Nat) : Prop where
  blk : Blk w g 62 #[v, .int .u64 (rest : Int), .int .i64 (count : Int)]
  own : Own 5 B w v l
  base : B ≤ g
/-- A Writer that holds these bits; its full bytes lie in block r. -/
def Wr (B : Nat) (w : World) (g : Nat) (r : Option Nat) (bs : List Bool) : Prop :=
  ∃ v l rest count, WrAt B w g v l rest count ∧ v.ownBlock = r ∧ count < 8 ∧ rest < 2 ^ count ∧ bs = bitsOf l ++ lows count rest

section
variable {B g rest count : Nat} {w w' : World} {v : Value} {l : List UInt8} {r : Option Nat} {bs : List Bool} {S : Nat → Prop}
theorem WrAt.far (h : WrAt B w g v l rest count) : v.ownBlock ≠ some g := own_len_ne h.own h.blk (by decide)
theorem WrAt.only (h : WrAt B w g v l rest count) (hk : Only S w w') (hg : ¬ S g) (hr : ∀ k, v.ownBlock = some k → ¬ S k) : WrAt B w' g v l rest count :=
  ⟨hk.blk h.blk hg, hk.own h.own hr, h.base⟩
theorem Wr.only (h : Wr B w g r bs) (hk : Only S w w') (hg : ¬ S g) (hr : ∀ k, r = some k → ¬ S k) : Wr B w' g r bs := by
  obtain ⟨v, l, rest, count, h1, rfl, h2⟩ := h
  exact ⟨v, l, rest, count, h1.only hk hg hr, rfl, h2⟩
theorem Wr.below (h : Wr B w g r bs) (hk : Below w.heap.size w w') : Wr B w' g r bs := h.only (Only.of_below hk (fun _ => False)) (fun h => h) (fun _ _ h => h)
theorem Wr.lt (h : Wr B w g r bs) : g < w.heap.size := by
  obtain ⟨v, l, rest, count, h1, _⟩ := h
  exact h1.blk.lt
theorem Wr.rlt (h : Wr B w g r bs) : ∀ k, r = some k → B ≤ k ∧ k < w.heap.size := by
  obtain ⟨v, l, rest, count, h1, rfl, _⟩ := h
  exact fun k hk => World.ownsRow.lt h1.own k hk
theorem Wr.base (h : Wr B w g r bs) : B ≤ g := by
  obtain ⟨v, l, rest, count, h1, _⟩ := h
  exact h1.base
theorem Wr.fp (h : Wr B w g r bs) : ∀ k, Fp g r k → B ≤ k := by
  rintro k (rfl | hk)
  · exact h.base
  · exact (h.rlt k hk).1
end

theorem wr_new (w : World) : Wr w.heap.size (w.alloc (.cells #[.slice none 0 0, .int .u64 0, .int .i64 0] 62)) w.heap.size none [] :=
  ⟨.slice none 0 0, [], 0, 0, ⟨Blk.new w _ _, Own.nil _ _ _, Nat.le_refl _⟩, rfl, by omega, by omega, rfl⟩

/-- What a call on a Writer leaves. -/
def Wrote (B g : Nat) (r : Option Nat) (w : World) (bs : List Bool) (e : Ending) (w' : World) : Prop :=
  ∃ r', e = .returned (.tuple #[]) ∧ Wr B w' g r' bs ∧ Only (Fp g r) w w' ∧ Nxt r w.heap.size r'

theorem u64_or_join (c r x : Nat) (hc : c < 8) (h : r < 2 ^ c) (hx : x < 2 ^ 32) : bits .or .u64 (r : Int) ((x : Int) * 2 ^ c) = ((r + 2 ^ c * x : Nat) : Int) := by
  have e : (x : Int) * 2 ^ c = ((x * 2 ^ c : Nat) : Int) := by push_cast; rfl
  have h7 : 2 ^ c ≤ 2 ^ 7 := Nat.pow_le_pow_right (by omega) (by omega)
  have hxm : x * 2 ^ c ≤ x * 2 ^ 7 := Nat.mul_le_mul_left _ h7
  rw [e, u64_or_nat _ _ (by omega) (by omega), or_join c r x h]
theorem u64_mask (v n : Nat) (hv : v < 4294967296) (hn : n ≤ 32) : bits .and .u64 (v : Int) ((2 : Int) ^ n - 1) = ((v % 2 ^ n : Nat) : Int) := by
  have hp : 0 < 2 ^ n := Nat.two_pow_pos n
  have h7 : 2 ^ n ≤ 2 ^ 32 := Nat.pow_le_pow_right (by omega) hn
  have e : ((2 : Int) ^ n - 1) = ((2 ^ n - 1 : Nat) : Int) := by rw [Int.natCast_sub hp]; push_cast; rfl
  rw [e, u64_and_nat _ _ (by omega) (by omega), Nat.and_two_pow_sub_one_eq_mod]
/-- The walk's numbers at 'rest |= (v & (1<<n - 1)) << count'. -/
theorem put_nums (v n c rest : Nat) (hv : v < 4294967296) (hn : n ≤ 32) (hc : c < 8) (hr : rest < 2 ^ c) :
    IntKind.u64.wrap (v : Int) = (v : Int) ∧ IntKind.u64.wrap ((2 : Int) ^ n) = (2 : Int) ^ n ∧ IntKind.u64.wrap ((2 : Int) ^ n - 1) = (2 : Int) ^ n - 1 ∧ bits .and .u64 (v : Int) ((2 : Int) ^ n - 1) = ((v % 2 ^ n : Nat) : Int) ∧
      IntKind.u64.wrap (((v % 2 ^ n : Nat) : Int) * 2 ^ c) = ((v % 2 ^ n : Nat) : Int) * 2 ^ c ∧ bits .or .u64 (rest : Int) (((v % 2 ^ n : Nat) : Int) * 2 ^ c) = ((rest + 2 ^ c * (v % 2 ^ n) : Nat) : Int) ∧
      rest + 2 ^ c * (v % 2 ^ n) < 2 ^ (c + n) ∧ lows (c + n) (rest + 2 ^ c * (v % 2 ^ n)) = lows c rest ++ lows n v := by
  have hp : 0 < 2 ^ n := Nat.two_pow_pos n
  have h32 : 2 ^ n ≤ 2 ^ 32 := Nat.pow_le_pow_right (by omega) hn
  have h7 : 2 ^ c ≤ 2 ^ 7 := Nat.pow_le_pow_right (by omega) (by omega)
  have hx : v % 2 ^ n < 2 ^ n := Nat.mod_lt _ hp
  have e : ((2 : Int) ^ n) = ((2 ^ n : Nat) : Int) := by push_cast; rfl
  have e2 : ((v % 2 ^ n : Nat) : Int) * 2 ^ c = (((v % 2 ^ n) * 2 ^ c : Nat) : Int) := by push_cast; rfl
  have hm : (v % 2 ^ n) * 2 ^ c ≤ (v % 2 ^ n) * 2 ^ 7 := Nat.mul_le_mul_left _ h7
  have hm2 : 2 ^ c * (v % 2 ^ n + 1) ≤ 2 ^ c * 2 ^ n := Nat.mul_le_mul_left _ hx
  refine ⟨IntWalk.u64_in _ (by omega), ?_, ?_, u64_mask v n hv hn, ?_, u64_or_join c rest _ hc hr (by omega), ?_, ?_⟩
  · rw [e]; exact IntWalk.u64_in _ (by omega)
  · rw [e]; exact IntWalk.u64_in _ (by omega)
  · rw [e2]; exact IntWalk.u64_in _ (by omega)
  · rw [Nat.pow_add]; rw [Nat.mul_add] at hm2; omega
  · rw [lows_join c n rest _ hr, lows_mod]

/-- What the loop of Put keeps: k bytes have been taken off. -/
structure Puts (B g : Nat) (r : Option Nat) (w : World) (bs : List Bool) (C k : Nat) (wr : World) (a : Option Addr) (len cap : Nat) (l : List UInt8) (R : Nat) : Prop where
  at_ : WrAt B wr g (.slice a len cap) l R C
  len_ : l.length = len
  bits_ : bs = bitsOf l ++ lows (C - 8 * k) R
  small : R < 2 ^ (C - 8 * k)
  only : Only (Fp g r) w wr
  next : Nxt r w.heap.size (Value.ownBlock (.slice a len cap))

theorem puts_step {B g : Nat} {r : Option Nat} {w : World} {T : List Bool} {C k : Nat} {wr w2 : World} {a a1 : Option Addr} {cap c1 : Nat} {l : List UInt8} {R : Nat} {o : Obj} (HP : Puts B g r w T C k wr a l.length cap l R) (hk : 8 ≤ C - 8 * k)
    (hown : Own 5 B w2 (.slice a1 (l.length + 1) c1) (l ++ [UInt8.ofNat R])) (hgrow : (wr.alloc o).drew.grownBy w2 (Value.ownBlock (.slice a l.length cap)))
    (hnext : Nxt (Value.ownBlock (.slice a l.length cap)) (wr.alloc o).drew.heap.size (Value.ownBlock (.slice a1 (l.length + 1) c1))) :
    Puts B g r w T C (k + 1) ((w2.setCell ⟨g, 0, none⟩ (.slice a1 (l.length + 1) c1)).setCell ⟨g, 1, none⟩ (.int .u64 ((R : Int) / 256))) a1 (l.length + 1) c1 (l ++ [UInt8.ofNat R]) (R / 256) := by
  have hb2 := (HP.at_.blk.alloc o).drew.grown hgrow (Ne.symm HP.at_.far)
  have hfar := own_len_ne hown hb2 (by decide)
  have hO1 : Only (Fp g r) w w2 := HP.only.next HP.next (((Only.refl _ wr).alloc o).drew.grown hgrow fun k _ hk => .inr hk)
  have hO2 : Only (fun k => g = k) w2 ((w2.setCell ⟨g, 0, none⟩ (.slice a1 (l.length + 1) c1)).setCell ⟨g, 1, none⟩ (.int .u64 ((R : Int) / 256))) :=
    ((Only.refl _ w2).setCell (p := ⟨g, 0, none⟩) (fun _ => rfl) _).setCell (p := ⟨g, 1, none⟩) (fun _ => rfl) _
  refine ⟨⟨?_, hO2.own hown (fun k hk e => hfar (by rw [hk, ← e])), HP.at_.base⟩, by simp, ?_, ?_, hO1.trans hO2 (fun i _ h => .inl h.symm), ?_⟩
  · exact (hb2.set_ 0 (.slice a1 (l.length + 1) c1)).set_ 1 (.int .u64 ((R : Int) / 256))
  · rw [HP.bits_, bitsOf_append, bitsOf_one, List.append_assoc, lows_byte _ R hk, UInt8.toNat_ofNat', show C - 8 * k - 8 = C - 8 * (k + 1) from by omega]
  · have := HP.small
    rw [show C - 8 * k = (C - 8 * (k + 1)) + 8 from by omega, Nat.pow_add] at this
    exact Nat.div_lt_of_lt_mul (by rw [Nat.mul_comm]; exact this)
  · refine HP.next.trans hnext ?_
    have := HP.only.size
    simp
    omega

set_option maxRecDepth 100000 in
set_option maxHeartbeats 4000000 in
theorem put_any (v n B g : Nat) (r : Option Nat) (bs : List Bool) (w : World) (hv : v < 4294967296) (h1 : 1 ≤ n) (hn : n ≤ 32) (hw : Wr B w g r bs) (hl : bs.length ≤ 100000000000) :
    Calls Try.prog 18 #[.pointer (some ⟨g, 0, none⟩), .int .u32 (v : Int), .int .i64 (n : Int)] w (Wrote B g r w (bs ++ lows n v)) := by
  obtain ⟨v0, l, rest, c, hat, hr0, hc, hr, hbs⟩ := hw
  obtain ⟨T, hT⟩ : ∃ T, T = bs ++ lows n v := ⟨_, rfl⟩
  rw [← hT]
  have hlen : l.length ≤ 100000000000 := by have := congrArg List.length hbs; rw [List.length_append, bitsOf_len] at this; omega
  have hTl : T.length ≤ 200000000000 := by rw [hT, List.length_append, lows_len]; omega
  obtain ⟨a0, c0, rfl, -⟩ := hat.own.bytes
  have hc0 := hat.blk.cell 0
  have hc1 := hat.blk.cell 1
  have hc2 := hat.blk.cell 2
  have hf1 := hat.blk.frozen 1
  have hf2 := hat.blk.frozen 2
  simp only [List.getElem?_toArray, List.getElem?_cons_zero, List.getElem?_cons_succ] at hc0 hc1 hc2
  have hcn : (c : Int) + (n : Int) ≤ 39 := by omega
  obtain ⟨p1, p2, p3, p4, p5, p6, p7, p8⟩ := put_nums v n c rest hv hn hc hr
  generalize v % 2 ^ n = x at p4 p5 p6 p7 p8
  obtain ⟨R, hR⟩ : ∃ R, R = rest + 2 ^ c * x := ⟨_, rfl⟩
  rw [← hR] at p6 p7 p8
  have HP0 : Hid (Puts B g r w T (c + n) 0 ((w.drew.setCell ⟨g, 1, none⟩ (.int .u64 (R : Int))).setCell ⟨g, 2, none⟩ (.int .i64 ((c : Int) + (n : Int)))) a0 l.length c0 l R) := Lib.hid (by
    have hO : Only (Fp g r) w ((w.drew.setCell ⟨g, 1, none⟩ (.int .u64 (R : Int))).setCell ⟨g, 2, none⟩ (.int .i64 ((c : Int) + (n : Int)))) :=
      ((Only.refl _ w).drew.setCell (p := ⟨g, 1, none⟩) (fun _ => .inl rfl) _).setCell (p := ⟨g, 2, none⟩) (fun _ => .inl rfl) _
    have hO2 : Only (fun k => g = k) w ((w.drew.setCell ⟨g, 1, none⟩ (.int .u64 (R : Int))).setCell ⟨g, 2, none⟩ (.int .i64 ((c : Int) + (n : Int)))) :=
      ((Only.refl _ w).drew.setCell (p := ⟨g, 1, none⟩) (fun _ => rfl) _).setCell (p := ⟨g, 2, none⟩) (fun _ => rfl) _
    refine ⟨⟨?_, hO2.own hat.own (fun k hk e => hat.far (by rw [hk, ← e])), hat.base⟩, rfl, ?_, p7, hO, .inl hr0⟩
    · have hb : Blk w.drew g _ _ := hat.blk
      exact (hb.set_ 1 (.int .u64 (R : Int))).set_ 2 (.int .i64 ((c : Int) + (n : Int)))
    · rw [hT, hbs, Nat.mul_zero, Nat.sub_zero, p8, List.append_assoc])
  clear hR p7 p8 hat hT hbs hlen hr0 hl
  go_enter Try.func18, Try.ntmps18
  go_wp2_with fail
  refine (fits_yes n w (by omega) (by omega)).mono ?_
  rintro e w' ⟨rfl, rfl⟩
  go_wp2_with fail
  go_still_tail 18, (by kernel_rfl)
  clear p1 p2 p3 p4 p5 p6
  change wpList _ _ _ _ _ w.drew
  have hc0' : w.drew.cell? ⟨g, 0, none⟩ = some (.slice a0 l.length c0) := hc0
  have hc1' : w.drew.cell? ⟨g, 1, none⟩ = some (.int .u64 (rest : Int)) := hc1
  have hc2' : w.drew.cell? ⟨g, 2, none⟩ = some (.int .i64 (c : Int)) := hc2
  have hf1' : w.drew.frozen? ⟨g, 1, none⟩ = false := hf1
  have hf2' : w.drew.frozen? ⟨g, 2, none⟩ = false := hf2
  clear hc0 hc1 hc2 hf1 hf2
  generalize w.drew = wd at *
  go_wp2_with fail
  generalize (wd.setCell ⟨g, 1, none⟩ (.int .u64 (R : Int))).setCell ⟨g, 2, none⟩ (.int .i64 ((c : Int) + (n : Int))) = w1 at *
  clear hc0' hc1' hc2' hf1' hf2'
  go_loopw [44] (fun i wr => ∃ (k : Nat) (a : Option Addr) (len cap : Nat) (l' : List UInt8) (R' : Nat), k ≤ (c + n) / 8 ∧ i = .int .i64 (k : Int) ∧ Hid (Puts B g r w T (c + n) k wr a len cap l' R')) (fun i _ => (c + n) / 8 - (intOf i).toNat)
  case atStart => exact ⟨0, a0, _, c0, l, R, Nat.zero_le _, rfl, HP0⟩
  case round =>
    clear HP0
    obtain ⟨k, a, len, cap, l', R', hk, rfl, HP⟩ := hrel
    have hc0 := HP.out.at_.blk.cell 0
    have hc1 := HP.out.at_.blk.cell 1
    have hc2 := HP.out.at_.blk.cell 2
    have hf0 := HP.out.at_.blk.frozen 0
    have hf1 := HP.out.at_.blk.frozen 1
    have hf2 := HP.out.at_.blk.frozen 2
    have hlt := HP.out.at_.blk.lt
    simp only [List.getElem?_toArray, List.getElem?_cons_zero, List.getElem?_cons_succ] at hc0 hc1 hc2
    by_cases hlt : k < (c + n) / 8
    · have hki : (k : Int) < ((c : Int) + (n : Int)) / 8 := by omega
      obtain ⟨i0, hi0, hz0, hz1, hz2⟩ := info_parts info5
      have hnb : Bytes (wr.alloc (.cells #[.int .u8 (IntKind.u8.wrap (R' : Int))] 5)) (some ⟨wr.heap.size, 0, none⟩) 1 1 [UInt8.ofNat R'] := by
        have := one_bytes 5 wr (UInt8.ofNat R')
        rwa [UInt8.toNat_ofNat', show ((R' % 2 ^ 8 : Nat) : Int) = IntKind.u8.wrap (R' : Int) from by rw [IntKind.wrap_u8]; omega] at this
      have hblk := HP.out.at_.blk
      have hown := HP.out.at_.own
      have hne := HP.out.at_.far
      have hll : l'.length ≤ 200000000000 := by have := congrArg List.length HP.out.bits_; rw [List.length_append, bitsOf_len] at this; omega
      have hBs : B ≤ wr.heap.size := by have := HP.out.at_.base; omega
      rw [← HP.out.len_] at *
      go_wp2_with fail
      go_region_law
        ((refine step_append_lie (by rfl) _ _ _ (by rfl) B 5 Try.underlying33 info5 (.slice a l'.length cap) l' (by rfl) ((hown.below (Nat.le_refl _) (((Below.refl _ wr).drew).alloc (Nat.le_refl _) _))) (some ⟨wr.heap.size, 0, none⟩) 1 1 [UInt8.ofNat R'] (by rfl) (hnb.below (Nat.le_refl _) (Below.refl _ _).drew) (by omega) (by simp; omega) ?_; intro a1 c1 w2 hown1 hgrow hnext; have hb2 := (hblk.alloc _).drew.grown hgrow (Ne.symm hne); have e0 : w2.cell? ⟨g, 0, none⟩ = some (.slice a l'.length cap) := hb2.cell 0; have f0 := hb2.frozen 0; have e1 : w2.cell? ⟨g, 1, none⟩ = some (.int .u64 (R' : Int)) := hb2.cell 1; have f1 := hb2.frozen 1))
      all_goals
        have HP1 := Lib.hid (puts_step HP.out (by omega) hown1 hgrow hnext)
        clear hown1 hgrow hnext hb2
        go_wp2_with fail
        go_roundw
        case rel => exact ⟨k + 1, _, _, _, _, _, by omega, by go_num, HP1⟩
        case measure => simp [intOf]; omega
    · have hki : ¬ (k : Int) < ((c : Int) + (n : Int)) / 8 := by omega
      go_wp2_with fail
      go_end0
      obtain rfl : k = (c + n) / 8 := by omega
      have hsm := HP.out.small
      have hbi := HP.out.bits_
      rw [show c + n - 8 * ((c + n) / 8) = (c + n) % 8 from by omega] at hsm hbi
      have hO2 : Only (fun k => g = k) wr (wr.setCell ⟨g, 2, none⟩ (.int .i64 (((c : Int) + (n : Int)) % 8))) := (Only.refl _ wr).setCell (p := ⟨g, 2, none⟩) (fun _ => rfl) _
      have hfar := HP.out.at_.far
      refine ⟨_, rfl, ⟨.slice a len cap, l', R', (c + n) % 8, ⟨HP.out.at_.blk.set_ 2 _, hO2.own HP.out.at_.own (fun k hk e => hfar (by rw [hk, ← e])), HP.out.at_.base⟩, rfl, by omega, hsm, hbi⟩, HP.out.only.trans hO2 (fun i _ h => .inl h.symm), HP.out.next⟩
end Go.Proofs.Ytaeoedapaiapdaa.BitC
