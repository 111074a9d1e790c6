import Derived.Test.YtbjjkhlebdaoaaaGreatDoorRows
import Derived.Test.YtbjjkhlebdaoaaaGreatDoorMgA
import Derived.Laws.Pointers
import Derived.Deep.QuietTactic
import Derived.BigQuiet
import Derived.StillTailTactics
import Derived.Deep.RegionLaw
import Derived.Laws.MakeOwn
import Derived.Test.YtbjjkhlebdaoaaaGreatDoorMgH
import Derived.Deep.DeepCutAuto
import Derived.Deep.CutBlock

section
/-
  Writer: fits, NewWriter (XBitA has turned and the document's Put besides).
-/
namespace Go.Proofs.YtbjjkhlebdaoaaaGreatDoor.BitC
open Go.RowKit Go.My BitMath

theorem info5 : (Tryz.prog.info? 5).map (fun i => (i.zero, i.size, i.bytes)) = some (some (.int .u8 0), 1, 1) := by kernel_rfl

theorem fits_yes (n : Int) (w : World) (h1 : 1 ≤ n) (h2 : n ≤ 32) : Calls Tryz.prog 61 #[.int .i64 n] w fun e w' => e = .returned (.bool true) ∧ w = w' := by
  go_enter Tryz.func61, Tryz.ntmps61
  go_wp2
  go_ret
  exact ⟨by simp, rfl⟩
theorem fits_no (n : Int) (w : World) (h : n < 1 ∨ 32 < n) : Calls Tryz.prog 61 #[.int .i64 n] w fun e w' => e = .returned (.bool false) ∧ w = w' := by
  rcases h with h | h
  · go_enter Tryz.func61, Tryz.ntmps61
    go_wp2
    go_ret
    exact ⟨rfl, rfl⟩
  · have h1 : 1 ≤ n := by omega
    have h8 : ¬ n ≤ 32 := by omega
    go_enter Tryz.func61, Tryz.ntmps61
    go_wp2
    go_ret
    exact ⟨by simp, rfl⟩

theorem new_writer (w : World) : Calls Tryz.prog 11 #[] w fun e w' => e = .returned (.pointer (some ⟨w.heap.size, 0, none⟩)) ∧ w.alloc (.cells #[.slice none 0 0, .int .u64 0, .int .i64 0] 43) = w' := by
  go_enter Tryz.func11, Tryz.ntmps11
  go_wp2
  go_ret
  exact ⟨rfl, rfl⟩

/-! ### bytes written into a row of the call's own -/
theorem own_store {E : TypeId} {base : Nat} {w : World} {g n c : Nat} {l : List UInt8} (h : Own E base w (.slice (some ⟨g, 0, none⟩) n c) l) (hn : l.length = n) (i : Nat) (b : UInt8) :
    Own E base (w.setCell ⟨g, i, none⟩ (bv b)) (.slice (some ⟨g, 0, none⟩) n c) (l.set i b) := by
  subst hn
  have := (World.ownsRow.stored h i (bv b)).1
  unfold Own
  rw [List.length_set, List.map_set]
  exact this
theorem own_cell {E : TypeId} {base : Nat} {w : World} {g n c : Nat} {l : List UInt8} (h : Own E base w (.slice (some ⟨g, 0, none⟩) n c) l) (hn : l.length = n) (i : Nat) (hi : i < l.length) : w.cell? ⟨g, i, none⟩ = some (bv l[i]) := by
  subst hn
  have hl := h
  unfold Own at hl
  have hcell := World.ownsRow.cellAt hl i (by simpa using hi)
  rw [hcell, List.getElem?_map, List.getElem?_eq_getElem hi]
  rfl
theorem own_free {E : TypeId} {base : Nat} {w : World} {g n c : Nat} {l : List UInt8} (h : Own E base w (.slice (some ⟨g, 0, none⟩) n c) l) (hn : l.length = n) (i : Nat) : w.frozen? ⟨g, i, none⟩ = false := by
  subst hn
  exact World.ownsRow.frozenAt h i
end Go.Proofs.YtbjjkhlebdaoaaaGreatDoor.BitC
end

section
namespace Go.Proofs.YtbjjkhlebdaoaaaGreatDoor.BitC
open Go.RowKit Go.My BitMath

/-- A Writer's block: the full bytes l (the slice v), the bits behind them. -/
structure WrAt (B : Nat) (w : World) (g : Nat) (v : Value) (l : List UInt8) (rest count : Nat) : Prop where
  blk : Blk w g 43 #[v, .int .u64 (rest : Int), .int .i64 (count : Int)]
  own : Own 5 B w v l
  base : B ≤ g
/-- A Writer that holds these bits; its full bytes lie in block r. -/
def Wr (B : Nat) (w : World) (g : Nat) (r : Option Nat) (bs : List Bool) : Prop :=
  ∃ v l rest count, WrAt B w g v l rest count ∧ v.ownBlock = r ∧ count < 8 ∧ rest < 2 ^ count ∧ bs = bitsOf l ++ lows count rest

section
variable {B g rest count : Nat} {w w' : World} {v : Value} {l : List UInt8} {r : Option Nat} {bs : List Bool} {S : Nat → Prop}
theorem WrAt.far (h : WrAt B w g v l rest count) : v.ownBlock ≠ some g := own_len_ne h.own h.blk (by decide)
theorem WrAt.only (h : WrAt B w g v l rest count) (hk : Only S w w') (hg : ¬ S g) (hr : ∀ k, v.ownBlock = some k → ¬ S k) : WrAt B w' g v l rest count :=
  ⟨hk.blk h.blk hg, hk.own h.own hr, h.base⟩
theorem Wr.only (h : Wr B w g r bs) (hk : Only S w w') (hg : ¬ S g) (hr : ∀ k, r = some k → ¬ S k) : Wr B w' g r bs := by
  obtain ⟨v, l, rest, count, h1, rfl, h2⟩ := h
  exact ⟨v, l, rest, count, h1.only hk hg hr, rfl, h2⟩
theorem Wr.below (h : Wr B w g r bs) (hk : Below w.heap.size w w') : Wr B w' g r bs := h.only (Only.of_below hk (fun _ => False)) (fun h => h) (fun _ _ h => h)
theorem Wr.lt (h : Wr B w g r bs) : g < w.heap.size := by
  obtain ⟨v, l, rest, count, h1, _⟩ := h
  exact h1.blk.lt
theorem Wr.rlt (h : Wr B w g r bs) : ∀ k, r = some k → B ≤ k ∧ k < w.heap.size := by
  obtain ⟨v, l, rest, count, h1, rfl, _⟩ := h
  exact fun k hk => World.ownsRow.lt h1.own k hk
theorem Wr.base (h : Wr B w g r bs) : B ≤ g := by
  obtain ⟨v, l, rest, count, h1, _⟩ := h
  exact h1.base
theorem Wr.fp (h : Wr B w g r bs) : ∀ k, Fp g r k → B ≤ k := by
  rintro k (rfl | hk)
  · exact h.base
  · exact (h.rlt k hk).1
end

theorem wr_new (w : World) : Wr w.heap.size (w.alloc (.cells #[.slice none 0 0, .int .u64 0, .int .i64 0] 43)) w.heap.size none [] :=
  ⟨.slice none 0 0, [], 0, 0, ⟨Blk.new w _ _, Own.nil _ _ _, Nat.le_refl _⟩, rfl, by omega, by omega, rfl⟩

/-- What a call on a Writer leaves. -/
def Wrote (B g : Nat) (r : Option Nat) (w : World) (bs : List Bool) (e : Ending) (w' : World) : Prop :=
  ∃ r', e = .returned (.tuple #[]) ∧ Wr B w' g r' bs ∧ Only (Fp g r) w w' ∧ Nxt r w.heap.size r'

theorem u64_or_join (c r x : Nat) (hc : c < 8) (h : r < 2 ^ c) (hx : x < 2 ^ 32) : bits .or .u64 (r : Int) ((x : Int) * 2 ^ c) = ((r + 2 ^ c * x : Nat) : Int) := by
  have e : (x : Int) * 2 ^ c = ((x * 2 ^ c : Nat) : Int) := by push_cast; rfl
  have h7 : 2 ^ c ≤ 2 ^ 7 := Nat.pow_le_pow_right (by omega) (by omega)
  have hxm : x * 2 ^ c ≤ x * 2 ^ 7 := Nat.mul_le_mul_left _ h7
  rw [e, u64_or_nat _ _ (by omega) (by omega), or_join c r x h]
theorem u64_mask (v n : Nat) (hv : v < 4294967296) (hn : n ≤ 32) : bits .and .u64 (v : Int) ((2 : Int) ^ n - 1) = ((v % 2 ^ n : Nat) : Int) := by
  have hp : 0 < 2 ^ n := Nat.two_pow_pos n
  have h7 : 2 ^ n ≤ 2 ^ 32 := Nat.pow_le_pow_right (by omega) hn
  have e : ((2 : Int) ^ n - 1) = ((2 ^ n - 1 : Nat) : Int) := by rw [Int.natCast_sub hp]; push_cast; rfl
  rw [e, u64_and_nat _ _ (by omega) (by omega), Nat.and_two_pow_sub_one_eq_mod]
/-- The walk's numbers at 'rest |= (v & (1<<n - 1)) << count'. -/
theorem put_nums (v n c rest : Nat) (hv : v < 4294967296) (hn : n ≤ 32) (hc : c < 8) (hr : rest < 2 ^ c) :
    IntKind.u64.wrap (v : Int) = (v : Int) ∧ IntKind.u64.wrap ((2 : Int) ^ n) = (2 : Int) ^ n ∧ IntKind.u64.wrap ((2 : Int) ^ n - 1) = (2 : Int) ^ n - 1 ∧ bits .and .u64 (v : Int) ((2 : Int) ^ n - 1) = ((v % 2 ^ n : Nat) : Int) ∧
      IntKind.u64.wrap (((v % 2 ^ n : Nat) : Int) * 2 ^ c) = ((v % 2 ^ n : Nat) : Int) * 2 ^ c ∧ bits .or .u64 (rest : Int) (((v % 2 ^ n : Nat) : Int) * 2 ^ c) = ((rest + 2 ^ c * (v % 2 ^ n) : Nat) : Int) ∧
      rest + 2 ^ c * (v % 2 ^ n) < 2 ^ (c + n) ∧ lows (c + n) (rest + 2 ^ c * (v % 2 ^ n)) = lows c rest ++ lows n v := by
  have hp : 0 < 2 ^ n := Nat.two_pow_pos n
  have h32 : 2 ^ n ≤ 2 ^ 32 := Nat.pow_le_pow_right (by omega) hn
  have h7 : 2 ^ c ≤ 2 ^ 7 := Nat.pow_le_pow_right (by omega) (by omega)
  have hx : v % 2 ^ n < 2 ^ n := Nat.mod_lt _ hp
  have e : ((2 : Int) ^ n) = ((2 ^ n : Nat) : Int) := by push_cast; rfl
  have e2 : ((v % 2 ^ n : Nat) : Int) * 2 ^ c = (((v % 2 ^ n) * 2 ^ c : Nat) : Int) := by push_cast; rfl
  have hm : (v % 2 ^ n) * 2 ^ c ≤ (v % 2 ^ n) * 2 ^ 7 := Nat.mul_le_mul_left _ h7
  have hm2 : 2 ^ c * (v % 2 ^ n + 1) ≤ 2 ^ c * 2 ^ n := Nat.mul_le_mul_left _ hx
  refine ⟨IntWalk.u64_in _ (by omega), ?_, ?_, u64_mask v n hv hn, ?_, u64_or_join c rest _ hc hr (by omega), ?_, ?_⟩
  · rw [e]; exact IntWalk.u64_in _ (by omega)
  · rw [e]; exact IntWalk.u64_in _ (by omega)
  · rw [e2]; exact IntWalk.u64_in _ (by omega)
  · rw [Nat.pow_add]; rw [Nat.mul_add] at hm2; omega
  · rw [lows_join c n rest _ hr, lows_mod]

/-- What the loop of Put keeps: k bytes have been taken off. -/
structure Puts (B g : Nat) (r : Option Nat) (w : World) (bs : List Bool) (C k : Nat) (wr : World) (a : Option Addr) (len cap : Nat) (l : List UInt8) (R : Nat) : Prop where
  at_ : WrAt B wr g (.slice a len cap) l R C
  len_ : l.length = len
  bits_ : bs = bitsOf l ++ lows (C - 8 * k) R
  small : R < 2 ^ (C - 8 * k)
  only : Only (Fp g r) w wr
  next : Nxt r w.heap.size (Value.ownBlock (.slice a len cap))

theorem puts_step {B g : Nat} {r : Option Nat} {w : World} {T : List Bool} {C k : Nat} {wr w2 : World} {a a1 : Option Addr} {cap c1 : Nat} {l : List UInt8} {R : Nat} {o : Obj} (HP : Puts B g r w T C k wr a l.length cap l R) (hk : 8 ≤ C - 8 * k)
    (hown : Own 5 B w2 (.slice a1 (l.length + 1) c1) (l ++ [UInt8.ofNat R])) (hgrow : (wr.alloc o).drew.grownBy w2 (Value.ownBlock (.slice a l.length cap)))
    (hnext : Nxt (Value.ownBlock (.slice a l.length cap)) (wr.alloc o).drew.heap.size (Value.ownBlock (.slice a1 (l.length + 1) c1))) :
    Puts B g r w T C (k + 1) ((w2.setCell ⟨g, 0, none⟩ (.slice a1 (l.length + 1) c1)).setCell ⟨g, 1, none⟩ (.int .u64 ((R : Int) / 256))) a1 (l.length + 1) c1 (l ++ [UInt8.ofNat R]) (R / 256) := by
  have hb2 := (HP.at_.blk.alloc o).drew.grown hgrow (Ne.symm HP.at_.far)
  have hfar := own_len_ne hown hb2 (by decide)
  have hO1 : Only (Fp g r) w w2 := HP.only.next HP.next (((Only.refl _ wr).alloc o).drew.grown hgrow fun k _ hk => .inr hk)
  have hO2 : Only (fun k => g = k) w2 ((w2.setCell ⟨g, 0, none⟩ (.slice a1 (l.length + 1) c1)).setCell ⟨g, 1, none⟩ (.int .u64 ((R : Int) / 256))) :=
    ((Only.refl _ w2).setCell (p := ⟨g, 0, none⟩) (fun _ => rfl) _).setCell (p := ⟨g, 1, none⟩) (fun _ => rfl) _
  refine ⟨⟨?_, hO2.own hown (fun k hk e => hfar (by rw [hk, ← e])), HP.at_.base⟩, by simp, ?_, ?_, hO1.trans hO2 (fun i _ h => .inl h.symm), ?_⟩
  · exact (hb2.set_ 0 (.slice a1 (l.length + 1) c1)).set_ 1 (.int .u64 ((R : Int) / 256))
  · rw [HP.bits_, bitsOf_append, bitsOf_one, List.append_assoc, lows_byte _ R hk, UInt8.toNat_ofNat', show C - 8 * k - 8 = C - 8 * (k + 1) from by omega]
  · have := HP.small
    rw [show C - 8 * k = (C - 8 * (k + 1)) + 8 from by omega, Nat.pow_add] at this
    exact Nat.div_lt_of_lt_mul (by rw [Nat.mul_comm]; exact this)
  · refine HP.next.trans hnext ?_
    have := HP.only.size
    simp
    omega

set_option maxRecDepth 100000 in
set_option maxHeartbeats 4000000 in
theorem put_any (v n B g : Nat) (r : Option Nat) (bs : List Bool) (w : World) (hv : v < 4294967296) (h1 : 1 ≤ n) (hn : n ≤ 32) (hw : Wr B w g r bs) (hl : bs.length ≤ 100000000000) :
    Calls Tryz.prog 32 #[.pointer (some ⟨g, 0, none⟩), .int .u32 (v : Int), .int .i64 (n : Int)] w (Wrote B g r w (bs ++ lows n v)) := by
  obtain ⟨v0, l, rest, c, hat, hr0, hc, hr, hbs⟩ := hw
  obtain ⟨T, hT⟩ : ∃ T, T = bs ++ lows n v := ⟨_, rfl⟩
  rw [← hT]
  have hlen : l.length ≤ 100000000000 := by have := congrArg List.length hbs; rw [List.length_append, bitsOf_len] at this; omega
  have hTl : T.length ≤ 200000000000 := by rw [hT, List.length_append, lows_len]; omega
  obtain ⟨a0, c0, rfl, -⟩ := hat.own.bytes
  have hc0 := hat.blk.cell 0
  have hc1 := hat.blk.cell 1
  have hc2 := hat.blk.cell 2
  have hf1 := hat.blk.frozen 1
  have hf2 := hat.blk.frozen 2
  simp only [List.getElem?_toArray, List.getElem?_cons_zero, List.getElem?_cons_succ] at hc0 hc1 hc2
  have hcn : (c : Int) + (n : Int) ≤ 39 := by omega
  obtain ⟨p1, p2, p3, p4, p5, p6, p7, p8⟩ := put_nums v n c rest hv hn hc hr
  generalize v % 2 ^ n = x at p4 p5 p6 p7 p8
  obtain ⟨R, hR⟩ : ∃ R, R = rest + 2 ^ c * x := ⟨_, rfl⟩
  rw [← hR] at p6 p7 p8
  have HP0 : Hid (Puts B g r w T (c + n) 0 ((w.drew.setCell ⟨g, 1, none⟩ (.int .u64 (R : Int))).setCell ⟨g, 2, none⟩ (.int .i64 ((c : Int) + (n : Int)))) a0 l.length c0 l R) := Lib.hid (by
    have hO : Only (Fp g r) w ((w.drew.setCell ⟨g, 1, none⟩ (.int .u64 (R : Int))).setCell ⟨g, 2, none⟩ (.int .i64 ((c : Int) + (n : Int)))) :=
      ((Only.refl _ w).drew.setCell (p := ⟨g, 1, none⟩) (fun _ => .inl rfl) _).setCell (p := ⟨g, 2, none⟩) (fun _ => .inl rfl) _
    have hO2 : Only (fun k => g = k) w ((w.drew.setCell ⟨g, 1, none⟩ (.int .u64 (R : Int))).setCell ⟨g, 2, none⟩ (.int .i64 ((c : Int) + (n : Int)))) :=
      ((Only.refl _ w).drew.setCell (p := ⟨g, 1, none⟩) (fun _ => rfl) _).setCell (p := ⟨g, 2, none⟩) (fun _ => rfl) _
    refine ⟨⟨?_, hO2.own hat.own (fun k hk e => hat.far (by rw [hk, ← e])), hat.base⟩, rfl, ?_, p7, hO, .inl hr0⟩
    · have hb : Blk w.drew g _ _ := hat.blk
      exact (hb.set_ 1 (.int .u64 (R : Int))).set_ 2 (.int .i64 ((c : Int) + (n : Int)))
    · rw [hT, hbs, Nat.mul_zero, Nat.sub_zero, p8, List.append_assoc])
  clear hR p7 p8 hat hT hbs hlen hr0 hl
  go_enter Tryz.func32, Tryz.ntmps32
  go_wp2_with fail
  refine (fits_yes n w (by omega) (by omega)).mono ?_
  rintro e w' ⟨rfl, rfl⟩
  go_wp2_with fail
  go_still_tail 18, (by kernel_rfl)
  clear p1 p2 p3 p4 p5 p6
  change wpList _ _ _ _ _ w.drew
  have hc0' : w.drew.cell? ⟨g, 0, none⟩ = some (.slice a0 l.length c0) := hc0
  have hc1' : w.drew.cell? ⟨g, 1, none⟩ = some (.int .u64 (rest : Int)) := hc1
  have hc2' : w.drew.cell? ⟨g, 2, none⟩ = some (.int .i64 (c : Int)) := hc2
  have hf1' : w.drew.frozen? ⟨g, 1, none⟩ = false := hf1
  have hf2' : w.drew.frozen? ⟨g, 2, none⟩ = false := hf2
  clear hc0 hc1 hc2 hf1 hf2
  generalize w.drew = wd at *
  go_wp2_with fail
  generalize (wd.setCell ⟨g, 1, none⟩ (.int .u64 (R : Int))).setCell ⟨g, 2, none⟩ (.int .i64 ((c : Int) + (n : Int))) = w1 at *
  clear hc0' hc1' hc2' hf1' hf2'
  go_loopw [44] (fun i wr => ∃ (k : Nat) (a : Option Addr) (len cap : Nat) (l' : List UInt8) (R' : Nat), k ≤ (c + n) / 8 ∧ i = .int .i64 (k : Int) ∧ Hid (Puts B g r w T (c + n) k wr a len cap l' R')) (fun i _ => (c + n) / 8 - (intOf i).toNat)
  case atStart => exact ⟨0, a0, _, c0, l, R, Nat.zero_le _, rfl, HP0⟩
  case round =>
    clear HP0
    obtain ⟨k, a, len, cap, l', R', hk, rfl, HP⟩ := hrel
    have hc0 := HP.out.at_.blk.cell 0
    have hc1 := HP.out.at_.blk.cell 1
    have hc2 := HP.out.at_.blk.cell 2
    have hf0 := HP.out.at_.blk.frozen 0
    have hf1 := HP.out.at_.blk.frozen 1
    have hf2 := HP.out.at_.blk.frozen 2
    have hlt := HP.out.at_.blk.lt
    simp only [List.getElem?_toArray, List.getElem?_cons_zero, List.getElem?_cons_succ] at hc0 hc1 hc2
    by_cases hlt : k < (c + n) / 8
    · have hki : (k : Int) < ((c : Int) + (n : Int)) / 8 := by omega
      obtain ⟨i0, hi0, hz0, hz1, hz2⟩ := info_parts info5
      have hnb : Bytes (wr.alloc (.cells #[.int .u8 (IntKind.u8.wrap (R' : Int))] 5)) (some ⟨wr.heap.size, 0, none⟩) 1 1 [UInt8.ofNat R'] := by
        have := one_bytes 5 wr (UInt8.ofNat R')
        rwa [UInt8.toNat_ofNat', show ((R' % 2 ^ 8 : Nat) : Int) = IntKind.u8.wrap (R' : Int) from by rw [IntKind.wrap_u8]; omega] at this
      have hblk := HP.out.at_.blk
      have hown := HP.out.at_.own
      have hne := HP.out.at_.far
      have hll : l'.length ≤ 200000000000 := by have := congrArg List.length HP.out.bits_; rw [List.length_append, bitsOf_len] at this; omega
      have hBs : B ≤ wr.heap.size := by have := HP.out.at_.base; omega
      rw [← HP.out.len_] at *
      go_wp2_with fail
      go_region_law
        ((refine step_append_lie (by rfl) _ _ _ (by rfl) B 5 Tryz.underlying22 info5 (.slice a l'.length cap) l' (by rfl) ((hown.below (Nat.le_refl _) (((Below.refl _ wr).drew).alloc (Nat.le_refl _) _))) (some ⟨wr.heap.size, 0, none⟩) 1 1 [UInt8.ofNat R'] (by rfl) (hnb.below (Nat.le_refl _) (Below.refl _ _).drew) (by omega) (by simp; omega) ?_; intro a1 c1 w2 hown1 hgrow hnext; have hb2 := (hblk.alloc _).drew.grown hgrow (Ne.symm hne); have e0 : w2.cell? ⟨g, 0, none⟩ = some (.slice a l'.length cap) := hb2.cell 0; have f0 := hb2.frozen 0; have e1 : w2.cell? ⟨g, 1, none⟩ = some (.int .u64 (R' : Int)) := hb2.cell 1; have f1 := hb2.frozen 1))
      all_goals
        have HP1 := Lib.hid (puts_step HP.out (by omega) hown1 hgrow hnext)
        clear hown1 hgrow hnext hb2
        go_wp2_with fail
        go_roundw
        case rel => exact ⟨k + 1, _, _, _, _, _, by omega, by go_num, HP1⟩
        case measure => simp [intOf]; omega
    · have hki : ¬ (k : Int) < ((c : Int) + (n : Int)) / 8 := by omega
      go_wp2_with fail
      go_end0
      obtain rfl : k = (c + n) / 8 := by omega
      have hsm := HP.out.small
      have hbi := HP.out.bits_
      rw [show c + n - 8 * ((c + n) / 8) = (c + n) % 8 from by omega] at hsm hbi
      have hO2 : Only (fun k => g = k) wr (wr.setCell ⟨g, 2, none⟩ (.int .i64 (((c : Int) + (n : Int)) % 8))) := (Only.refl _ wr).setCell (p := ⟨g, 2, none⟩) (fun _ => rfl) _
      have hfar := HP.out.at_.far
      refine ⟨_, rfl, ⟨.slice a len cap, l', R', (c + n) % 8, ⟨HP.out.at_.blk.set_ 2 _, hO2.own HP.out.at_.own (fun k hk e => hfar (by rw [hk, ← e])), HP.out.at_.base⟩, rfl, by omega, hsm, hbi⟩, HP.out.only.trans hO2 (fun i _ h => .inl h.symm), HP.out.next⟩
end Go.Proofs.YtbjjkhlebdaoaaaGreatDoor.BitC
end

section
/-
  Writer: Align, Raw, Bytes (XBitX has Code, Len besides).
-/
namespace Go.Proofs.YtbjjkhlebdaoaaaGreatDoor.BitC
open Go.RowKit Go.My BitMath

theorem put_no (v n : Int) (g : Nat) (w : World) (h : n < 1 ∨ 32 < n) :
    Calls Tryz.prog 32 #[.pointer (some ⟨g, 0, none⟩), .int .u32 v, .int .i64 n] w fun e w' => e = .returned (.tuple #[]) ∧ w = w' := by
  go_enter Tryz.func32, Tryz.ntmps32
  go_wp2_with fail
  refine (fits_no n w h).mono ?_
  rintro e w' ⟨rfl, rfl⟩
  go_wp2_with fail
  exact bodyPost_ret (results_none rfl _ _ _) rfl ⟨rfl, rfl⟩

theorem align_any (B g : Nat) (r : Option Nat) (bs : List Bool) (w : World) (hw : Wr B w g r bs) (hl : bs.length ≤ 100000000000) :
    Calls Tryz.prog 31 #[.pointer (some ⟨g, 0, none⟩)] w (Wrote B g r w (pad bs)) := by
  have HW := Lib.hid hw
  obtain ⟨v0, l, rest, c, hat, hr0, hc, hr, hbs⟩ := hw
  have hc2 := hat.blk.cell 2
  simp only [List.getElem?_toArray, List.getElem?_cons_zero, List.getElem?_cons_succ] at hc2
  have hlen : bs.length = 8 * l.length + c := by rw [hbs, List.length_append, bitsOf_len, lows_len]
  clear hat hr0 hr hbs
  by_cases h0 : c = 0
  · subst h0
    have HPD : Hid (pad bs = bs) := Lib.hid (pad_full bs (by omega))
    rw [HPD.out]
    have HL := Lib.hid hlen
    clear hlen hl
    go_enter Tryz.func31, Tryz.ntmps31
    go_wp2_with fail
    go_end0
    exact ⟨r, rfl, HW.out, Only.refl _ _, Nxt.refl _ _⟩
  · have HPD : Hid (pad bs = bs ++ lows (8 - c) 0) := Lib.hid (by
      unfold pad; rw [lows_zero, hlen, show (8 - (8 * l.length + c) % 8) % 8 = 8 - c from by omega])
    rw [HPD.out]
    have hc0 : (0 : Int) < (c : Int) := by omega
    have HL := Lib.hid hlen
    clear hlen h0
    have hp := put_any 0 (8 - c) B g r bs w (by omega) (by omega) (by omega) HW.out hl
    rw [show ((8 - c : Nat) : Int) = 8 - (c : Int) from by omega] at hp
    have HP := Lib.hid hp
    clear hp
    go_enter Tryz.func31, Tryz.ntmps31
    go_wp2_with fail
    refine HP.out.mono ?_
    rintro e w' hp
    obtain ⟨r', rfl, hp⟩ := hp
    have HP := Lib.hid hp
    clear hp
    go_wp2_with fail
    go_end0
    exact ⟨r', rfl, HP.out⟩

theorem bytes_only {S : Nat → Prop} {w w' : World} {ad : Option Addr} {len cap : Nat} {l : List UInt8} (h : Only S w w') (hb : Bytes w ad len cap l) (hS : 0 < len → ∀ b off, ad = some ⟨b, off, none⟩ → ¬ S b) : Bytes w' ad len cap l := by
  by_cases h0 : 0 < len
  · exact h.bytes hb (hS h0)
  · exact ⟨hb.1, hb.2, hb.3, hb.4, .inl (by omega)⟩
set_option maxRecDepth 100000 in
set_option maxHeartbeats 2000000 in
theorem raw_all (B g : Nat) (r : Option Nat) (bs : List Bool) (w : World) (hw : Wr B w g r bs) (hl : bs.length ≤ 100000000000) (a : Option Addr) (len cap : Nat) (lb : List UInt8) (hb : Bytes w a len cap lb)
    (hsep : 0 < len → ∀ b off, a = some ⟨b, off, none⟩ → ¬ Fp g r b) (hlb : len ≤ 100000000000) :
    Calls Tryz.prog 33 #[.pointer (some ⟨g, 0, none⟩), .slice a len cap] w (Wrote B g r w (pad bs ++ bitsOf lb)) := by
  have HW := Lib.hid hw
  have HBY := Lib.hid hb
  have HSEP := Lib.hid hsep
  clear hw hb hsep
  go_enter Tryz.func33, Tryz.ntmps33
  go_wp2_with fail
  refine (align_any B g r bs w HW.out hl).mono ?_
  rintro e w1 hp
  obtain ⟨r1, rfl, hw1, ho1, hn1⟩ := hp
  have HB1 := Lib.hid (bytes_only ho1 HBY.out HSEP.out)
  have HO1 := Lib.hid ho1
  have HN1 := Lib.hid hn1
  obtain ⟨v0, l, rest, c, hat, hr0, hc, hr, hbs⟩ := hw1
  obtain ⟨a0, c0, rfl, -⟩ := hat.own.bytes
  have hc0 := hat.blk.cell 0
  have hf0 := hat.blk.frozen 0
  simp only [List.getElem?_toArray, List.getElem?_cons_zero] at hc0
  have hlen := congrArg List.length hbs
  rw [pad_len, List.length_append, bitsOf_len, lows_len] at hlen
  obtain rfl : c = 0 := by omega
  have hll : l.length ≤ 200000000000 := by omega
  have HR0 := Lib.hid hr0
  have HBS := Lib.hid hbs
  have HAT := Lib.hid hat
  have HR := Lib.hid hr
  have hown := hat.own
  have hne := hat.far
  have hBs : B ≤ w1.heap.size := by have := hat.base; have := hat.blk.lt; omega
  clear hat hr0 hbs hlen hr hc ho1 hn1
  go_wp2_with (at_builtin; refine wpList_append_lie (by rfl) (.tmp 12) (.tmp 13) 22 rfl B 5 Tryz.underlying22 info5 (.slice a0 l.length c0) l rfl hown a len cap lb rfl HB1.out (by omega) hBs ?_)
  intro a1 c1 w2 hown1 hgrow hnext
  have hb2 := HAT.out.blk.grown hgrow (Ne.symm hne)
  have e0 : w2.cell? ⟨g, 0, none⟩ = some (.slice a0 l.length c0) := hb2.cell 0
  have f0 := hb2.frozen 0
  have HB2 := Lib.hid hb2
  have HOW := Lib.hid hown1
  have HG := Lib.hid hgrow
  have HX := Lib.hid hnext
  have HNE := Lib.hid hne
  clear hb2 hown1 hgrow hnext hown hne hc0 hf0
  go_wp2_with fail
  go_end0
  have hfar := own_len_ne HOW.out HB2.out (by decide)
  have hO1 : Only (Fp g r) w w2 := HO1.out.next HN1.out (((Only.refl _ w1)).grown HG.out fun k _ hk => .inr (by rw [← HR0.out]; exact hk))
  have hO2 : Only (fun k => g = k) w2 (w2.setCell ⟨g, 0, none⟩ (.slice a1 (l.length + len) c1)) := (Only.refl _ w2).setCell (p := ⟨g, 0, none⟩) (fun _ => rfl) _
  refine ⟨_, rfl, ⟨_, l ++ lb, rest, 0, ⟨HB2.out.set_ 0 _, hO2.own HOW.out (fun k hk e => hfar (by rw [hk, ← e])), HAT.out.base⟩, rfl, by omega, HR.out, ?_⟩, hO1.trans hO2 (fun i _ h => .inl h.symm), ?_⟩
  · rw [HBS.out, bitsOf_append]; simp [lows]
  · have hnx := HX.out
    rw [HR0.out] at hnx
    exact HN1.out.trans hnx HO1.out.size
theorem make_cap (t e : TypeId) (k : Nat) (ht : Tryz.prog.underlying t = some (.slice e)) (hi : (Tryz.prog.info? e).map (fun i => (i.zero, i.size, i.bytes)) = some (some (.int .u8 0), 1, 1)) (hk : k ≤ 281474976710656) :
    ∃ cur : Array Value, cur.size = k * 1 ∧ ∀ W : World, (Instr.makeSlice t (.int .i64 0) (.int .i64 (k : Int))).run Tryz.prog W = .ok (.slice (some ⟨W.heap.size, 0, none⟩) 0 k) (W.alloc (.cells cur e)) := by
  obtain ⟨i, hi, hz0, hz1, hz2⟩ := info_parts hi
  refine ⟨madeCells (Value.cells (.int .u8 0)) (k * 1), ?_, fun W => ?_⟩
  · have h := congrArg List.length (made_bytes k)
    simpa using h
  · have hr := run_make (P := Tryz.prog) W t e i (.int .u8 0) ht hi hz0 .i64 .i64 (0 : Int) (k : Int) (by omega) (by omega) (by rw [hz2]; omega) (by omega)
    simp only [Int.toNat_natCast, Int.toNat_zero, hz1] at hr
    exact hr

set_option maxRecDepth 100000 in
set_option maxHeartbeats 4000000 in
theorem bytes_any (B g : Nat) (r : Option Nat) (bs : List Bool) (w : World) (hw : Wr B w g r bs) (hl : bs.length ≤ 100000000000) :
    Calls Tryz.prog 15 #[.pointer (some ⟨g, 0, none⟩)] w (OwnRet 5 w (pack bs)) := by
  obtain ⟨v0, l, rest, c, hat, hr0, hc, hr, hbs⟩ := hw
  obtain ⟨a0, c0, rfl, hby⟩ := hat.own.bytes
  have hc0 := hat.blk.cell 0
  have hc1 := hat.blk.cell 1
  have hc2 := hat.blk.cell 2
  simp only [List.getElem?_toArray, List.getElem?_cons_zero, List.getElem?_cons_succ] at hc0 hc1 hc2
  have hlen : bs.length = 8 * l.length + c := by rw [hbs, List.length_append, bitsOf_len, lows_len]
  have HP : Hid (pack bs = l ++ (if c = 0 then [] else [UInt8.ofNat rest])) := Lib.hid (by
    rw [hbs, pack_bytes l _ (by rw [lows_len]; exact hc), lows_len, num_lows, Nat.mod_eq_of_lt hr])
  have hll : l.length ≤ 100000000000 := by omega
  have HBY := Lib.hid hby
  have HBL := Lib.hid hat.blk
  obtain ⟨cur, hcur, hmk⟩ := make_cap 22 5 (l.length + 1) Tryz.underlying22 info5 (by omega)
  have hmk1 := hmk w.drew
  rw [show ((l.length + 1 : Nat) : Int) = (l.length : Int) + 1 from by omega] at hmk1
  have HCUR := Lib.hid hcur
  have hx0 : (w.alloc (.cells cur 5)).cell? ⟨g, 0, none⟩ = some (.slice a0 l.length c0) := (hat.blk.alloc _).cell 0
  have hw1 : IntKind.i64.wrap ((l.length : Int) + 1) = (l.length : Int) + 1 := IntWalk.i64_in _ (by omega)
  clear hat hr0 hbs hlen hr hby hcur hmk
  go_enter Tryz.func15, Tryz.ntmps15
  go_wp2_with fail
  go_region_law
    ((refine step_append_lie (by rfl) _ _ _ (by rfl) w.heap.size 5 Tryz.underlying22 info5 (.slice (some ⟨w.heap.size, 0, none⟩) 0 (l.length + 1)) [] (by rfl) (World.ownsRow_made w.drew cur (l.length + 1) (Nat.le_refl _) (by unfold maxLen; omega) HCUR.out) a0 l.length c0 l (by rfl) (HBY.out.below (Nat.le_refl _) (((Below.refl _ w).drew).alloc (Nat.le_refl _) _)) (by simp; omega) (by simp) ?_; intro a1 c1 w2 hown1 hgrow hnext))
  all_goals
    have hb2 : Blk w2 g 43 #[.slice a0 l.length c0, .int .u64 (rest : Int), .int .i64 (c : Int)] :=
      (hgrow.block g (by have := HBL.out.lt; simp; omega) (by have := HBL.out.lt; simp [Value.ownBlock]; omega)).trans (HBL.out.alloc (.cells cur 5))
    have hbel : Below w.heap.size w w2 := (((Below.refl w.heap.size w).alloc (Nat.le_refl _) (.cells cur 5)).drew).trans ((Below.refl _ _).grown hgrow (by simp) (fun k hk => by simp [Value.ownBlock] at hk; omega))
    have hown2 : Own 5 w.heap.size w2 (.slice a1 l.length c1) l := by simpa using hown1
    have e1 : w2.cell? ⟨g, 1, none⟩ = some (.int .u64 (rest : Int)) := hb2.cell 1
    have e2 : w2.cell? ⟨g, 2, none⟩ = some (.int .i64 (c : Int)) := hb2.cell 2
    have HB := Lib.hid hbel
    have HO := Lib.hid hown2
    have hbs2 : w.heap.size ≤ w2.heap.size := hbel.size
    clear hb2 hown1 hgrow hnext hbel
  all_goals
    by_cases h0 : c = 0
    · subst h0
      have HP1 : Hid (pack bs = l) := Lib.hid (by rw [HP.out]; simp)
      go_wp2_with fail
      go_ret
      exact ⟨.slice a1 l.length c1, rfl, by rw [HP1.out]; exact HO.out, HB.out⟩
    · have HP1 : Hid (pack bs = l ++ [UInt8.ofNat rest]) := Lib.hid (by rw [HP.out, if_neg h0])
      have hc0 : (0 : Int) < (c : Int) := by omega
      have hnb : Bytes (w2.alloc (.cells #[.int .u8 ((rest : Int) % 256)] 5)) (some ⟨w2.heap.size, 0, none⟩) 1 1 [UInt8.ofNat rest] := by
        have := one_bytes 5 w2 (UInt8.ofNat rest)
        rwa [UInt8.toNat_ofNat', show ((rest % 2 ^ 8 : Nat) : Int) = (rest : Int) % 256 from by omega] at this
      clear h0
      go_wp2_with (at_builtin; refine wpList_append_lie (by rfl) (.tmp 23) (.tmp 29) 22 rfl w.heap.size 5 Tryz.underlying22 info5 (.slice a1 l.length c1) l rfl (HO.out.below (Nat.le_refl _) ((Below.refl _ w2).alloc (Nat.le_refl _) _)) (some ⟨w2.heap.size, 0, none⟩) 1 1 [UInt8.ofNat rest] rfl hnb (by omega) (by simp; omega) ?_)
      intro a3 c3 w3 hown3 hgrow3 hnext3
      have HO3 := Lib.hid hown3
      have HB3 : Hid (Below w.heap.size w w3) := Lib.hid ((HB.out.alloc hbs2 _).grown hgrow3 (by simp; omega) (fun k hk => (World.ownsRow.lt HO.out k hk).1))
      clear hown3 hgrow3 hnext3
      go_wp2_with fail
      go_ret
      exact ⟨.slice a3 (l.length + 1) c3, rfl, by rw [HP1.out]; exact HO3.out, HB3.out⟩
end Go.Proofs.YtbjjkhlebdaoaaaGreatDoor.BitC
end

section
/-
  Writer: turned; the document's Put.
-/
namespace Go.Proofs.YtbjjkhlebdaoaaaGreatDoor.BitC
open Go.RowKit Go.My BitMath

theorem u32_bit (v k : Nat) (hv : v < 4294967296) : bits .and .u32 ((v : Int) / 2 ^ k) 1 = ((v / 2 ^ k % 2 : Nat) : Int) := by
  have e : (v : Int) / 2 ^ k = ((v / 2 ^ k : Nat) : Int) := by push_cast; rfl
  have hd := Nat.div_le_self v (2 ^ k)
  rw [e, show (1 : Int) = ((1 : Nat) : Int) from rfl, u32_and_nat _ _ (by omega) (by omega), Nat.and_one_is_mod]
theorem turn_step (t v k : Nat) (ht : t < 2147483648) (hv : v < 4294967296) : bits .or .u32 ((t : Int) * 2 % 4294967296) (bits .and .u32 ((v : Int) / 2 ^ k) 1) = ((v / 2 ^ k % 2 + 2 * t : Nat) : Int) := by
  rw [u32_bit v k hv, show (t : Int) * 2 % 4294967296 = ((t * 2 : Nat) : Int) from by omega]
  generalize hb : v / 2 ^ k % 2 = b
  have hb2 : b < 2 ^ 1 := by omega
  rw [u32_or_nat _ _ (by omega) (by omega), Nat.or_comm, show t * 2 = t * 2 ^ 1 from rfl, or_join 1 b t hb2]

set_option maxHeartbeats 1000000 in
theorem turned_any (v n : Nat) (w : World) (hn : n ≤ 32) (hv : v < 4294967296) :
    Calls Tryz.prog 107 #[.int .u32 (v : Int), .int .i64 (n : Int)] w fun e w' => e = .returned (.int .u32 ((num (lows n v).reverse : Nat) : Int)) ∧ w = w' := by
  go_enter Tryz.func107, Tryz.ntmps107
  go_wp2
  go_loop [5, 8] (fun t i => ∃ k : Nat, k ≤ n ∧ i = .int .i64 k ∧ t = .int .u32 ((num (lows k v).reverse : Nat) : Int)) (fun _ i => n - (intOf i).toNat)
  case atStart => exact ⟨0, Nat.zero_le _, rfl, rfl⟩
  case round =>
    obtain ⟨k, hk, rfl, rfl⟩ := hrel
    by_cases hlt : k < n
    · have hs := num_turn k v
      have hl := num_lt (lows k v).reverse
      rw [List.length_reverse, lows_len] at hl
      have hl2 : num (lows k v).reverse < 2147483648 := Nat.lt_of_lt_of_le hl (by rw [show 2147483648 = 2 ^ 31 from rfl]; exact Nat.pow_le_pow_right (by omega) (by omega))
      have HE := Lib.hid (turn_step _ v k hl2 hv)
      have HS := Lib.hid hs
      clear hs hl hl2
      go_wp2
      go_round
      case rel => exact ⟨k + 1, by omega, by go_num, by rw [HE.out, HS.out]⟩
      case measure => simp [intOf]; omega
    · obtain rfl : k = n := by omega
      go_wp2
      go_ret
      exact ⟨rfl, rfl⟩

end Go.Proofs.YtbjjkhlebdaoaaaGreatDoor.BitC
end

section
/-
  Writer: Code, Len.
-/
namespace Go.Proofs.YtbjjkhlebdaoaaaGreatDoor.BitC
open Go.RowKit Go.My BitMath

theorem code_any (v n B g : Nat) (r : Option Nat) (bs : List Bool) (w : World) (hv : v < 4294967296) (h1 : 1 ≤ n) (hn : n ≤ 32) (hw : Wr B w g r bs) (hl : bs.length ≤ 100000000000) :
    Calls Tryz.prog 94 #[.pointer (some ⟨g, 0, none⟩), .int .u32 (v : Int), .int .i64 (n : Int)] w (Wrote B g r w (bs ++ (lows n v).reverse)) := by
  have HW := Lib.hid hw
  have ht := num_lt (lows n v).reverse
  rw [List.length_reverse, lows_len] at ht
  have ht2 : num (lows n v).reverse < 4294967296 := Nat.lt_of_lt_of_le ht (by rw [show 4294967296 = 2 ^ 32 from rfl]; exact Nat.pow_le_pow_right (by omega) hn)
  have HE := Lib.hid (lows_turn n v)
  clear hw ht
  go_enter Tryz.func94, Tryz.ntmps94
  go_wp2_with fail
  refine (fits_yes n w (by omega) (by omega)).mono ?_
  rintro e w' ⟨rfl, rfl⟩
  go_wp2_with fail
  refine (turned_any v n w hn hv).mono ?_
  rintro e w' ⟨rfl, rfl⟩
  go_wp2_with fail
  refine (put_any _ n B g r bs w ht2 h1 hn HW.out hl).mono ?_
  rw [HE.out]
  rintro e w' hp
  obtain ⟨r', rfl, hp⟩ := hp
  have HP := Lib.hid hp
  clear hp
  go_wp2_with fail
  go_end0
  exact ⟨r', rfl, HP.out⟩

theorem len_any (B g : Nat) (r : Option Nat) (bs : List Bool) (w : World) (hw : Wr B w g r bs) (hl : bs.length ≤ 100000000000) :
    Calls Tryz.prog 42 #[.pointer (some ⟨g, 0, none⟩)] w fun e w' => e = .returned (.int .i64 (bs.length : Int)) ∧ ∃ n, w' = w.drewN n := by
  obtain ⟨v0, l, rest, c, hat, hr0, hc, hr, hbs⟩ := hw
  obtain ⟨a0, c0, rfl, -⟩ := hat.own.bytes
  have hc0 := hat.blk.cell 0
  have hc2 := hat.blk.cell 2
  simp only [List.getElem?_toArray, List.getElem?_cons_zero, List.getElem?_cons_succ] at hc0 hc2
  have hlen : bs.length = 8 * l.length + c := by rw [hbs, List.length_append, bitsOf_len, lows_len]
  clear hat hr0 hr hbs
  have hll : l.length ≤ 100000000000 := by omega
  have HL := Lib.hid hlen
  clear hlen
  have h1 : IntKind.i64.wrap (8 * (l.length : Int)) = 8 * (l.length : Int) := IntWalk.i64_in _ (by omega)
  have h2 : IntKind.i64.wrap (8 * (l.length : Int) + (c : Int)) = 8 * (l.length : Int) + (c : Int) := IntWalk.i64_in _ (by omega)
  go_enter Tryz.func42, Tryz.ntmps42
  go_wp2_with fail
  go_quiet (fail)
  go_wp2_with fail
  go_ret
  exact ⟨ret_int (by rw [HL.out]; omega), _, rfl⟩

end Go.Proofs.YtbjjkhlebdaoaaaGreatDoor.BitC
end

section
/-
  begin, storeOne, Store: bytes as stored blocks.
-/
namespace Go.Proofs.YtbjjkhlebdaoaaaGreatDoor.BlkC
open Go.RowKit Go.My BitMath BitC
open InfMath (bn gap stb stbs)

theorem begin_any (B g : Nat) (r : Option Nat) (bs : List Bool) (k : Nat) (last : Bool) (w : World) (hk : k ≤ 2) (hw : Wr B w g r bs) (hl : bs.length ≤ 100000000000) :
    Calls Tryz.prog 30 #[.pointer (some ⟨g, 0, none⟩), .int .u32 (k : Int), .bool last] w (Wrote B g r w (bs ++ lows 3 (bn k last))) := by
  have HP := Lib.hid (put_any (bn k last) 3 B g r bs w (by unfold bn; split <;> omega) (by omega) (by omega) hw hl)
  clear hw
  have HB : Hid (bn k last = 2 * k + if last then 1 else 0) := Lib.hid rfl
  obtain ⟨b, hb⟩ : ∃ b, b = bn k last := ⟨_, rfl⟩
  rw [← hb] at HP HB
  rcases (by omega : k = 0 ∨ k = 1 ∨ k = 2) with rfl | rfl | rfl
  all_goals
    cases last
    all_goals
      have e := HB.out
      simp only [if_true, Bool.false_eq_true, if_false] at e
      subst e
      clear hb HB
      go_enter Tryz.func30, Tryz.ntmps30
      go_wp2_with fail
      refine HP.out.mono ?_
      rintro e w' ⟨r', rfl, h⟩
      go_wp2_with fail
      go_end0
      exact ⟨r', rfl, h⟩
theorem u32_not (N : Nat) (h : N < 65536) : bits .xor .u32 4294967295 (N : Int) = ((4294967295 - N : Nat) : Int) := by
  rw [show (4294967295 : Int) = ((4294967295 : Nat) : Int) from rfl, u32_xor_nat _ _ (by omega) (by omega)]
  congr 1
  have h1 : (BitVec.allOnes 32 ^^^ BitVec.ofNat 32 N).toNat = (~~~(BitVec.ofNat 32 N)).toNat := by rw [BitVec.allOnes_xor]
  rw [BitVec.toNat_xor, BitVec.toNat_not, BitVec.toNat_allOnes, BitVec.toNat_ofNat, Nat.mod_eq_of_lt (by omega)] at h1
  exact h1
/-- Where a slice lies, another's blocks are not. -/
theorem sep_next {w : World} {g : Nat} {r r' : Option Nat} {a : Option Addr} {len cap : Nat} {l : List UInt8} (hb : Bytes w a len cap l) (h : 0 < len → ∀ b off, a = some ⟨b, off, none⟩ → ¬ Fp g r b) (hn : Nxt r w.heap.size r') : 0 < len → ∀ b off, a = some ⟨b, off, none⟩ → ¬ Fp g r' b := by
  intro h0 b off ha
  have h1 := h h0 b off ha
  rcases hb.at_ with hz | ⟨b', off', ha', hlt, -⟩
  · omega
  · rw [ha] at ha'
    injection ha' with ha'
    injection ha' with ha' _
    subst ha'
    rintro (rfl | hk)
    · exact h1 (.inl rfl)
    · rcases hn with rfl | ⟨k, rfl, hk2⟩
      · exact h1 (.inr hk)
      · injection hk with hk; omega
set_option maxRecDepth 100000 in
set_option maxHeartbeats 4000000 in
theorem one_any (B g : Nat) (r : Option Nat) (bs : List Bool) (c : List UInt8) (last : Bool) (a : Option Addr) (len cap : Nat) (w : World) (hc : len ≤ 65535) (hw : Wr B w g r bs) (hl : bs.length ≤ 10000000000) (hb : Bytes w a len cap c) (hsep : 0 < len → ∀ b off, a = some ⟨b, off, none⟩ → ¬ Fp g r b) :
    Calls Tryz.prog 21 #[.pointer (some ⟨g, 0, none⟩), .slice a len cap, .bool last] w (Wrote B g r w (bs ++ stb bs.length c last)) := by
  have hcl := hb.len_eq
  obtain ⟨T, hT⟩ : ∃ T, T = bs ++ stb bs.length c last := ⟨_, rfl⟩
  rw [← hT]
  have HT : Hid (T = pad (pad (bs ++ lows 3 (bn 0 last)) ++ lows 16 len ++ lows 16 (4294967295 - len)) ++ bitsOf c) := Lib.hid (by
    have e1 : pad (bs ++ lows 3 (bn 0 last)) = bs ++ lows 3 (bn 0 last) ++ List.replicate (gap bs.length) false := by
      unfold pad gap; rw [List.length_append, lows_len]
    have e2 : (pad (bs ++ lows 3 (bn 0 last))).length % 8 = 0 := by rw [pad_len]; omega
    have e3 : lows 16 (4294967295 - len) = lows 16 (65535 - len) := by
      rw [← lows_mod 16 (4294967295 - len), show (4294967295 - len) % 2 ^ 16 = 65535 - len from by omega]
    rw [pad_full _ (by rw [List.length_append, List.length_append, lows_len, lows_len]; omega), e1, e3, hT]
    unfold stb
    rw [hcl]
    simp only [List.append_assoc])
  have HB := Lib.hid hb
  have HS := Lib.hid hsep
  have hx := u32_not len (by omega)
  have hcv : IntKind.u32.wrap (len : Int) = (len : Int) := by rw [IntKind.wrap_u32]; omega
  have h0 := begin_any B g r bs 0 last w (by omega) hw (by omega)
  have H0 := Lib.hid h0
  clear hT hb hsep hw h0
  go_enter Tryz.func21, Tryz.ntmps21
  go_wp2_with fail
  refine H0.out.mono ?_
  rintro e w1 ⟨r1, rfl, hw1, ho1, hn1⟩
  have HO1 := Lib.hid ho1
  have HN1 := Lib.hid hn1
  have HA := Lib.hid (align_any B g r1 _ w1 hw1 (by rw [List.length_append, lows_len]; omega))
  clear hw1 ho1 hn1 H0
  go_wp2_with fail
  refine HA.out.mono ?_
  rintro e w2 ⟨r2, rfl, hw2, ho2, hn2⟩
  have HO2 := Lib.hid (HO1.out.next HN1.out ho2)
  have HN2 := Lib.hid (HN1.out.trans hn2 HO1.out.size)
  have HP := Lib.hid (put_any len 16 B g r2 _ w2 (by omega) (by omega) (by omega) hw2 (by rw [pad_len, List.length_append, lows_len]; omega))
  clear hw2 ho2 hn2 HA HO1 HN1
  go_wp2_with fail
  refine HP.out.mono ?_
  rintro e w3 ⟨r3, rfl, hw3, ho3, hn3⟩
  have HO3 := Lib.hid (HO2.out.next HN2.out ho3)
  have HN3 := Lib.hid (HN2.out.trans hn3 HO2.out.size)
  have HQ := Lib.hid (put_any (4294967295 - len) 16 B g r3 _ w3 (by omega) (by omega) (by omega) hw3 (by rw [List.length_append, pad_len, List.length_append, lows_len, lows_len]; omega))
  clear hw3 ho3 hn3 HP HO2 HN2
  obtain ⟨N, hN⟩ : ∃ N, N = 4294967295 - len := ⟨_, rfl⟩
  rw [← hN] at hx HQ HT
  clear hN
  have hsg : (if IntKind.u32.signed = true then (-1 : Int) else IntKind.u32.max) = 4294967295 := by decide
  go_wp2_with fail
  refine HQ.out.mono ?_
  rintro e w4 ⟨r4, rfl, hw4, ho4, hn4⟩
  have HO4 := Lib.hid (HO3.out.next HN3.out ho4)
  have HN4 := Lib.hid (HN3.out.trans hn4 HO3.out.size)
  have hb4 := bytes_only HO4.out HB.out HS.out
  have HR := Lib.hid (raw_all B g r4 _ w4 hw4 (by rw [List.length_append, List.length_append, pad_len, List.length_append, lows_len, lows_len, lows_len]; omega) a len cap c hb4 (sep_next HB.out HS.out HN4.out) (by omega))
  clear hw4 ho4 hn4 hb4 HQ HO3 HN3 hx
  go_wp2_with fail
  refine HR.out.mono ?_
  rintro e w5 ⟨r5, rfl, hw5, ho5, hn5⟩
  go_wp2_with fail
  go_end0
  exact ⟨r5, rfl, by rw [HT.out]; exact hw5, HO4.out.next HN4.out ho5, HN4.out.trans hn5 HO4.out.size⟩
theorem bytes_take {w : World} {b off len cap : Nat} {l : List UInt8} (h : Bytes w (some ⟨b, off, none⟩) len cap l) (n : Nat) (hn : n ≤ len) (h0 : 0 < len) : Bytes w (some ⟨b, off, none⟩) n cap (l.take n) := by
  have hl := h.len_eq
  refine ⟨by rw [List.length_take]; omega, by have := h.le_cap; omega, h.cap_le, (fun e => by cases e), .inr ?_⟩
  rcases h.at_ with hz | ⟨b', off', ha, hlt, hc⟩
  · omega
  · exact ⟨b', off', ha, hlt, fun i hi => by rw [List.getElem_take]; exact hc i (by rw [List.length_take] at hi; omega)⟩
theorem bytes_drop {w : World} {b off len cap : Nat} {l : List UInt8} (h : Bytes w (some ⟨b, off, none⟩) len cap l) (n : Nat) (hn : n ≤ len) (h0 : 0 < len) : Bytes w (some ⟨b, off + n, none⟩) (len - n) (cap - n) (l.drop n) := by
  have hl := h.len_eq
  have hcc := h.le_cap
  have hcp := h.cap_le
  refine ⟨by rw [List.length_drop]; omega, by omega, by omega, (fun e => by cases e), .inr ?_⟩
  rcases h.at_ with hz | ⟨b', off', ha, hlt, hc⟩
  · omega
  · injection ha with ha
    injection ha with h1 h2
    subst h1 h2
    exact ⟨b, off + n, rfl, hlt, fun i hi => by
      rw [List.getElem_drop, Nat.add_assoc]; exact hc (n + i) (by rw [List.length_drop] at hi; omega)⟩
theorem stored_room (n p : Nat) (b : List UInt8) (last : Bool) (h : b.length ≤ n) : (stbs p b last).length ≤ 9 * n + 100 := by
  rw [InfMath.stbs_len n p b last h]
  have : gap p < 8 := by unfold gap; omega
  omega
set_option maxRecDepth 100000 in
set_option maxHeartbeats 4000000 in
theorem store_any (B g : Nat) (r : Option Nat) (bs : List Bool) (l : List UInt8) (last : Bool) (a : Option Addr) (len cap : Nat) (w : World) (hlen : len ≤ 100000000) (hw : Wr B w g r bs) (hl : bs.length ≤ 1000000000) (hb : Bytes w a len cap l) (hsep : 0 < len → ∀ b off, a = some ⟨b, off, none⟩ → ¬ Fp g r b) :
    Calls Tryz.prog 13 #[.pointer (some ⟨g, 0, none⟩), .slice a len cap, .bool last] w (Wrote B g r w (bs ++ stbs bs.length l last)) := by
  obtain ⟨T, hT⟩ : ∃ T, T = stbs bs.length l last := ⟨_, rfl⟩
  rw [← hT]
  have hTl : T.length ≤ 900000100 := by rw [hT]; exact Nat.le_trans (stored_room len _ l last (by rw [hb.len_eq]; omega)) (by omega)
  have HT := Lib.hid hT
  have HW := Lib.hid hw
  have HB := Lib.hid hb
  have HS := Lib.hid hsep
  clear hT hw hb hsep
  go_enter Tryz.func13, Tryz.ntmps13
  go_wp2_with fail
  go_loopw [1] (fun bv wr => ∃ (a' : Option Addr) (n c : Nat) (l' : List UInt8) (X : List Bool) (r' : Option Nat), bv = .slice a' n c ∧ n ≤ 100000000 ∧ X.length ≤ 900000100 ∧ Hid (X ++ stbs (bs.length + X.length) l' last = T) ∧ Hid (Bytes w a' n c l') ∧ Hid (0 < n → ∀ b off, a' = some ⟨b, off, none⟩ → ¬ Fp g r b) ∧
    Hid (Wr B wr g r' (bs ++ X)) ∧ Hid (Only (Fp g r) w wr) ∧ Hid (Nxt r w.heap.size r')) (fun bv _ => match bv with | .slice _ n _ => n | _ => 0)
  case atStart => exact ⟨a, len, cap, l, [], r, rfl, hlen, by simp, Lib.hid (by rw [List.nil_append, List.length_nil, Nat.add_zero]; exact HT.out.symm), HB, HS, Lib.hid (by rw [List.append_nil]; exact HW.out), Lib.hid (Only.refl _ _), Lib.hid (Nxt.refl _ _)⟩
  case round =>
    clear HB HS HW HT
    obtain ⟨a', n, c, l', X, r', rfl, hn, hX, HE, HB, HS, HW, HO, HN⟩ := hrel
    have hbl : (bs ++ X).length ≤ 1900000100 := by rw [List.length_append]; omega
    have HBW := Lib.hid (bytes_only HO.out HB.out HS.out)
    have HSW := Lib.hid (sep_next HB.out HS.out HN.out)
    by_cases hlt : 65535 < n
    · obtain ⟨b, off, rfl⟩ : ∃ b off, a' = some ⟨b, off, none⟩ := by
        rcases HB.out.at_ with hz | ⟨b, off, ha, -⟩
        · omega
        · exact ⟨b, off, ha⟩
      have hcap := HB.out.le_cap
      have hcap2 := HB.out.cap_le
      have hgt : (n : Int) > 65535 := by omega
      have hne : ¬ c = 65535 := by omega
      have hlen' := HB.out.len_eq
      have H1 := Lib.hid (one_any B g r' (bs ++ X) (l'.take 65535) false (some ⟨b, off, none⟩) 65535 c wr (Nat.le_refl _) HW.out (by omega) (bytes_take HBW.out 65535 (by omega) (by omega)) (fun _ => HSW.out (by omega)))
      have HE2 : Hid ((X ++ stb (bs ++ X).length (l'.take 65535) false) ++ stbs (bs.length + (X ++ stb (bs ++ X).length (l'.take 65535) false).length) (l'.drop 65535) last = T) := Lib.hid (by
        rw [← HE.out, InfMath.stbs_more _ l' last (by omega), List.append_assoc]
        congr 2
        · rw [List.length_append]
        · rw [List.length_append, List.length_append]; congr 1; omega)
      have HBD := Lib.hid (bytes_drop HB.out 65535 (by omega) (by omega))
      have HSD : Hid (0 < n - 65535 → ∀ b' off', (some ⟨b, off + 65535, none⟩ : Option Addr) = some ⟨b', off', none⟩ → ¬ Fp g r b') := Lib.hid (fun _ b' off' he => by
        injection he with he
        injection he with he _
        subst he
        exact HS.out (by omega) b off rfl)
      have hX2 : (X ++ stb (bs ++ X).length (l'.take 65535) false).length ≤ 900000100 := by
        have := congrArg List.length HE2.out
        rw [List.length_append] at this
        omega
      obtain ⟨Y, hY⟩ : ∃ Y, Y = X ++ stb (bs ++ X).length (l'.take 65535) false := ⟨_, rfl⟩
      have HY : Hid (bs ++ X ++ stb (bs ++ X).length (l'.take 65535) false = bs ++ Y) := Lib.hid (by rw [hY, List.append_assoc])
      rw [← hY] at HE2 hX2
      clear hY HW HB HS HBW HSW HE hbl hlen'
      go_wp2_with fail
      refine H1.out.mono ?_
      rintro e w1 ⟨r1, rfl, hw1, ho1, hn1⟩
      have HO1 := Lib.hid (HO.out.next HN.out ho1)
      have HN1 := Lib.hid (HN.out.trans hn1 HO.out.size)
      have HW1 : Hid (Wr B w1 g r1 (bs ++ Y)) := Lib.hid (by rw [← HY.out]; exact hw1)
      clear hw1 ho1 hn1 H1 HO HN HY
      go_wp2_with fail
      go_roundw
      case rel => exact ⟨_, n - 65535, c - 65535, _, Y, r1, by congr 1 <;> omega, by omega, hX2, HE2, HBD, HSD, HW1, HO1, HN1⟩
      case measure => simp; omega
    · have hgt : ¬ (n : Int) > 65535 := by omega
      have H1 := Lib.hid (one_any B g r' (bs ++ X) l' last a' n c wr (by omega) HW.out (by omega) HBW.out HSW.out)
      have HE2 : Hid (bs ++ X ++ stb (bs ++ X).length l' last = bs ++ T) := Lib.hid (by
        rw [List.append_assoc, ← HE.out, InfMath.stbs_one _ l' last (by rw [HB.out.len_eq]; omega), List.length_append])
      clear HW HB HS HBW HSW HE hbl
      go_wp2_with fail
      refine H1.out.mono ?_
      rintro e w1 ⟨r1, rfl, hw1, ho1, hn1⟩
      go_wp2_with fail
      go_end0
      exact ⟨r1, rfl, by rw [← HE2.out]; exact hw1, HO.out.next HN.out ho1, HN.out.trans hn1 HO.out.size⟩
end Go.Proofs.YtbjjkhlebdaoaaaGreatDoor.BlkC
end
