import Derived.Test.YtbjjkhlebdaoaaaGreatDoorMgBw
import Derived.Test.YtbjjkhlebdaoaaaGreatDoorMgMb
import Derived.Test.YtbjjkhlebdaoaaaGreatDoorMgDa

section
/-
  deflate.write: bytes as one piece.
-/
namespace Go.Proofs.YtbjjkhlebdaoaaaGreatDoor.DfC
open Go.RowKit Go.My BitMath BitC BlkC MatMath
open LzMath (Tok tot ex)
open LzC (TokIn EndsT)
open InfMath (Rd gap)

theorem tok_new {p : Pl} {s : List UInt8} {w w' : World} {e : Ending} (hl : s.length ≤ 900000) (h : MatC.TokRet p s w e w') :
    ∃ a c K, e = .returned (.slice a K c) ∧ TokIn w' a K c (tk p s) ∧ Many p s K ∧ Below w.heap.size w w' ∧ ∀ b off, a = some ⟨b, off, none⟩ → w.heap.size ≤ b := by
  obtain ⟨v, K, rfl, ho, hm, hb⟩ := h
  obtain ⟨a, c, rfl, ht⟩ := ho.toks (fun i _ => tk_wf (by omega) i)
  exact ⟨a, c, K, rfl, ht, hm, hb, fun b off e => by subst e; exact (World.ownsRow.lt ho b rfl).1⟩
/-- What write leaves. -/
def WrtRet (B g : Nat) (r : Option Nat) (bs : List Bool) (p : Pl) (s : List UInt8) (w : World) (e : Ending) (w' : World) : Prop :=
  e = .returned (.tuple #[]) ∧ ∃ X r' K, Wr B w' g r' (bs ++ X) ∧ Only (Fp g r) w w' ∧ Nxt r w.heap.size r' ∧ Many p s K ∧ Rd p.wide bs.length X s true ∧ X.length ≤ rfx p.wide (tk p s) K ∧ X.length ≤ 3 + gap bs.length + 8 * (sto s.length - 1) ∧ Bits p.wide bs.length (tk p s) K true X
set_option maxRecDepth 100000 in
set_option maxHeartbeats 4000000 in
theorem write_piece (B g : Nat) (r : Option Nat) (bs : List Bool) (p : Pl) (a : Option Addr) (c : Nat) (s : List UInt8) (w : World) (hb : Bytes w a s.length c s) (hl : s.length ≤ 100000) (hch : (Lit.int .i64 p.chain).wf = true) (hw : Wr B w g r bs) (hbl : bs.length ≤ 100000000) (hT : Tbls B w) :
    Calls Tryz.prog 14 #[.pointer (some ⟨g, 0, none⟩), .slice a s.length c, MatC.pv p.store p.chain p.lazy p.good, .bool p.wide] w (WrtRet B g r bs p s w) := by
  obtain ⟨W, hW⟩ : ∃ W, W = w.alloc (.cells #[.bool p.store, .int .i64 p.chain, .bool p.lazy, .int .i64 p.good] 35) := ⟨_, rfl⟩
  have hwb : Below w.heap.size w W := by rw [hW]; exact (Below.refl _ w).alloc (Nat.le_refl _) _
  have HPB : Hid (Blk W w.heap.size 35 #[.bool p.store, .int .i64 p.chain, .bool p.lazy, .int .i64 p.good]) := Lib.hid (by rw [hW]; exact Blk.new w _ _)
  have HWB := Lib.hid hwb
  have HTK := Lib.hid (MatC.tokens_any p s W (hb.below (Nat.le_refl _) hwb) (by omega) hch)
  have HWR := Lib.hid (hw.below hwb)
  have HTB := Lib.hid (hT.below hwb (Nat.le_trans hw.base (Nat.le_of_lt hw.lt)))
  have hlc := hb.le_cap
  have hcm := hb.cap_le
  obtain ⟨len, hlen⟩ : ∃ len, len = s.length := ⟨_, rfl⟩
  rw [← hlen] at hl hlc HTK ⊢
  have HLE := Lib.hid hlen
  obtain ⟨q, hq, hq1⟩ : ∃ q, grp (len : Int) 262140 = q ∧ 0 ≤ q ∧ q ≤ 1 := ⟨_, rfl, by unfold grp; split <;> omega⟩
  have HST := Lib.hid (started_any (len : Int) 262140 W (by omega) (by omega) (by omega) (by omega))
  rw [hq] at HST
  have hm1 : (if (1 : Int) < q then q else 1) = 1 := by rw [if_neg (by omega)]
  have hm2 : max (1 : Int) q = 1 := by omega
  have hm3 : (if (262140 : Int) < (len : Int) then (262140 : Int) else (len : Int)) = (len : Int) := by rw [if_neg (by omega)]
  have hm4 : min (len : Int) 262140 = (len : Int) := by omega
  unfold MatC.pv at HTK ⊢
  clear hb hw hT hwb hch hq hlen
  go_enter Tryz.func14, Tryz.ntmps14
  go_wp2_with fail
  rw [← hW]
  clear hW
  refine HST.out.mono ?_
  rintro e w1 ⟨rfl, rfl⟩
  go_wp2_with fail
  obtain ⟨pb, hpb⟩ : ∃ pb, pb = w.heap.size := ⟨_, rfl⟩
  have HPBE : Hid (w.heap.size = pb) := Lib.hid hpb.symm
  rw [← hpb] at HPB HWB ⊢
  clear hpb
  go_loopw [16, 9, 10] (fun iv _ _ wr => (iv = .int .i64 0 ∧ wr = W) ∨ (iv = .int .i64 1 ∧ Hid (WrtRet B g r bs p s w (.returned (.tuple #[])) wr))) (fun iv _ _ _ => 1 - (intOf iv).toNat)
  case atStart => exact .inl ⟨rfl, rfl⟩
  case round =>
    rcases hrel with ⟨rfl, rfl⟩ | ⟨rfl, HG⟩
    · have c0 : wr.cell? ⟨pb, 0, none⟩ = some (.bool p.store) := HPB.out.cell 0
      have c1 : wr.cell? ⟨pb, 1, none⟩ = some (.int .i64 p.chain) := HPB.out.cell 1
      have c2 : wr.cell? ⟨pb, 2, none⟩ = some (.bool p.lazy) := HPB.out.cell 2
      have c3 : wr.cell? ⟨pb, 3, none⟩ = some (.int .i64 p.good) := HPB.out.cell 3
      go_upto_region 6 with (fail)
      go_wp2_with fail
      refine HTK.out.mono ?_
      intro e w1 h1
      obtain ⟨a1, c1', K, rfl, ht, hm, hb1, hnew⟩ := tok_new (by have := HLE.out; omega) h1
      have hW1 : Below pb w w1 := HWB.out.trans (hb1.mono (by rw [← HPBE.out]; exact HWB.out.size))
      have hal := tk_all hm
      have hgd := tk_good hm
      have HR := Lib.hid (write_any B g r bs p.wide true a1 K c1' (tk p s) K w1 ht (fun _ b off e => by
          have h2 := hnew b off e
          have h3 := HWR.out.lt
          rintro (h4 | h4)
          · omega
          · have := (HWR.out.rlt b h4).2; omega)
        ⟨Nat.le_refl _, hgd, fun h => by omega⟩ (by rw [hal.1]; have := HLE.out; omega) (by have := many_le hm; have := HLE.out; omega) (HWR.out.below hb1) hbl (HTB.out.below hb1 (by have := HWR.out.base; have := HWR.out.lt; omega)))
      have HM := Lib.hid (And.intro hm (And.intro hal hW1))
      clear h1 ht hm hb1 hnew hW1 hal hgd c0 c1 c2 c3
      go_wp2_with fail
      refine HR.out.mono ?_
      rintro e w2 (⟨hlt, -⟩ | ⟨-, rfl, X, r', hw2, ho2, hn2, hrd, hx1, hx2, hbi⟩)
      · omega
      · rw [HM.out.2.1.2] at hrd
        rw [HM.out.2.1.1] at hx2
        have HE : Hid (WrtRet B g r bs p s w (.returned (.tuple #[])) w2) := Lib.hid ⟨rfl, X, r', K, hw2, (Only.of_below (by rw [HPBE.out]; exact HM.out.2.2) _).next (Nxt.refl _ _) ho2, (Nxt.refl r w.heap.size).trans hn2 (by have := HM.out.2.2.size; have := HPBE.out; omega), HM.out.1, hrd, hx1, hx2, hbi⟩
        clear hw2 ho2 hn2 hrd hx1 hx2 hbi HR
        go_wp2_with fail
        go_roundw
        case rel => exact .inr ⟨rfl, HE⟩
        case measure => simp [intOf]
    · go_wp2_with fail
      go_end0
      exact HG.out
end Go.Proofs.YtbjjkhlebdaoaaaGreatDoor.DfC
end
