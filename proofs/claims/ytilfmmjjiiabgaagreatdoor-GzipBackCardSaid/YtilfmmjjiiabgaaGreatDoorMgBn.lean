import Derived.Test.YtilfmmjjiiabgaaGreatDoorMgBl
import Derived.Test.YtilfmmjjiiabgaaGreatDoorMgAs
import Derived.Deep.DeepCutAuto
import Derived.Deep.CutBlock
import Derived.Test.YtilfmmjjiiabgaaGreatDoorMgBm
import Derived.Test.YtilfmmjjiiabgaaGreatDoorMgAo
import Derived.Laws.AppendOwn

section
/-
  What was put out already does not matter.
-/
namespace InfMath
open BitMath CanMath TabMath WinMath

section
variable (p : List UInt8) (s : M)
/-- Without what was put out. -/
abbrev bare (s : M) : M := { s with out := [] }
end
end InfMath
end

section
namespace Go.Proofs.YtilfmmjjiiabgaaGreatDoor.FeedC
open Go.RowKit Go.My BitMath RefC

/-! ### no bytes at all, wherever they lie -/
theorem push_q0 (B q n : Nat) (ps : List Pc) (w : World) (h : QAt B w q ps n) (a : Option Addr) (cap : Nat) (hn : n ≤ 100000000000) :
    Calls Tryz.prog 73 #[.pointer (some ⟨q, 0, none⟩), .slice a 0 cap] w fun e w' => e = .returned (.tuple #[]) ∧ QAt B w' q ps n ∧ Only (fun k => k = q) w w' := by
  have hq2 := h.blk.cell 2
  have hf2 := h.blk.frozen 2
  simp only [List.getElem?_toArray, List.getElem?_cons_zero, List.getElem?_cons_succ] at hq2
  have hO : Only (fun k => k = q) w (w.setCell ⟨q, 2, none⟩ (.int .i64 (n : Int))) := (Only.refl (fun k => k = q) w).setCell (p := ⟨q, 2, none⟩) (fun _ => rfl) _
  have hQ : QAt B (w.setCell ⟨q, 2, none⟩ (.int .i64 (n : Int))) q ps n := ⟨h.blk.set_ 2 _, Chain.only hO h.chain (fun k hk e => h.far (e ▸ hk)), h.apart, h.full, h.base⟩
  have HO := Lib.hid hO
  have HQ := Lib.hid hQ
  clear h hO hQ
  go_enter Tryz.func73, Tryz.ntmps73
  go_wp2_with fail
  generalize w.setCell ⟨q, 2, none⟩ (.int .i64 (n : Int)) = w1 at *
  clear hq2 hf2
  go_loopw [1] (fun sb wr => sb = .slice a 0 cap ∧ w1 = wr) (fun _ _ => 0)
  case atStart => exact ⟨rfl, rfl⟩
  case round =>
    obtain ⟨rfl, rfl⟩ := hrel
    go_wp2_with fail
    go_end0
    exact ⟨rfl, HQ.out, HO.out⟩

set_option maxRecDepth 100000 in
set_option maxHeartbeats 2000000 in
theorem push_zero (B f pushed : Nat) (F : Nat → Prop) (bs : List Bool) (w : World) (h : Fed B w f F bs pushed false) (a : Option Addr) (cap : Nat) (hl : bs.length ≤ 1000000000) (hp : pushed ≤ 1000000000) :
    Calls Tryz.prog 59 #[.pointer (some ⟨f, 0, none⟩), .slice a 0 cap] w fun e w' => e = .returned (.tuple #[]) ∧ Done B f F w bs pushed false w' := by
  obtain ⟨q, ps, word, count, h1, h2, h3, rfl⟩ := h
  have hc4 := h1.blk.cell 4
  have hc2 := h1.blk.cell 2
  have hc3 := h1.blk.cell 3
  have hf3 := h1.blk.frozen 3
  simp only [List.getElem?_toArray, List.getElem?_cons_zero, List.getElem?_cons_succ] at hc2 hc3 hc4
  have hO : Only (fun k => k = f) w (w.setCell ⟨f, 3, none⟩ (.int .i64 (pushed : Int))) := (Only.refl (fun k => k = f) w).setCell (p := ⟨f, 3, none⟩) (fun _ => rfl) _
  have hA : FAt B (w.setCell ⟨f, 3, none⟩ (.int .i64 (pushed : Int))) f q ps word count pushed false :=
    ⟨h1.blk.set_ 3 _, h1.que.only hO (fun e => h1.far (Or.inl e.symm)) (fun k hk e => h1.far (Or.inr (e ▸ hk))), h1.base, h1.small, h1.most⟩
  have hbl : bs.length = count + 8 * (cat ps).length := by rw [h3, bits_len]
  have HPU := Lib.hid (push_q0 B q (cat ps).length ps _ hA.que a cap (by omega))
  have HA := Lib.hid hA
  have HO : Hid (Only (FFoot f q ps) w (w.setCell ⟨f, 3, none⟩ (.int .i64 (pushed : Int)))) := Lib.hid (hO.mono (fun k _ e => .inl e))
  have H3 := Lib.hid h3
  clear h1 h2 h3 hO hA
  go_enter Tryz.func59, Tryz.ntmps59
  go_wp2_with fail
  refine HPU.out.mono ?_
  rintro e w2 ⟨rfl, hq2, ho2⟩
  have hA2 : FAt B w2 f q ps word count pushed false := ⟨ho2.blk HA.out.blk (fun e => HA.out.far (Or.inl e)), hq2, HA.out.base, HA.out.small, HA.out.most⟩
  have HA2 := Lib.hid hA2
  have HO2 := Lib.hid ho2
  clear hA2 ho2 hq2 HPU
  go_wp2_with fail
  refine (fill_any B f q ps word count pushed false w2 HA2.out (by omega)).mono ?_
  rintro e w3 ⟨rfl, ps3, word3, count3, hF, h32⟩
  have HF := Lib.hid hF
  have H32 := Lib.hid h32
  clear hF h32
  go_wp2_with fail
  go_end0
  have hO2 : Only (FFoot f q ps) w w2 := HO.out.trans HO2.out (fun i _ e => .inr (.inl e))
  refine ⟨rfl, FFoot f q ps3, ⟨q, ps3, word3, count3, HF.out.at_, H32.out, by rw [HF.out.eq, H3.out], rfl⟩, hO2.trans HF.out.only (fun i hi e => e), fun k hk => ?_⟩
  rcases hk with e | e
  · exact .inl (.inl e)
  · exact .inl (.inr (HF.out.sub k e))

theorem push_in (B f pushed : Nat) (F : Nat → Prop) (bs : List Bool) (w0 w : World) (h : Fed B w f F bs pushed false) (hB : w0.heap.size ≤ B) (hb0 : Below w0.heap.size w0 w) (a : Option Addr) (len cap : Nat) (l : List UInt8) (hb : Bytes w0 a len cap l)
    (hl : bs.length ≤ 1000000000) (hp : pushed ≤ 1000000000) (hlen : len ≤ 1000000000) :
    Calls Tryz.prog 59 #[.pointer (some ⟨f, 0, none⟩), .slice a len cap] w fun e w' => e = .returned (.tuple #[]) ∧ Done B f F w (bs ++ bitsOf l) (pushed + len) false w' := by
  rcases hb.at_ with h0 | ⟨b, off, ha, hs, hc⟩
  · subst h0
    have : l = [] := List.length_eq_zero_iff.1 hb.len_eq
    subst this
    rw [bitsOf_nil, List.append_nil]
    exact push_zero B f pushed F bs w h a cap hl hp
  · exact push_open B f pushed F bs w h a len cap l (hb.below (Nat.le_refl _) hb0) (fun b' off' e hF => by
      rw [ha] at e; cases e
      have := (h.lt b hF).1; omega) hl hp hlen

end Go.Proofs.YtilfmmjjiiabgaaGreatDoor.FeedC
end

section
/-
  New that fails; All.
-/
namespace Go.Proofs.YtilfmmjjiiabgaaGreatDoor.InfC
open Go.RowKit Go.My BitMath CanMath TabMath WinMath FeedC TabC CanC
open WinC (Wn)
open InfMath (M Ok CodeOk mu lack fixL fixD bare shut)

theorem ok_open {wide : Bool} {S most p : Nat} {bs : List Bool} (h1 : 0 < S) (h2 : S ≤ 65536) (h3 : most ≤ 1073741824) (h4 : p ≤ 100000000) (h5 : bs.length ≤ 8 * p) :
    Ok { InfMath.start wide S most with bits := bs, pushed := p } := by
  unfold InfMath.start
  refine ⟨rfl, h1, h2, h3, Nat.zero_le _, Nat.le_refl _, h4, h5, ?_, ?_, ?_, ?_, ?_, ?_, ?_, ?_, ?_, ?_, ?_, ?_⟩ <;> simp
theorem Ordr.below {B : Nat} {w w' : World} (h : Ordr B w) (hB : B ≤ w.heap.size) (hb : Below w.heap.size w w') : Ordr B w' := h.mv (c := fun _ => 0) (c' := fun _ => 0) (fun _ _ => rfl) hB (Mv.of_below hb _)

/-- The machine before a stream. -/
abbrev began (wide : Bool) (S most : Nat) (l : List UInt8) : M := { InfMath.start wide S most with bits := bitsOf l, pushed := l.length }
/-- The first piece of a new Inflate. -/
theorem first_push {B x : Nat} {w0 w : World} {d : Ad} {wide : Bool} {S most : Nat} (a : Option Addr) (len cap : Nat) (l : List UInt8) (hb : Bytes w0 a len cap l) (hl : len ≤ 100000000) (h1 : 0 < S) (h2 : S ≤ 65536) (h3 : most ≤ 1073741824)
    (hB : w0.heap.size ≤ B) (hw : Below w0.heap.size w0 w) (h : At B w x (InfMath.start wide S most) d) (hc4 : ∀ k, d.c k ≠ 4) (hO : Ordr B w) :
    Calls Tryz.prog 44 #[.pointer (some ⟨x, 0, none⟩), .slice a len cap] w fun e w' =>
      ∃ t c, InfMath.Ends (began wide S most l) t c ∧ Out B x w d.c t c e w' := by
  have hlen := hb.len_eq
  have e1 : { InfMath.start wide S most with bits := (InfMath.start wide S most).bits ++ bitsOf l, pushed := (InfMath.start wide S most).pushed + len, ended := false } = began wide S most l := by
    unfold began InfMath.start
    rw [hlen]
    simp
  have hk := ok_open (wide := wide) (S := S) (most := most) (p := l.length) (bs := bitsOf l) h1 h2 h3 (by omega) (by rw [bitsOf_len]; exact Nat.le_refl _)
  have h0 := ok_open (wide := wide) (S := S) (most := most) (p := 0) (bs := []) h1 h2 h3 (by omega) (by simp)
  have hs : w0.heap.size ≤ w.heap.size := hw.size
  have := push_any (Lib.hid h) (.slice a len cap) (bitsOf l) len h0 (by rw [e1]; exact hk) (fun e => by cases e) hO (fun e => by cases e) hc4 (fun W hW => push_in B d.f _ d.F _ w0 W (h.rs.feed.1.below hW) hB (hw.trans (hW.mono hs)) a len cap l hb (by simp [InfMath.start]) (by simp [InfMath.start]) (by omega))
  rw [e1] at this
  exact this
end Go.Proofs.YtilfmmjjiiabgaaGreatDoor.InfC
end

section
/-
  gzip's members, as plain lists: a member that is read, one that is not.
-/
namespace Go.Proofs.YtilfmmjjiiabgaaGreatDoor.GzC
open Go.RowKit Go.My GzMath CrcMath Flt BitMath InfC
open InfMath (M Ok)
open Go.My.NumMath (bytesOf)

/-- A member as it was read. -/
structure Mb where
  h : Hd
  from_ : Nat
  used : Nat
  data : List UInt8
noncomputable def Mb.v (p : Mb) : Value := .agg #[.bool p.h.named, .string ⟨p.h.name.toArray⟩, .float .f64 (ClkC.fromU (p.h.time : Int)), .int .i64 (p.from_ : Int), .int .i64 (p.used : Int), .int .u32 ((crc 0#32 p.data).toNat : Int), .int .i64 (p.data.length : Int)]
noncomputable def tailB (d : List UInt8) : List UInt8 := bytesOf false 4 (crc 0#32 d).toNat ++ bytesOf false 4 d.length
/-- The member of b at a place is p. -/
structure MemOk (b : List UInt8) (room ratio at_ : Nat) (p : Mb) : Prop where
  rd : rd (b.drop at_) = .ok p.h
  fr : p.from_ = at_ + p.h.n
  pos : p.from_ < b.length
  ends : ∃ t, InfMath.Ends (began false 32768 room ((b.drop p.from_).take (min 256 (b.length - p.from_)))) t 0 ∧ p.used = t.pushed - t.bits.length / 8 ∧ p.data = t.out
  over : ovr p.data.length p.used ratio = false
  tail : (b.drop (p.from_ + p.used)).take 8 = tailB p.data
/-- There is no member there: this error. -/
inductive MemBad (b : List UInt8) (room ratio at_ : Nat) : Nat → Prop
  | head (k : Nat) (h : rd (b.drop at_) = .bad k) (h0 : k ≠ 0) : MemBad b room ratio at_ (if k = 5 then 2 else k)
  | stream (h : Hd) (hr : rd (b.drop at_) = .ok h) (hp : at_ + h.n < b.length) (t : M) {c : Nat} (he : InfMath.Ends (began false 32768 room ((b.drop (at_ + h.n)).take (min 256 (b.length - (at_ + h.n))))) t c) (h0 : c ≠ 0) (h5 : c ≠ 5) : MemBad b room ratio at_ c
  | over (p : Mb) (rd : rd (b.drop at_) = .ok p.h) (fr : p.from_ = at_ + p.h.n) (pos : p.from_ < b.length)
      (ends : ∃ t, InfMath.Ends (began false 32768 room ((b.drop p.from_).take (min 256 (b.length - p.from_)))) t 0 ∧ p.used = t.pushed - t.bits.length / 8 ∧ p.data = t.out) (ov : ovr p.data.length p.used ratio = true) : MemBad b room ratio at_ 3
  | tail (p : Mb) (rd : rd (b.drop at_) = .ok p.h) (fr : p.from_ = at_ + p.h.n) (pos : p.from_ < b.length)
      (ends : ∃ t, InfMath.Ends (began false 32768 room ((b.drop p.from_).take (min 256 (b.length - p.from_)))) t 0 ∧ p.used = t.pushed - t.bits.length / 8 ∧ p.data = t.out) (ov : ovr p.data.length p.used ratio = false)
      (tl : (b.drop (p.from_ + p.used)).take 8 ≠ tailB p.data) : MemBad b room ratio at_ 2
end Go.Proofs.YtilfmmjjiiabgaaGreatDoor.GzC
end

section
/-
  gzip's members: rows of Parts.
-/
namespace Go.Proofs.YtilfmmjjiiabgaaGreatDoor.GzC
open Go.RowKit Go.My GzMath CrcMath

noncomputable def Mb.cs (p : Mb) : Array Value := #[.bool p.h.named, .string ⟨p.h.name.toArray⟩, .float .f64 (ClkC.fromU (p.h.time : Int)), .int .i64 (p.from_ : Int), .int .i64 (p.used : Int), .int .u32 ((crc 0#32 p.data).toNat : Int), .int .i64 (p.data.length : Int)]
/-- The cells of members. -/
noncomputable def mbl : List Mb → List Value
  | [] => []
  | p :: t => p.cs.toList ++ mbl t
theorem mbl_app : ∀ (P Q : List Mb), mbl (P ++ Q) = mbl P ++ mbl Q
  | [], Q => rfl
  | p :: P, Q => by
    show _ ++ mbl (P ++ Q) = (_ ++ mbl P) ++ mbl Q
    rw [mbl_app P Q, List.append_assoc]
theorem mbl_len : ∀ (P : List Mb), (mbl P).length = P.length * 7
  | [] => rfl
  | p :: P => by
    show (p.cs.toList ++ mbl P).length = _
    have e : p.cs.toList.length = 7 := rfl
    rw [List.length_append, mbl_len P, e, List.length_cons]; omega
theorem mbl_one : ∀ (P : List Mb), ∀ u ∈ mbl P, u.oneCell' = true
  | [], u, h => by cases h
  | p :: P, u, h => by
    rcases List.mem_append.1 h with h | h
    · simp only [Mb.cs, List.mem_cons, List.not_mem_nil, or_false] at h
      rcases h with rfl | rfl | rfl | rfl | rfl | rfl | rfl <;> rfl
    · exact mbl_one P u h
/-- A slice of members of the call's own. -/
def OwnM (base : Nat) (w : World) (v : Value) (P : List Mb) : Prop := w.ownsRow base 39 7 v P.length (mbl P)
theorem OwnM.nil (base : Nat) (w : World) : OwnM base w (.slice none 0 0) [] := World.ownsRow_nil _ _ _ _
theorem OwnM.get {base : Nat} {w : World} {v : Value} {P : List Mb} (h : OwnM base w v P) : ∃ a c, v = .slice a P.length c ∧ (P ≠ [] → ∃ g, a = some ⟨g, 0, none⟩ ∧ g < w.heap.size ∧ ∀ j, j < P.length * 7 → w.cell? ⟨g, j, none⟩ = (mbl P)[j]?) := by
  rcases h.2 with ⟨rfl, h0⟩ | ⟨g, cap, cur, rfl, hg, hh, hn, hm, hs, ht⟩
  · have hl : P = [] := by
      have := mbl_len P
      rw [h0] at this
      exact List.length_eq_zero_iff.1 (by simp at this; omega)
    subst hl
    exact ⟨none, 0, rfl, fun h => absurd rfl h⟩
  · have hlt2 : g < w.heap.size := by
      by_cases hlt : g < w.heap.size
      · exact hlt
      · rw [Array.getElem?_eq_none (by omega)] at hh; cases hh
    have hc : ∀ j, j < P.length * 7 → w.cell? ⟨g, j, none⟩ = (mbl P)[j]? := fun j hj => by
      rw [cell_of_row _ _ _ _ _ _ hh, ← ht, List.getElem?_take, if_pos hj, Array.getElem?_toList]
    exact ⟨_, cap, rfl, fun _ => ⟨g, rfl, hlt2, hc⟩⟩
theorem OwnM.grown {base : Nat} {w0 w w' : World} {v : Value} {P : List Mb} (hown : OwnM base w v P) (h : Below base w0 w) (hg : w.grownBy w' v.ownBlock) (hb : base ≤ w.heap.size) : Below base w0 w' :=
  h.grown hg hb fun k hk => (World.ownsRow.lt hown k hk).1
theorem OwnM.alloc {base : Nat} {w : World} {v : Value} {P : List Mb} (h : OwnM base w v P) (o : Obj) : OwnM base (w.alloc o) v P := World.ownsRow.alloc h o
theorem OwnM.drew {base : Nat} {w : World} {v : Value} {P : List Mb} (h : OwnM base w v P) : OwnM base w.drew v P := World.ownsRow.drew h
theorem OwnM.ne {base : Nat} {w : World} {v : Value} {P : List Mb} {g : Nat} {t : TypeId} {cs : Array Value} (ho : OwnM base w v P) (hb : Blk w g t cs) (ht : t ≠ 39) : v.ownBlock ≠ some g := by
  rcases ho.2 with ⟨rfl, _⟩ | ⟨g', cap, cur, rfl, _, hgg, _⟩
  · simp [Value.ownBlock]
  · intro h
    simp only [Value.ownBlock, Option.some.injEq] at h
    subst h
    unfold Blk at hb
    rw [hgg] at hb
    injection hb with hb
    injection hb with h1 h2 h3
    exact ht h2.symm
/-- What touches but another row's block leaves it as it is. -/
theorem OwnM.only {base B : Nat} {w w' : World} {v u : Value} {P : List Mb} {l : List UInt8} (ho : OwnM base w v P) (hu : Own 5 B w u l) (h : Only (fun k => u.ownBlock = some k) w w') : OwnM base w' v P := by
  refine ⟨ho.1, ?_⟩
  rcases ho.2 with hn | ⟨g, cap, cur, h1, hg, hh, hn, hm, hs, ht⟩
  · exact .inl hn
  · have hlt : g < w.heap.size := by
      by_cases hlt : g < w.heap.size
      · exact hlt
      · rw [Array.getElem?_eq_none (by omega)] at hh; cases hh
    refine .inr ⟨g, cap, cur, h1, hg, ?_, hn, hm, hs, ht⟩
    rw [h.block g hlt fun e => ?_]
    · exact hh
    · rcases hu.2 with ⟨rfl, _⟩ | ⟨g', cap', cur', rfl, _, hgg, _⟩
      · simp [Value.ownBlock] at e
      · simp only [Value.ownBlock, Option.some.injEq] at e
        subst e
        rw [hgg] at hh
        injection hh with hh
        injection hh with h1 h2 h3
        exact absurd h2 (by decide)
theorem infoM : (Tryz.prog.info? 39).map (fun i => (i.zero, i.size, i.bytes)) = some (some (.agg #[.bool false, .string ⟨#[]⟩, .float .f64 0, .int .i64 0, .int .i64 0, .int .u32 0, .int .i64 0]), 7, 64) := by kernel_rfl
theorem wp_append_mb {w : World} {o : Oper} {a : Act} {K : Act → World → Prop} {Q : Exit → Act → World → Prop} (s x : Operand)
    (ho : o.op = .call { callee := .builtin .append, args := #[s, x], argTypes := #[34, 34] }) (base : Nat)
    (v : Value) (P : List Mb) (hs : a.eval s = v) (hown : OwnM base w v P) (g : Nat) (p : Mb) (hx : a.eval x = .slice (some ⟨g, 0, none⟩) 1 1) (hb : Blk w g 39 p.cs)
    (hlen : P.length ≤ 1000000) (hbase : base ≤ w.heap.size)
    (h : ∀ v' w', OwnM base w' v' (P ++ [p]) → w.grownBy w' v.ownBlock → K (a.put o.dst v') w') : o.wp Tryz.prog a w K Q := by
  obtain ⟨i, hi, hz0, hz1, hz2⟩ := info_parts infoM
  refine wp_append_own w s x 34 ho base 39 i _ 7 64 Tryz.underlying34 hi hz0 hz1 hz2 rfl (by decide) v P.length (mbl P) hs hown ⟨g, 0, none⟩ 1 1 (mbl [p]) hx (mbl_len [p]) ?_ (mbl_one [p]) (by unfold maxLen; omega) (by omega) hbase ?_
  · intro j u hu
    have hj : j < 7 := by have := (List.getElem?_eq_some_iff.1 hu).1; rw [mbl_len] at this; exact this
    have e : (⟨g, 0, none⟩ : Addr).add j = ⟨g, j, none⟩ := by rw [addr_add, Nat.zero_add]
    rw [e, hb.cell]
    rw [← hu]
    rcases (by omega : j = 0 ∨ j = 1 ∨ j = 2 ∨ j = 3 ∨ j = 4 ∨ j = 5 ∨ j = 6) with rfl | rfl | rfl | rfl | rfl | rfl | rfl <;> rfl
  · intro v' w' h1 h2 _
    refine h v' w' ?_ h2
    unfold OwnM
    rw [mbl_app, List.length_append]
    exact h1
theorem wpList_append_mb {w : World} {ops : Array Oper} {rest : List Oper} {o : Oper} {a : Act} {Q : Exit → Act → World → Prop} (hw : Region.wanted o (yielded ops a.tmps) = true) (s x : Operand)
    (ho : o.op = .call { callee := .builtin .append, args := #[s, x], argTypes := #[34, 34] }) (base : Nat)
    (v : Value) (P : List Mb) (hs : a.eval s = v) (hown : OwnM base w v P) (g : Nat) (p : Mb) (hx : a.eval x = .slice (some ⟨g, 0, none⟩) 1 1) (hb : Blk w g 39 p.cs)
    (hlen : P.length ≤ 1000000) (hbase : base ≤ w.heap.size)
    (h : ∀ v' w', OwnM base w' v' (P ++ [p]) → w.grownBy w' v.ownBlock → wpList Tryz.prog ops Q rest (a.put o.dst v') w') : wpList Tryz.prog ops Q (o :: rest) a w :=
  wpList_of_wp hw fun _ hK => wp_append_mb s x ho base v P hs hown g p hx hb hlen hbase fun v' w' h1 h2 => hK _ _ (h v' w' h1 h2)
end Go.Proofs.YtilfmmjjiiabgaaGreatDoor.GzC
end

section
/-
  gzip's members: unpack, where the first piece ends it.
-/
namespace Go.Proofs.YtilfmmjjiiabgaaGreatDoor.GzC
open Go.RowKit Go.My GzMath Flt BitMath InfC
open InfMath (M Ok)

theorem own_ne {B : Nat} {w : World} {v : Value} {l : List UInt8} {g : Nat} {t : TypeId} {cs : Array Value} (ho : Own 5 B w v l) (hb : Blk w g t cs) (ht : t ≠ 5) : some g ≠ v.ownBlock := by
  rcases ho.2 with ⟨rfl, _⟩ | ⟨g', cap, cur, rfl, _, hgg, _⟩
  · simp [Value.ownBlock]
  · intro h
    simp only [Value.ownBlock, Option.some.injEq] at h
    subst h
    unfold Blk at hb
    rw [hgg] at hb
    injection hb with hb
    injection hb with h1 h2 h3
    exact ht h2.symm

set_option maxRecDepth 100000 in
set_option maxHeartbeats 8000000 in
theorem unpack_any (B : Nat) (ov : Option Addr) (oc : Nat) (OL : List UInt8) (a : Option Addr) (len cap : Nat) (l : List UInt8) (most : Nat) (w : World)
    (hown : Own 5 B w (.slice ov OL.length oc) OL) (hB : B ≤ w.heap.size) (hb : Bytes w a len cap l) (h0 : 0 < len) (hl : len ≤ 100000) (hm : OL.length ≤ most) (hm2 : most ≤ 1073741824) (hO : Ordr w.heap.size w)
    (t : M) (c : Nat) (he : InfMath.Ends (began false 32768 (most - OL.length) (l.take (min 256 len))) t c) (hc : c ≠ 5) :
    Calls Tryz.prog 31 #[.slice ov OL.length oc, .slice a len cap, .int .i64 (most : Int)] w fun e w' =>
      ((c = 0 ∧ ∃ ov' oc', e = .returned (.tuple #[.slice ov' (OL ++ t.out).length oc', .int .i64 ((t.pushed - t.bits.length / 8 : Nat) : Int), .int .i64 0]) ∧ Own 5 B w' (.slice ov' (OL ++ t.out).length oc') (OL ++ t.out)) ∨
       (c ≠ 0 ∧ e = .returned (.tuple #[.slice none 0 0, .int .i64 0, .int .i64 (c : Int)]))) ∧ Only (fun k => (Value.slice ov OL.length oc).ownBlock = some k) w w' := by
  have HQ := Lib.hid (inf_new_ok false 32768 (most - OL.length) w (by omega) (by omega) (by omega))
  have HI := Lib.hid (And.intro hown (And.intro hB (And.intro hb (And.intro hO (And.intro he hc)))))
  have e1 : IntKind.i64.wrap ((most : Int) - (OL.length : Int)) = ((most - OL.length : Nat) : Int) := by rw [IntWalk.i64_in _ (by omega)]; omega
  have e2 : (most : Int) - (OL.length : Int) = ((most - OL.length : Nat) : Int) := by omega
  clear hown hB hb hO he hc
  go_enter Tryz.func31, Tryz.ntmps31
  go_wp2_with fail
  refine HQ.out.mono ?_
  rintro e w1 ⟨x, d, rfl, hA, hbl, hc4⟩
  have HA := Lib.hid (And.intro hA (And.intro hbl hc4))
  clear hA hbl hc4 HQ
  go_wp2_with fail
  go_loopw [0, 1, 10, 11] (fun uv bv cv nv wr => (uv = .slice ov OL.length oc ∧ bv = .slice a len cap ∧ cv = .int .i64 5 ∧ nv = .int .i64 256 ∧ wr = w1) ∨
      (∃ ov' oc' a' n' c' z, uv = .slice ov' (OL ++ t.out).length oc' ∧ bv = .slice a' n' c' ∧ cv = .int .i64 (c : Int) ∧ nv = .int .i64 z ∧ Hid (Own 5 B wr (.slice ov' (OL ++ t.out).length oc') (OL ++ t.out)) ∧ Hid (Blk wr x 100 (overCells t.total c (if c = 0 then t.pushed - t.bits.length / 8 else 0))) ∧ Hid (Only (fun k => (Value.slice ov OL.length oc).ownBlock = some k) w wr))) (fun _ _ cv _ _ => if intOf cv = 5 then 1 else 0)
  case atStart => exact .inl ⟨rfl, rfl, rfl, rfl, rfl⟩
  case round =>
    rcases hrel with ⟨rfl, rfl, rfl, rfl, rfl⟩ | ⟨ov', oc', a', n', c', z, rfl, rfl, rfl, rfl, HOw, HBk, HOn⟩
    · obtain ⟨M0, hM0⟩ : ∃ M0, M0 = min 256 len := ⟨_, rfl⟩
      have hd : decide ((len : Int) > 0) = true := by simp; omega
      have hmin : (if (len : Int) < 256 then (len : Int) else 256) = (M0 : Int) := by rw [hM0]; split <;> omega
      have hcap := HI.out.2.2.1.le_cap
      have hMc : (M0 : Int) ≤ (cap : Int) := by rw [hM0]; omega
      have hpush := first_push (w0 := w) a M0 cap (l.take M0) (HI.out.2.2.1.take M0 (by omega)) (by omega) (by omega) (by omega) (by omega) (Nat.le_refl _) HA.out.2.1 HA.out.1 HA.out.2.2 (HI.out.2.2.2.1.below (Nat.le_refl _) HA.out.2.1)
      rw [hM0] at hpush
      have HP := Lib.hid hpush
      clear hpush
      go_wp2_with fail
      refine HP.out.mono ?_
      rintro e w3 ⟨t', c', hends, oa, oc2, rfl, hown2, -, hn⟩
      obtain ⟨rfl, rfl⟩ := hends.det HI.out.2.2.2.2.1
      obtain ⟨hk3, ho3⟩ := hn HI.out.2.2.2.2.2
      have hlow : ∀ k, d.c k ≠ 0 → w.heap.size ≤ k := fun k hk => by
        by_cases hlt : k < w.heap.size
        · exact absurd (HA.out.1.rs.low k hlt) hk
        · omega
      have hB3 : Below w.heap.size w w3 := HA.out.2.1.trans (ho3.below HA.out.2.1.size hlow)
      have hO3 : Own 5 B w3 (.slice ov OL.length oc) OL := (Only.of_below hB3 (fun _ => False)).own HI.out.1 (fun _ _ h => h)
      obtain ⟨_, _, hev, hby3⟩ := hown2.bytes
      cases hev
      have HC3 := Lib.hid (And.intro hk3 (And.intro hB3 (And.intro hO3 hby3)))
      have hok := (ok_open (wide := false) (S := 32768) (most := most - OL.length) (p := (l.take (min 256 len)).length) (bs := bitsOf (l.take (min 256 len))) (by omega) (by omega) (by omega) (by simp; omega) (by rw [bitsOf_len]; omega)).steps HI.out.2.2.2.2.1.1
      have hol : t'.out.length ≤ 1073741824 := by have := hok.outl; have := hok.room; have := hok.most; omega
      have HOL := Lib.hid (And.intro hol hm)
      obtain ⟨a9, ha9, hsl, -, -⟩ := cut_from HI.out.2.2.1 (min 256 len) (by omega)
      have HOd : Hid (Own 5 B w3.drew (.slice ov OL.length oc) OL) := Lib.hid (World.ownsRow.drew HC3.out.2.2.1)
      have HBd := Lib.hid (HC3.out.2.2.2.below (Nat.le_refl _) ((Below.refl _ _).drew))
      have HSZ := Lib.hid (show B ≤ w3.drew.heap.size from Nat.le_trans HI.out.2.1 HC3.out.2.1.size)
      clear hends hn hk3 ho3 hlow hB3 hO3 hby3 hown2 HP HA hok hol
      go_upto_region 11 with (fail)
      go_region_law
        ((first
          | (refine step_append_lie (by rfl) (.tmp 46) (.tmp 47) 25 (by rfl) B 5 Tryz.underlying25 (by kernel_rfl) (.slice ov OL.length oc) OL (by rfl) HOd.out oa t'.out.length oc2 t'.out (by rfl) HBd.out (by have := HOL.out; omega) HSZ.out ?_; intro a7 c7 w7 hown hg _; have HOW7 := Lib.hid hown; have HG7 := Lib.hid hg; clear hown hg)
          | (fail)))
      all_goals
        have HB7 : Hid (Blk w7 x 100 (overCells t'.total c' (if c' = 0 then t'.pushed - t'.bits.length / 8 else 0))) := Lib.hid (by
          have hbd : Blk w3.drew x 100 (overCells t'.total c' (if c' = 0 then t'.pushed - t'.bits.length / 8 else 0)) := HC3.out.1.same ((Below.refl _ w3).drew.block x HC3.out.1.lt)
          exact hbd.grown HG7.out (own_ne HOd.out hbd (by decide)))
        have HO7 : Hid (Only (fun k => (Value.slice ov OL.length oc).ownBlock = some k) w w7) := Lib.hid ((Only.of_below (HC3.out.2.1.drew) (fun k => (Value.slice ov OL.length oc).ownBlock = some k)).grown HG7.out (fun k _ h => h))
        clear HOd HBd HSZ HG7 HC3 hsl ha9
        have hc5 := HI.out.2.2.2.2.2
        go_wp2_with fail
        go_roundw
        case rel => exact .inr ⟨a7, c7, a9, _, _, _, by rw [List.length_append], rfl, rfl, rfl, by rw [List.length_append]; exact HOW7, HB7, HO7⟩
        case measure =>
          have e5 : ¬ ((c' : Int) = 5) := by omega
          simp [intOf, e5]
    · have hc5 := HI.out.2.2.2.2.2
      by_cases h0 : c = 0
      · subst h0
        simp only [if_true] at HBk
        have HU := Lib.hid (inf_used HBk (t.pushed - t.bits.length / 8) rfl)
        go_wp2_with fail
        refine HU.out.mono ?_
        rintro e w8 ⟨rfl, rfl⟩
        go_wp2_with fail
        go_ret3
        exact ⟨⟨ov', oc', rfl, by have h := HOw.out; rw [List.length_append] at h; exact h⟩, HOn.out⟩
      · have HW := Lib.hid (fun w => whole_any c w)
        simp only [if_neg hc5] at HW
        go_wp2_with fail
        refine (HW.out _).mono ?_
        rintro e w8 ⟨rfl, rfl⟩
        go_wp2_with fail
        go_ret3
        exact ⟨.inr ⟨h0, rfl⟩, HOn.out⟩
end Go.Proofs.YtilfmmjjiiabgaaGreatDoor.GzC
end
