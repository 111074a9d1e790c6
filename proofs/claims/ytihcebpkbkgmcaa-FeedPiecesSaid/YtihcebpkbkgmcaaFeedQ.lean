import Derived.Test.YtihcebpkbkgmcaaFeedT
import Derived.Deep.DeepCutAuto
import Derived.Deep.CutBlock
namespace Go.Proofs.Ytihcebpkbkgmcaa.FeedC
open Go.RowKit Go.My BitMath RefC

/-! ### no bytes at all, wherever they lie -/
theorem push_q0 (B q n : Nat) (ps : List Pc) (w : World) (h : QAt B w q ps n) (a : Option Addr) (cap : Nat) (hn : n ≤ 100000000000) :
    Calls Try.prog 20 #[.pointer (some ⟨q, 0, none⟩), .slice a 0 cap] w fun e w' => e = .returned (.tuple #[]) ∧ QAt B w' q ps n ∧ Only (fun k => k = q) w w' := by
  have hq2 := h.blk.cell 2
  have hf2 := h.blk.frozen 2
  simp only [List.getElem?_toArray, List.getElem?_cons_zero, List.getElem?_cons_succ] at hq2
  have hO : Only (fun k => k = q) w (w.setCell ⟨q, 2, none⟩ (.int .i64 (n : Int))) := (Only.refl (fun k => k = q) w).setCell (p := ⟨q, 2, none⟩) (fun _ => rfl) _
  have hQ : QAt B (w.setCell ⟨q, 2, none⟩ (.int .i64 (n : Int))) q ps n := ⟨h.blk.set_ 2 _, Chain.only hO h.chain (fun k hk e => h.far (e ▸ hk)), h.apart, h.full, h.base⟩
  have HO := Lib.hid hO
  have HQ := Lib.hid hQ
  clear h hO hQ
  go_enter Try.func20, Try.ntmps20
  go_wp2_with fail
  generalize w.setCell ⟨q, 2, none⟩ (.int .i64 (n : Int)) = w1 at *
  clear hq2 hf2
  go_loopw [1] (fun sb wr => sb = .slice a 0 cap ∧ w1 = wr) (fun _ _ => 0)
  case atStart => exact ⟨rfl, rfl⟩
  case round =>
    obtain ⟨rfl, rfl⟩ := hrel
    go_wp2_with fail
    go_end0
    exact ⟨rfl, HQ.out, HO.out⟩

set_option maxRecDepth 100000 in
set_option maxHeartbeats 2000000 in
theorem push_zero (B f pushed : Nat) (F : Nat → Prop) (bs : List Bool) (w : World) (h : Fed B w f F bs pushed false) (a : Option Addr) (cap : Nat) (hl : bs.length ≤ 1000000000) (hp : pushed ≤ 1000000000) :
    Calls Try.prog 7 #[.pointer (some ⟨f, 0, none⟩), .slice a 0 cap] w fun e w' => e = .returned (.tuple #[]) ∧ Done B f F w bs pushed false w' := by
  obtain ⟨q, ps, word, count, h1, h2, h3, rfl⟩ := h
  have hc4 := h1.blk.cell 4
  have hc2 := h1.blk.cell 2
  have hc3 := h1.blk.cell 3
  have hf3 := h1.blk.frozen 3
  simp only [List.getElem?_toArray, List.getElem?_cons_zero, List.getElem?_cons_succ] at hc2 hc3 hc4
  have hO : Only (fun k => k = f) w (w.setCell ⟨f, 3, none⟩ (.int .i64 (pushed : Int))) := (Only.refl (fun k => k = f) w).setCell (p := ⟨f, 3, none⟩) (fun _ => rfl) _
  have hA : FAt B (w.setCell ⟨f, 3, none⟩ (.int .i64 (pushed : Int))) f q ps word count pushed false :=
    ⟨h1.blk.set_ 3 _, h1.que.only hO (fun e => h1.far (Or.inl e.symm)) (fun k hk e => h1.far (Or.inr (e ▸ hk))), h1.base, h1.small, h1.most⟩
  have hbl : bs.length = count + 8 * (cat ps).length := by rw [h3, bits_len]
  have HPU := Lib.hid (push_q0 B q (cat ps).length ps _ hA.que a cap (by omega))
  have HA := Lib.hid hA
  have HO : Hid (Only (FFoot f q ps) w (w.setCell ⟨f, 3, none⟩ (.int .i64 (pushed : Int)))) := Lib.hid (hO.mono (fun k _ e => .inl e))
  have H3 := Lib.hid h3
  clear h1 h2 h3 hO hA
  go_enter Try.func7, Try.ntmps7
  go_wp2_with fail
  refine HPU.out.mono ?_
  rintro e w2 ⟨rfl, hq2, ho2⟩
  have hA2 : FAt B w2 f q ps word count pushed false := ⟨ho2.blk HA.out.blk (fun e => HA.out.far (Or.inl e)), hq2, HA.out.base, HA.out.small, HA.out.most⟩
  have HA2 := Lib.hid hA2
  have HO2 := Lib.hid ho2
  clear hA2 ho2 hq2 HPU
  go_wp2_with fail
  refine (fill_any B f q ps word count pushed false w2 HA2.out (by omega)).mono ?_
  rintro e w3 ⟨rfl, ps3, word3, count3, hF, h32⟩
  have HF := Lib.hid hF
  have H32 := Lib.hid h32
  clear hF h32
  go_wp2_with fail
  go_end0
  have hO2 : Only (FFoot f q ps) w w2 := HO.out.trans HO2.out (fun i _ e => .inr (.inl e))
  refine ⟨rfl, FFoot f q ps3, ⟨q, ps3, word3, count3, HF.out.at_, H32.out, by rw [HF.out.eq, H3.out], rfl⟩, hO2.trans HF.out.only (fun i hi e => e), fun k hk => ?_⟩
  rcases hk with e | e
  · exact .inl (.inl e)
  · exact .inl (.inr (HF.out.sub k e))

theorem push_in (B f pushed : Nat) (F : Nat → Prop) (bs : List Bool) (w0 w : World) (h : Fed B w f F bs pushed false) (hB : w0.heap.size ≤ B) (hb0 : Below w0.heap.size w0 w) (a : Option Addr) (len cap : Nat) (l : List UInt8) (hb : Bytes w0 a len cap l)
    (hl : bs.length ≤ 1000000000) (hp : pushed ≤ 1000000000) (hlen : len ≤ 1000000000) :
    Calls Try.prog 7 #[.pointer (some ⟨f, 0, none⟩), .slice a len cap] w fun e w' => e = .returned (.tuple #[]) ∧ Done B f F w (bs ++ bitsOf l) (pushed + len) false w' := by
  rcases hb.at_ with h0 | ⟨b, off, ha, hs, hc⟩
  · subst h0
    have : l = [] := List.length_eq_zero_iff.1 hb.len_eq
    subst this
    rw [bitsOf_nil, List.append_nil]
    exact push_zero B f pushed F bs w h a cap hl hp
  · exact push_open B f pushed F bs w h a len cap l (hb.below (Nat.le_refl _) hb0) (fun b' off' e hF => by
      rw [ha] at e; cases e
      have := (h.lt b hF).1; omega) hl hp hlen

/-! ### two Feeds -/
structure Two (w wr : World) (B2 f2 : Nat) (F1 F2 : Nat → Prop) (b1 : List Bool) (p1 : Nat) (b2 : List Bool) (p2 : Nat) : Prop where
  one : Fed w.heap.size wr (w.heap.size + 1) F1 b1 p1 false
  many : Fed B2 wr f2 F2 b2 p2 false
  apart : ∀ k, F1 k → ¬ F2 k
  below : Below w.heap.size w wr
  base : w.heap.size ≤ B2

section
variable {w wr w2 : World} {B2 f2 : Nat} {F1 F2 : Nat → Prop} {b1 b2 c1 : List Bool} {p1 p2 q1 : Nat}
theorem Two.later (h : Two w wr B2 f2 F1 F2 b1 p1 b2 p2) (hb : Below wr.heap.size wr w2) : Two w w2 B2 f2 F1 F2 b1 p1 b2 p2 :=
  ⟨h.one.below hb, h.many.below hb, h.apart, h.below.trans (hb.mono h.below.size), h.base⟩
theorem Two.drewN (h : Two w wr B2 f2 F1 F2 b1 p1 b2 p2) (n : Nat) : Two w (wr.drewN n) B2 f2 F1 F2 b1 p1 b2 p2 := h.later ⟨rfl, rfl, rfl, Nat.le_refl _, fun _ _ => rfl⟩
theorem Two.one_done (h : Two w wr B2 f2 F1 F2 b1 p1 b2 p2) (hd : Done w.heap.size (w.heap.size + 1) F1 wr c1 q1 false w2) : ∃ G, Two w w2 B2 f2 G F2 c1 q1 b2 p2 := by
  obtain ⟨G, h1, h2, h3⟩ := hd
  refine ⟨G, h1, h.many.only h2 (fun k hk hF => h.apart k hF hk), fun k hG hF => ?_, h.below.trans (h2.below h.below.size (fun k hk => (h.one.lt k hk).1)), h.base⟩
  rcases h3 k hG with e | e
  · exact h.apart k e hF
  · have := (h.many.lt k hF).2; omega
theorem Two.many_done (h : Two w wr B2 f2 F1 F2 b1 p1 b2 p2) (hd : Done B2 f2 F2 wr c1 q1 false w2) : ∃ G, Two w w2 B2 f2 F1 G b1 p1 c1 q1 := by
  obtain ⟨G, h1, h2, h3⟩ := hd
  refine ⟨G, h.one.only h2 (fun k hk hF => h.apart k hk hF), h1, fun k hF hG => ?_, h.below.trans (h2.below h.below.size (fun k hk => by have := (h.many.lt k hk).1; have := h.base; omega)), h.base⟩
  rcases h3 k hG with e | e
  · exact h.apart k hF e
  · have := (h.one.lt k hF).2; omega
end
end Go.Proofs.Ytihcebpkbkgmcaa.FeedC
