import Derived.Test.YtbjjkhlebdaoaaaDoorMgBo
import Derived.Test.YtbjjkhlebdaoaaaDoorMgY
import Derived.StillTailTactics

section
/-
  code.put: a piece in a code.
-/
namespace Go.Proofs.YtbjjkhlebdaoaaaDoor.BlkC
open Go.RowKit Go.My BitMath CanMath TabMath BitC
open CanC (iv allWords)
open PkC (lv)
open InfMath (Pc CodeOk pbits)

/-- A code that may be read beside a writer. -/
structure Cd (w : World) (g : Nat) (r : Option Nat) (a b : Option Addr) (n c1 c2 : Nat) (ls : List Nat) : Prop where
  lens : RowIn w a n c1 (lv ls)
  words : RowIn w b n c2 (allWords ls)
  pos : 1 ≤ n
  la : ∀ k off, a = some ⟨k, off, none⟩ → k < w.heap.size ∧ ¬ Fp g r k
  lb : ∀ k off, b = some ⟨k, off, none⟩ → k < w.heap.size ∧ ¬ Fp g r k
theorem fp_next {g k H : Nat} {r r' : Option Nat} (hk : k < H) (h : ¬ Fp g r k) (hn : Nxt r H r') : ¬ Fp g r' k := by
  rintro (rfl | hr)
  · exact h (.inl rfl)
  · rcases hn with rfl | ⟨j, rfl, hj⟩
    · exact h (.inr hr)
    · injection hr with hr; omega
theorem Cd.next {w w' : World} {g n c1 c2 : Nat} {r r' : Option Nat} {a b : Option Addr} {ls : List Nat} (h : Cd w g r a b n c1 c2 ls) (ho : Only (Fp g r) w w') (hn : Nxt r w.heap.size r') : Cd w' g r' a b n c1 c2 ls :=
  ⟨row_only ho h.lens (fun k off e => (h.la k off e).2), row_only ho h.words (fun k off e => (h.lb k off e).2), h.pos, fun k off e => ⟨Nat.lt_of_lt_of_le (h.la k off e).1 ho.size, fp_next (h.la k off e).1 (h.la k off e).2 hn⟩, fun k off e => ⟨Nat.lt_of_lt_of_le (h.lb k off e).1 ho.size, fp_next (h.lb k off e).1 (h.lb k off e).2 hn⟩⟩
theorem Cd.below {w w' : World} {g n c1 c2 : Nat} {r : Option Nat} {a b : Option Addr} {ls : List Nat} (h : Cd w g r a b n c1 c2 ls) (hb : Below w.heap.size w w') : Cd w' g r a b n c1 c2 ls :=
  ⟨h.lens.below (Nat.le_refl _) hb, h.words.below (Nat.le_refl _) hb, h.pos, fun k off e => ⟨Nat.lt_of_lt_of_le (h.la k off e).1 hb.size, (h.la k off e).2⟩, fun k off e => ⟨Nat.lt_of_lt_of_le (h.lb k off e).1 hb.size, (h.lb k off e).2⟩⟩
theorem Cd.len {w : World} {g n c1 c2 : Nat} {r : Option Nat} {a b : Option Addr} {ls : List Nat} (h : Cd w g r a b n c1 c2 ls) : ls.length = n := by
  have := h.lens.len_eq
  simpa [lv] using this
theorem Cd.cells {w : World} {g n c1 c2 s : Nat} {r : Option Nat} {a b : Option Addr} {ls : List Nat} (h : Cd w g r a b n c1 c2 ls) (hs : 1 ≤ ln ls s) : ∃ p o q u : Nat, a = some ⟨p, o, none⟩ ∧ b = some ⟨q, u, none⟩ ∧ s < n ∧ w.cell? ⟨p, o + s, none⟩ = some (.int .i64 ((ln ls s : Nat) : Int)) ∧ w.cell? ⟨q, u + s, none⟩ = some (.int .u32 ((codeN ls (ln ls s) s : Nat) : Int)) := by
  have hl := h.len
  have hi := ln_lt hs
  have hp := h.pos
  obtain ⟨p, o, rfl⟩ := h.lens.some_ (by omega)
  obtain ⟨q, u, rfl⟩ := h.words.some_ (by omega)
  refine ⟨p, o, q, u, rfl, rfl, by omega, ?_, ?_⟩
  · rw [h.lens.get s (by simp [lv]; omega), lv_at _ _ hi]; rfl
  · rw [h.words.get s (by rw [CanC.allWords_len]; omega), CanC.allWords_get _ _ hi, CanC.codeW_eq _ _ hi]
    rw [ln_eq _ _ hi] at hs ⊢
    rw [if_neg (by omega)]; rfl
theorem bits_code (ls : List Nat) (s : Nat) (h : 1 ≤ ln ls s) : (lows (ln ls s) (codeN ls (ln ls s) s)).reverse = bitsAt ls s := by
  have hi := ln_lt h
  rw [bitsAt_eq ls s hi, ln_eq ls s hi]
theorem lows_none (v : Nat) : lows 0 v = [] := rfl
/-- Put of any number of bits, none too. -/
theorem put_all (v n B g : Nat) (r : Option Nat) (bs : List Bool) (w : World) (hv : v < 4294967296) (hn : n ≤ 32) (hw : Wr B w g r bs) (hl : bs.length ≤ 100000000000) :
    Calls Tryd.prog 27 #[.pointer (some ⟨g, 0, none⟩), .int .u32 (v : Int), .int .i64 (n : Int)] w (Wrote B g r w (bs ++ lows n v)) := by
  by_cases h0 : n = 0
  · subst h0
    refine (put_no (v : Int) 0 g w (.inl (by omega))).mono ?_
    rintro e w' ⟨rfl, rfl⟩
    exact ⟨r, rfl, by rw [lows_none, List.append_nil]; exact hw, Only.refl _ _, Nxt.refl _ _⟩
  · exact put_any v n B g r bs w hv (by omega) hn hw hl
set_option maxRecDepth 100000 in
set_option maxHeartbeats 4000000 in
theorem cput_any (s x v B g : Nat) (r : Option Nat) (bs : List Bool) (a b : Option Addr) (n c1 c2 : Nat) (ls : List Nat) (w : World) (hc : Cd w g r a b n c1 c2 ls) (hs : 1 ≤ ln ls s) (h15 : ∀ y ∈ ls, y ≤ 15) (hkr : kr ls ≤ 32768) (hx : x ≤ 32) (hv : v < 4294967296) (hw : Wr B w g r bs) (hl : bs.length ≤ 10000000000) :
    Calls Tryd.prog 63 #[.agg #[.slice a n c1, .slice b n c2], .pointer (some ⟨g, 0, none⟩), .agg #[.int .i64 (s : Int), .int .i64 (x : Int), .int .i64 (v : Int)]] w (Wrote B g r w (bs ++ pbits ls ⟨s, x, v⟩)) := by
  obtain ⟨p, o, q, u, rfl, rfl, hsn, hcl, hcw⟩ := hc.cells hs
  have hp1 := (hc.la p o rfl).1
  have hq1 := (hc.lb q u rfl).1
  obtain ⟨X, hX⟩ : ∃ X, X = (w.alloc (.cells #[.slice (some ⟨p, o, none⟩) n c1, .slice (some ⟨q, u, none⟩) n c2] 62)).alloc (.cells #[.int .i64 (s : Int), .int .i64 (x : Int), .int .i64 (v : Int)] 90) := ⟨_, rfl⟩
  have hXB : Below w.heap.size w X := by rw [hX]; exact ((Below.refl _ _).alloc (Nat.le_refl _) _).alloc (by rw [World.size_alloc]; omega) _
  have HBC : Hid (Blk X w.heap.size 62 #[.slice (some ⟨p, o, none⟩) n c1, .slice (some ⟨q, u, none⟩) n c2]) := Lib.hid (by rw [hX]; exact (Blk.new w _ _).alloc _)
  have HBP : Hid (Blk X (w.heap.size + 1) 90 #[.int .i64 (s : Int), .int .i64 (x : Int), .int .i64 (v : Int)]) := Lib.hid (by
    have := Blk.new (w.alloc (.cells #[.slice (some ⟨p, o, none⟩) n c1, .slice (some ⟨q, u, none⟩) n c2] 62)) 90 #[.int .i64 (s : Int), .int .i64 (x : Int), .int .i64 (v : Int)]
    rw [World.size_alloc] at this
    rw [hX]; exact this)
  have hcl2 : X.cell? ⟨p, o + s, none⟩ = some (.int .i64 ((ln ls s : Nat) : Int)) := (hXB.cell (p := ⟨p, o + s, none⟩) hp1).trans hcl
  have hcw2 : X.cell? ⟨q, u + s, none⟩ = some (.int .u32 ((codeN ls (ln ls s) s : Nat) : Int)) := (hXB.cell (p := ⟨q, u + s, none⟩) hq1).trans hcw
  have h15s := ln_le h15 s
  have hcs := code_small h15 hkr s hs
  have HWX := Lib.hid (hw.below hXB)
  have HG : Hid (g < w.heap.size ∧ ∀ k, r = some k → k < w.heap.size) := Lib.hid ⟨hw.lt, fun k hk => (hw.rlt k hk).2⟩
  have HBI := Lib.hid (bits_code ls s hs)
  obtain ⟨N, hN⟩ : ∃ N, N = ln ls s := ⟨_, rfl⟩
  obtain ⟨C, hC⟩ : ∃ C, C = codeN ls (ln ls s) s := ⟨_, rfl⟩
  rw [← hC] at hcw2 hcs HBI
  rw [← hN] at hcl2 hcs h15s hs HBI
  have hC32 : C < 4294967296 := Nat.lt_of_lt_of_le hcs (Nat.le_trans (Nat.pow_le_pow_right (n := 2) (by omega) h15s) (by decide))
  have HCO := Lib.hid (code_any C N B g r bs X.drew hC32 hs (by omega) (HWX.out.below (Below.refl _ _).drew) (by omega))
  have HNS : Hid (ln ls s ≤ 15) := Lib.hid (by rw [← hN]; exact h15s)
  have HXB := Lib.hid hXB
  have k0 : X.cell? ⟨w.heap.size, 0, none⟩ = some (.slice (some ⟨p, o, none⟩) n c1) := HBC.out.cell 0
  have k1 : X.cell? ⟨w.heap.size, 1, none⟩ = some (.slice (some ⟨q, u, none⟩) n c2) := HBC.out.cell 1
  have m0 : X.cell? ⟨w.heap.size + 1, 0, none⟩ = some (.int .i64 (s : Int)) := HBP.out.cell 0
  have hsi : (s : Int) < (n : Int) := by omega
  have hs0 : (0 : Int) ≤ (s : Int) := by omega
  have hcv : IntKind.u32.wrap (v : Int) = (v : Int) := by rw [IntKind.wrap_u32]; omega
  clear hc hcl hcw hXB hw h15 hkr hp1 hq1 hC hN hcs hC32 HWX
  go_enter Tryd.func63, Tryd.ntmps63
  go_upto_region 1 with (fail)
  rw [← hX]
  clear hX
  go_still_tail 13, (by kernel_rfl)
  go_wp2_with fail
  refine HCO.out.mono ?_
  rintro e w1 ⟨r1, rfl, hw1, ho1, hn1⟩
  have HO1 : Hid (Only (Fp g r) w w1) := Lib.hid ((Only.of_below HXB.out (Fp g r)).drew.trans ho1 (fun _ _ h => h))
  have HN1 : Hid (Nxt r w.heap.size r1) := Lib.hid ((Nxt.refl r w.heap.size).trans hn1 HXB.out.size)
  have HBP1 := Lib.hid (ho1.blk HBP.out.drew (fun hf => by
    rcases hf with e | e
    · have := HG.out.1; omega
    · have := HG.out.2 _ e; omega))
  have HPU := Lib.hid (put_all v x B g r1 _ w1 hv hx hw1 (by rw [List.length_append, HBI.out, InfMath.bits_ln]; have := HNS.out; omega))
  have m1 : w1.cell? ⟨w.heap.size + 1, 1, none⟩ = some (.int .i64 (x : Int)) := HBP1.out.cell 1
  have m2 : w1.cell? ⟨w.heap.size + 1, 2, none⟩ = some (.int .i64 (v : Int)) := HBP1.out.cell 2
  clear hw1 ho1 hn1 HCO HBP HBC k0 k1 m0 hcl2 hcw2
  go_wp2_with fail
  refine HPU.out.mono ?_
  rintro e w2 ⟨r2, rfl, hw2, ho2, hn2⟩
  go_wp2_with fail
  go_end0
  refine ⟨r2, rfl, ?_, HO1.out.next HN1.out ho2, HN1.out.trans hn2 HO1.out.size⟩
  unfold pbits
  rw [← HBI.out, ← List.append_assoc]
  exact hw2
end Go.Proofs.YtbjjkhlebdaoaaaDoor.BlkC
end

section
/-
  codes.put: tokens in codes.
-/
namespace Go.Proofs.YtbjjkhlebdaoaaaDoor.BlkC
open Go.RowKit Go.My BitMath CanMath TabMath BitC
open LzMath (Tok May)
open LzC (TokIn tc)
open CanC (iv allWords)
open PkC (lv)
open InfMath (Pc CodeOk pbits tks tkb blk Used lp dp)

theorem x_cb {a : Act} {o : Oper} (s : Operand) (k : Nat) {q : Nat} {w : World} (hk : k < 2) (ho : o.op = .fieldAddr 64 s k) (hs : a.eval s = .pointer (some ⟨q, 0, none⟩)) : (execOp a.eval o).run Tryd.prog w = .ok (.value (.pointer (some ⟨q, 2 * k, none⟩))) w := by
  unfold execOp; rw [ho]; simp only [hs]
  rcases (by omega : k = 0 ∨ k = 1) with rfl | rfl <;> go_simp
theorem x_ldc {a : Act} {o : Oper} (s : Operand) {q k : Nat} {x y : Option Addr} {m n c d : Nat} {w : World} (ho : o.op = .load 62 s) (hs : a.eval s = .pointer (some ⟨q, k, none⟩)) (h0 : w.cell? ⟨q, k, none⟩ = some (.slice x m c)) (h1 : w.cell? ⟨q, k + 1, none⟩ = some (.slice y n d)) :
    (execOp a.eval o).run Tryd.prog w = .ok (.value (.agg #[.slice x m c, .slice y n d])) w := by
  unfold execOp; rw [ho]; simp only [hs]
  go_simp
theorem x_cput {a : Act} {o : Oper} {s t r : Operand} {ts : Array TypeId} {u v z : Value} {w : World} (ho : o.op = .call { callee := .value (.func 63), args := #[s, t, r], argTypes := ts }) (hs : a.eval s = u) (ht : a.eval t = v) (hr : a.eval r = z) :
    (execOp a.eval o).run Tryd.prog w = .ok (.enter 63 #[u, v, z]) w := by
  unfold execOp; rw [ho]
  subst hs ht hr
  go_simp
/-- Both codes and a token in their boxes. -/
def CbAt (q t9 : Nat) (a1 b1 a2 b2 : Option Addr) (n1 c1 d1 n2 c2 d2 : Nat) (L D : Nat) (w : World) : Prop :=
  w.cell? ⟨q, 0, none⟩ = some (.slice a1 n1 c1) ∧ w.cell? ⟨q, 1, none⟩ = some (.slice b1 n1 d1) ∧ w.cell? ⟨q, 2, none⟩ = some (.slice a2 n2 c2) ∧ w.cell? ⟨q, 3, none⟩ = some (.slice b2 n2 d2) ∧ w.cell? ⟨t9, 0, none⟩ = some (.int .i64 (L : Int)) ∧ w.cell? ⟨t9, 1, none⟩ = some (.int .i64 (D : Int))
/-- What holds while tokens are put. -/
structure Pt (B : Nat) (w0 : World) (g : Nat) (r : Option Nat) (q : Nat) (a1 b1 a2 b2 : Option Addr) (n1 c1 d1 n2 c2 d2 : Nat) (LL DD : List Nat) (w : World) (r' : Option Nat) (T : List Bool) : Prop where
  wr : Wr B w g r' T
  box : Blk w q 64 #[.slice a1 n1 c1, .slice b1 n1 d1, .slice a2 n2 c2, .slice b2 n2 d2]
  nq : ¬ Fp g r' q
  cd1 : Cd w g r' a1 b1 n1 c1 d1 LL
  cd2 : Cd w g r' a2 b2 n2 c2 d2 DD
  only : Only (Fp g r) w0 w
  nxt : Nxt r w0.heap.size r'
/-- .. a token in its box besides. -/
structure Ptk (B : Nat) (w0 : World) (g : Nat) (r : Option Nat) (q t9 : Nat) (a1 b1 a2 b2 : Option Addr) (n1 c1 d1 n2 c2 d2 : Nat) (LL DD : List Nat) (L D y : Int) (w : World) (r' : Option Nat) (T : List Bool) : Prop extends Pt B w0 g r q a1 b1 a2 b2 n1 c1 d1 n2 c2 d2 LL DD w r' T where
  tok : Blk w t9 85 #[.int .i64 L, .int .i64 D, .int .u8 y]
  nt : ¬ Fp g r' t9
section
variable {B : Nat} {w0 w w' : World} {g q t9 : Nat} {r r' r2 : Option Nat} {a1 b1 a2 b2 : Option Addr} {n1 c1 d1 n2 c2 d2 : Nat} {LL DD : List Nat} {L D y : Int} {T T2 : List Bool}
theorem Pt.below (h : Pt B w0 g r q a1 b1 a2 b2 n1 c1 d1 n2 c2 d2 LL DD w r' T) (hb : Below w.heap.size w w') : Pt B w0 g r q a1 b1 a2 b2 n1 c1 d1 n2 c2 d2 LL DD w' r' T :=
  ⟨h.wr.below hb, Blk.later h.box hb, h.nq, h.cd1.below hb, h.cd2.below hb, h.only.then_below hb, h.nxt⟩
theorem Pt.next (h : Pt B w0 g r q a1 b1 a2 b2 n1 c1 d1 n2 c2 d2 LL DD w r' T) (hw : Wr B w' g r2 T2) (ho : Only (Fp g r') w w') (hn : Nxt r' w.heap.size r2) : Pt B w0 g r q a1 b1 a2 b2 n1 c1 d1 n2 c2 d2 LL DD w' r2 T2 :=
  ⟨hw, ho.blk h.box h.nq, fp_next h.box.lt h.nq hn, h.cd1.next ho hn, h.cd2.next ho hn, h.only.next h.nxt ho, h.nxt.trans hn h.only.size⟩
theorem Ptk.below (h : Ptk B w0 g r q t9 a1 b1 a2 b2 n1 c1 d1 n2 c2 d2 LL DD L D y w r' T) (hb : Below w.heap.size w w') : Ptk B w0 g r q t9 a1 b1 a2 b2 n1 c1 d1 n2 c2 d2 LL DD L D y w' r' T :=
  ⟨h.toPt.below hb, Blk.later h.tok hb, h.nt⟩
theorem Ptk.next (h : Ptk B w0 g r q t9 a1 b1 a2 b2 n1 c1 d1 n2 c2 d2 LL DD L D y w r' T) (hw : Wr B w' g r2 T2) (ho : Only (Fp g r') w w') (hn : Nxt r' w.heap.size r2) : Ptk B w0 g r q t9 a1 b1 a2 b2 n1 c1 d1 n2 c2 d2 LL DD L D y w' r2 T2 :=
  ⟨h.toPt.next hw ho hn, ho.blk h.tok h.nt, fp_next h.tok.lt h.nt hn⟩
theorem Ptk.s {L D : Nat} (h : Ptk B w0 g r q t9 a1 b1 a2 b2 n1 c1 d1 n2 c2 d2 LL DD (L : Int) (D : Int) y w r' T) : CbAt q t9 a1 b1 a2 b2 n1 c1 d1 n2 c2 d2 L D w := ⟨h.box.cell 0, h.box.cell 1, h.box.cell 2, h.box.cell 3, h.tok.cell 0, h.tok.cell 1⟩
theorem Pt.tok (h : Pt B w0 g r q a1 b1 a2 b2 n1 c1 d1 n2 c2 d2 LL DD w r' T) (L D y : Int) : Ptk B w0 g r q w.heap.size a1 b1 a2 b2 n1 c1 d1 n2 c2 d2 LL DD L D y (w.alloc (.cells #[.int .i64 L, .int .i64 D, .int .u8 y] 85)) r' T := by
  refine ⟨h.below ((Below.refl _ _).alloc (Nat.le_refl _) _), Blk.new w _ _, ?_⟩
  rintro (e | e)
  · have := h.wr.lt; omega
  · have := (h.wr.rlt _ e).2; omega
end
theorem tok_only {S : Nat → Prop} {w w' : World} {a : Option Addr} {len cap : Nat} {f : Nat → Tok} (h : TokIn w a len cap f) (ho : Only S w w') (hS : 0 < len → ∀ b off, a = some ⟨b, off, none⟩ → ¬ S b) : TokIn w' a len cap f := by
  refine ⟨h.le_cap, h.cap_le, h.nil, h.at_.imp_right ?_⟩
  rintro ⟨b, off, ha, hc⟩
  refine ⟨b, off, ha, fun i hi => ?_⟩
  have hS := hS (by omega)
  have e : ∀ k, w'.cell? ⟨b, k, none⟩ = w.cell? ⟨b, k, none⟩ := fun k => ho.cell (p := ⟨b, k, none⟩) (hc i hi).lt (hS b off ha)
  exact ⟨by rw [e]; exact (hc i hi).len, by rw [e]; exact (hc i hi).dist, by rw [e]; exact (hc i hi).byte, Nat.lt_of_lt_of_le (hc i hi).lt ho.size, (hc i hi).wf⟩
theorem tks_len_le {wide : Bool} {L D : List Nat} {f : Nat → Tok} (hL : CodeOk L) (hD : CodeOk D) : ∀ {k : Nat}, (∀ i, i < k → May wide (f i)) → (tks L D wide f k).length ≤ 100 * k
  | 0, _ => Nat.zero_le _
  | k + 1, h => by
    have ih := tks_len_le hL hD (k := k) fun i hi => h i (by omega)
    rw [tks, List.length_append]
    have : (tkb L D wide (f k)).length ≤ 100 := by
      unfold tkb
      by_cases h0 : (f k).len = 0
      · rw [if_pos h0, InfMath.bits_ln]; have := ln_le hL.all (f k).byte.toNat; omega
      · rw [if_neg h0]
        obtain ⟨q1, q2, q3, q4, -⟩ := InfMath.mat_of (h k (by omega)) h0
        obtain ⟨l, -, -, -, -, -, a6⟩ := InfMath.lp_base (f k).len.toNat wide q1 q2
        obtain ⟨d, -, -, -, -, b5⟩ := InfMath.dp_far (f k).dist.toNat wide q3 q4
        unfold pbits
        simp only [List.length_append, InfMath.bits_ln, lows_len]
        have := ln_le hL.all (lp (f k).len.toNat wide).s
        have := ln_le hD.all (dp (f k).dist.toNat).s
        omega
    omega
set_option maxRecDepth 100000 in
set_option maxHeartbeats 8000000 in
theorem csput_any (B g : Nat) (r : Option Nat) (bs : List Bool) (a1 b1 a2 b2 : Option Addr) (n1 c1 d1 n2 c2 d2 : Nat) (LL DD : List Nat) (wide : Bool) (a : Option Addr) (len c : Nat) (f : Nat → Tok) (w : World)
    (hc1 : Cd w g r a1 b1 n1 c1 d1 LL) (hc2 : Cd w g r a2 b2 n2 c2 d2 DD) (hL : CodeOk LL) (hD : CodeOk DD) (hT : TokIn w a len c f) (hsep : 0 < len → ∀ b off, a = some ⟨b, off, none⟩ → ¬ Fp g r b) (hM : ∀ i, i < len → May wide (f i)) (hU : ∀ i, i < len → Used LL DD wide (f i)) (h256 : 1 ≤ ln LL 256)
    (hn : len ≤ 1000000) (hw : Wr B w g r bs) (hl : bs.length ≤ 1000000000) :
    Calls Tryd.prog 40 #[.agg #[.slice a1 n1 c1, .slice b1 n1 d1, .slice a2 n2 c2, .slice b2 n2 d2], .pointer (some ⟨g, 0, none⟩), .slice a len c, .bool wide] w (Wrote B g r w (bs ++ blk LL DD wide f len)) := by
  obtain ⟨X, hX⟩ : ∃ X, X = w.alloc (.cells #[.slice a1 n1 c1, .slice b1 n1 d1, .slice a2 n2 c2, .slice b2 n2 d2] 64) := ⟨_, rfl⟩
  have hXB : Below w.heap.size w X := by rw [hX]; exact (Below.refl _ _).alloc (Nat.le_refl _) _
  have HP0 : Hid (Pt B w g r w.heap.size a1 b1 a2 b2 n1 c1 d1 n2 c2 d2 LL DD X r (bs ++ tks LL DD wide f 0)) := Lib.hid (by
    refine ⟨by rw [tks, List.append_nil]; exact hw.below hXB, by rw [hX]; exact Blk.new w _ _, ?_, hc1.below hXB, hc2.below hXB, Only.of_below hXB _, Nxt.refl _ _⟩
    rintro (e | e)
    · have := hw.lt; omega
    · have := (hw.rlt _ e).2; omega)
  have HT := Lib.hid hT
  have HSP := Lib.hid hsep
  have HM := Lib.hid hM
  have HU := Lib.hid hU
  have HOK := Lib.hid (And.intro hL hD)
  have H256 := Lib.hid h256
  have HBL := Lib.hid hl
  have hlc := hT.le_cap
  have hcm := hT.cap_le
  clear hc1 hc2 hL hD hT hsep hM hU h256 hw hl hXB
  go_enter Tryd.func40, Tryd.ntmps40
  go_upto_region 1 with (fail)
  rw [← hX]
  clear hX
  obtain ⟨q, hq⟩ : ∃ q, q = w.heap.size := ⟨_, rfl⟩
  rw [← hq]
  rw [← hq] at HP0
  clear hq
  go_wp2_with fail
  go_loopw [12] (fun kv wr => ∃ (k : Nat) (r' : Option Nat), kv = .int .i64 (k : Int) ∧ k ≤ len ∧ Hid (Pt B w g r q a1 b1 a2 b2 n1 c1 d1 n2 c2 d2 LL DD wr r' (bs ++ tks LL DD wide f k))) (fun kv _ => len - (intOf kv).toNat)
  case atStart => exact ⟨0, r, rfl, Nat.zero_le _, HP0⟩
  case round =>
    clear HP0
    obtain ⟨k, r', rfl, hk, HP⟩ := hrel
    by_cases hlt : k < len
    · obtain ⟨b, off, hab, ho⟩ := (tok_only HT.out HP.out.only HSP.out).get hlt
      subst hab
      obtain ⟨k0, k1, k2, hbl, wf⟩ := ho
      have hmay := HM.out k hlt
      have hus := HU.out k hlt
      obtain ⟨t, ht⟩ : ∃ t, t = f k := ⟨_, rfl⟩
      rw [← ht] at k0 k1 k2 hmay hus
      obtain ⟨W, hW⟩ : ∃ W, W = wr.alloc (.cells #[.int .i64 t.len, .int .i64 t.dist, .int .u8 (t.byte.toNat : Int)] 85) := ⟨_, rfl⟩
      have HPT : Hid (Ptk B w g r q wr.heap.size a1 b1 a2 b2 n1 c1 d1 n2 c2 d2 LL DD t.len t.dist (t.byte.toNat : Int) W r' (bs ++ tks LL DD wide f k)) := Lib.hid (by rw [hW]; exact HP.out.tok _ _ _)
      have HTK : Hid (tks LL DD wide f (k + 1) = tks LL DD wide f k ++ tkb LL DD wide t) := Lib.hid (by rw [tks, ht])
      have HTL := Lib.hid (tks_len_le (wide := wide) HOK.out.1 HOK.out.2 (k := k) fun i hi => HM.out i (by omega))
      have HTL2 := Lib.hid (tks_len_le (wide := wide) HOK.out.1 HOK.out.2 (k := k + 1) fun i hi => HM.out i (by omega))
      have HMY := Lib.hid hmay
      have HUS := Lib.hid hus
      clear wf hmay hus ht HP
      go_upto_region 4 with (fail)
      rw [← hW]
      clear hW k0 k1 k2 hbl
      obtain ⟨t9, ht9⟩ : ∃ t9, t9 = wr.heap.size := ⟨_, rfl⟩
      rw [← ht9]
      rw [← ht9] at HPT
      clear ht9
      have x0 : W.cell? ⟨t9, 0, none⟩ = some (.int .i64 t.len) := HPT.out.tok.cell 0
      have y0 : W.cell? ⟨q, 0, none⟩ = some (.slice a1 n1 c1) := HPT.out.box.cell 0
      have y1 : W.cell? ⟨q, 1, none⟩ = some (.slice b1 n1 d1) := HPT.out.box.cell 1
      by_cases h0 : t.len = 0
      · have x2 : W.cell? ⟨t9, 2, none⟩ = some (.int .u8 (t.byte.toNat : Int)) := HPT.out.tok.cell 2
        have hbt := t.byte.toNat_lt
        obtain ⟨A, hA⟩ : ∃ A : Nat, A = t.byte.toNat := ⟨_, rfl⟩
        have HU2 : Hid (1 ≤ ln LL A) := Lib.hid (by have := HUS.out; unfold Used at this; rw [if_pos h0, ← hA] at this; exact this)
        have HK2 : Hid (tks LL DD wide f (k + 1) = tks LL DD wide f k ++ pbits LL ⟨A, 0, 0⟩) := Lib.hid (by rw [HTK.out]; unfold tkb pbits; rw [if_pos h0, ← hA]; simp [lows])
        have HCP := Lib.hid (cput_any A 0 0 B g r' _ a1 b1 n1 c1 d1 LL W HPT.out.cd1 HU2.out HOK.out.1.all HOK.out.1.kr (by omega) (by omega) HPT.out.wr (by rw [List.length_append]; have := HTL.out; have := HBL.out; omega))
        rw [show ((0 : Nat) : Int) = 0 from rfl] at HCP
        rw [← hA] at x2 hbt
        rw [h0] at x0
        clear hA
        go_wp2_with fail
        refine HCP.out.mono ?_
        rintro e w2 ⟨r2, rfl, hw2, ho2, hn2⟩
        have HP2 := Lib.hid (HPT.out.toPt.next hw2 ho2 hn2)
        rw [List.append_assoc, ← HK2.out] at HP2
        clear hw2 ho2 hn2 HCP x0 x2 y0 y1
        go_wp2_with fail
        go_roundw
        case rel => exact ⟨k + 1, r2, by go_num, by omega, HP2⟩
        case measure => simp [intOf]; omega
      · obtain ⟨q1, q2, q3, q4, e1, e2⟩ := InfMath.mat_of HMY.out h0
        obtain ⟨L, hL⟩ : ∃ L, L = t.len.toNat := ⟨_, rfl⟩
        obtain ⟨D, hD⟩ : ∃ D, D = t.dist.toNat := ⟨_, rfl⟩
        rw [← hL] at q1 q2 e1
        rw [← hD] at q3 q4 e2
        obtain ⟨lb, -, -, la3, la5, la4, la6⟩ := InfMath.lp_base L wide q1 q2
        obtain ⟨db, -, -, db3, db4, db5⟩ := InfMath.dp_far D wide q3 q4
        have HUS : Hid (1 ≤ ln LL (lp L wide).s ∧ 1 ≤ ln DD (dp D).s) := Lib.hid (by have := HUS.out; unfold Used at this; rw [if_neg h0, ← hL, ← hD] at this; exact this)
        have HK2 : Hid (tks LL DD wide f (k + 1) = tks LL DD wide f k ++ (pbits LL (lp L wide) ++ pbits DD (dp D))) := Lib.hid (by rw [HTK.out]; unfold tkb; rw [if_neg h0, ← hL, ← hD])
        have HPK : Hid (Ptk B w g r q t9 a1 b1 a2 b2 n1 c1 d1 n2 c2 d2 LL DD (L : Int) (D : Int) (t.byte.toNat : Int) W.drew r' (bs ++ tks LL DD wide f k)) := Lib.hid (by rw [e1, e2]; exact HPT.out.below (Below.refl _ _).drew)
        have HLD : Hid (3 ≤ L ∧ L ≤ 65538 ∧ 1 ≤ D ∧ D ≤ 65536) := Lib.hid ⟨q1, by cases wide <;> simp at q2 <;> omega, q3, by cases wide <;> simp at q4 <;> omega⟩
        have HNB : Hid ((lp L wide).x ≤ 32 ∧ (lp L wide).v < 4294967296 ∧ (dp D).x ≤ 32 ∧ (dp D).v < 4294967296 ∧ (bs ++ tks LL DD wide f k).length ≤ 10000000000 ∧ (bs ++ tks LL DD wide f k ++ pbits LL ⟨(lp L wide).s, (lp L wide).x, (lp L wide).v⟩).length ≤ 10000000000) := Lib.hid (by
          refine ⟨by omega, Nat.lt_of_lt_of_le la3 (Nat.le_trans (Nat.pow_le_pow_right (n := 2) (by omega) la6) (by decide)), by omega, Nat.lt_of_lt_of_le db3 (Nat.le_trans (Nat.pow_le_pow_right (n := 2) (by omega) db5) (by decide)), by rw [List.length_append]; have := HTL.out; have := HBL.out; omega, ?_⟩
          have h9 := HTL2.out
          rw [HK2.out] at h9
          simp only [List.length_append] at h9 ⊢
          have h8 : (pbits LL ⟨(lp L wide).s, (lp L wide).x, (lp L wide).v⟩).length = (pbits LL (lp L wide)).length := rfl
          have := HBL.out
          omega)
        have hl0 : ((t.len) == 0) = false := by simp; exact h0
        have HS6 := Lib.hid HPK.out.s
        clear hL hD e1 e2 q1 q2 q3 q4 la3 la5 la4 la6 db3 db4 db5 h0
        go_upto_region 6 with (fail)
        refine act_named fun A0 hA0 => ?_
        have hz0 : A0.tmps.size = 48 := by rw [hA0]; rfl
        have e4 : A0.eval (.tmp 4) = .pointer (some ⟨q, 0, none⟩) := by rw [hA0]; rfl
        have e1 : A0.eval (.tmp 1) = .pointer (some ⟨g, 0, none⟩) := by rw [hA0]; rfl
        have e9 : A0.eval (.tmp 9) = .pointer (some ⟨t9, 0, none⟩) := by rw [hA0]; rfl
        have e3 : A0.eval (.tmp 3) = .bool wide := by rw [hA0]; rfl
        refine wp_region_held (S := CbAt q t9 a1 b1 a2 b2 n1 c1 d1 n2 c2 d2 L D) (by kernel_rfl) ?_
        · skip
          refine ord_step (i := 0) (d := some 27) (.pointer (some ⟨q, 0, none⟩)) rfl (by kernel_rfl) (by kernel_rfl) (by kernel_rfl) (by kernel_rfl) (fun _ _ _ h => h) rfl HS6.out (fun w' h => x_cb (.tmp 4) 0 (by omega) rfl e4) fun A1 hA1 => ?_
          have hz1 := sz_put hA1 hz0
          have f1_1 := ev_ne hA1 e1 (by decide)
          have f9_1 := ev_ne hA1 e9 (by decide)
          have f3_1 := ev_ne hA1 e3 (by decide)
          have f27_1 := ev_eq hA1 hz0 (by decide)
          refine ord_step (i := 1) (d := some 28) (.agg #[.slice a1 n1 c1, .slice b1 n1 d1]) rfl (by kernel_rfl) (by kernel_rfl) (by kernel_rfl) (by kernel_rfl) (fun _ _ _ h => h) rfl HS6.out (fun w' h => x_ldc (.tmp 27) rfl f27_1 h.1 h.2.1) fun A2 hA2 => ?_
          have hz2 := sz_put hA2 hz1
          have f1_2 := ev_ne hA2 f1_1 (by decide)
          have f9_2 := ev_ne hA2 f9_1 (by decide)
          have f3_2 := ev_ne hA2 f3_1 (by decide)
          have f28_2 := ev_eq hA2 hz1 (by decide)
          refine ord_step (i := 2) (d := some 29) (.pointer (some ⟨g, 0, none⟩)) rfl (by kernel_rfl) (by kernel_rfl) (by kernel_rfl) (by kernel_rfl) (fun _ _ _ h => h) rfl HS6.out (fun w' h => x_move (.tmp 1) rfl f1_2) fun A3 hA3 => ?_
          have hz3 := sz_put hA3 hz2
          have f9_3 := ev_ne hA3 f9_2 (by decide)
          have f3_3 := ev_ne hA3 f3_2 (by decide)
          have f28_3 := ev_ne hA3 f28_2 (by decide)
          have f29_3 := ev_eq hA3 hz2 (by decide)
          refine ord_step (i := 3) (d := some 30) (.pointer (some ⟨t9, 0, none⟩)) rfl (by kernel_rfl) (by kernel_rfl) (by kernel_rfl) (by kernel_rfl) (fun _ _ _ h => h) rfl HS6.out (fun w' h => x_field (.tmp 9) 0 (by omega) rfl f9_3) fun A4 hA4 => ?_
          have hz4 := sz_put hA4 hz3
          have f3_4 := ev_ne hA4 f3_3 (by decide)
          have f28_4 := ev_ne hA4 f28_3 (by decide)
          have f29_4 := ev_ne hA4 f29_3 (by decide)
          have f30_4 := ev_eq hA4 hz3 (by decide)
          refine ord_step (i := 4) (d := some 31) (.int .i64 (L : Int)) rfl (by kernel_rfl) (by kernel_rfl) (by kernel_rfl) (by kernel_rfl) (fun _ _ _ h => h) rfl HS6.out (fun w' h => x_loadi (.tmp 30) rfl f30_4 h.2.2.2.2.1) fun A5 hA5 => ?_
          have hz5 := sz_put hA5 hz4
          have f3_5 := ev_ne hA5 f3_4 (by decide)
          have f28_5 := ev_ne hA5 f28_4 (by decide)
          have f29_5 := ev_ne hA5 f29_4 (by decide)
          have f31_5 := ev_eq hA5 hz4 (by decide)
          refine ord_step (i := 5) (d := some 32) (.bool wide) rfl (by kernel_rfl) (by kernel_rfl) (by kernel_rfl) (by kernel_rfl) (fun _ _ _ h => h) rfl HS6.out (fun w' h => x_move (.tmp 3) rfl f3_5) fun A6 hA6 => ?_
          have hz6 := sz_put hA6 hz5
          have f28_6 := ev_ne hA6 f28_5 (by decide)
          have f29_6 := ev_ne hA6 f29_5 (by decide)
          have f31_6 := ev_ne hA6 f31_5 (by decide)
          have f32_6 := ev_eq hA6 hz5 (by decide)
          refine ord_lone (i := 6) rfl (by kernel_rfl) rfl (wp_enter (d := some 33) rfl (x_len rfl f31_6 f32_6) (length_any L wide W.drew HLD.out.1 HLD.out.2.1) ?_)
          rintro e w1 ⟨rfl, hb1⟩
          have HP1 := Lib.hid (HPK.out.below hb1)
          clear hb1
          refine ⟨_, rfl, act_name_and HP1.out.s fun A7 hA7 => ?_⟩
          have hz7 := sz_put hA7 hz6
          have f28_7 := ev_ne hA7 f28_6 (by decide)
          have f29_7 := ev_ne hA7 f29_6 (by decide)
          have f33_7 := ev_eq hA7 hz6 (by decide)
          refine ord_lone (i := 7) rfl (by kernel_rfl) rfl (wp_enter (d := some 34) rfl (x_cput rfl f28_7 f29_7 f33_7) (cput_any (lp L wide).s (lp L wide).x (lp L wide).v B g r' _ a1 b1 n1 c1 d1 LL w1 HP1.out.cd1 HUS.out.1 HOK.out.1.all HOK.out.1.kr HNB.out.1 HNB.out.2.1 HP1.out.wr HNB.out.2.2.2.2.1) ?_)
          rintro e w2 ⟨r2, rfl, hw2, ho2, hn2⟩
          have HP2 := Lib.hid (HP1.out.next hw2 ho2 hn2)
          clear hw2 ho2 hn2
          refine ⟨_, rfl, act_name_and HP2.out.s fun A8 hA8 => ?_⟩
          have hz8 := sz_put hA8 hz7
          refine wpAnyH_done (by kernel_rfl) ?_ _
          have ea := hA8
          rw [hA7, hA6, hA5, hA4, hA3, hA2, hA1, hA0] at ea
          simp only [put_lit, List.set_cons_succ, List.set_cons_zero] at ea
          rw [ea]
          clear hA0 hA1 hA2 hA3 hA4 hA5 hA6 hA7 hA8 hz0 hz1 hz2 hz3 hz4 hz5 hz6 hz7 hz8 ea e1 e4 e9 e3
          have HP2d := Lib.hid (HP2.out.below (Below.refl _ _).drew)
          have HS7 := Lib.hid HP2d.out.s
          clear HP2 HP1 HPK HS6
          go_upto_region 7 with (fail)
          refine act_named fun A0 hA0 => ?_
          have hz0 : A0.tmps.size = 48 := by rw [hA0]; rfl
          have e4 : A0.eval (.tmp 4) = .pointer (some ⟨q, 0, none⟩) := by rw [hA0]; rfl
          have e1 : A0.eval (.tmp 1) = .pointer (some ⟨g, 0, none⟩) := by rw [hA0]; rfl
          have e9 : A0.eval (.tmp 9) = .pointer (some ⟨t9, 0, none⟩) := by rw [hA0]; rfl
          refine wp_region_held (S := CbAt q t9 a1 b1 a2 b2 n1 c1 d1 n2 c2 d2 L D) (by kernel_rfl) ?_
          refine ord_step (i := 0) (d := some 35) (.pointer (some ⟨q, 2, none⟩)) rfl (by kernel_rfl) (by kernel_rfl) (by kernel_rfl) (by kernel_rfl) (fun _ _ _ h => h) rfl HS7.out (fun w' h => x_cb (.tmp 4) 1 (by omega) rfl e4) fun A1 hA1 => ?_
          have hz1 := sz_put hA1 hz0
          have f1_1 := ev_ne hA1 e1 (by decide)
          have f9_1 := ev_ne hA1 e9 (by decide)
          have f35_1 := ev_eq hA1 hz0 (by decide)
          refine ord_step (i := 1) (d := some 36) (.agg #[.slice a2 n2 c2, .slice b2 n2 d2]) rfl (by kernel_rfl) (by kernel_rfl) (by kernel_rfl) (by kernel_rfl) (fun _ _ _ h => h) rfl HS7.out (fun w' h => x_ldc (.tmp 35) rfl f35_1 h.2.2.1 h.2.2.2.1) fun A2 hA2 => ?_
          have hz2 := sz_put hA2 hz1
          have f1_2 := ev_ne hA2 f1_1 (by decide)
          have f9_2 := ev_ne hA2 f9_1 (by decide)
          have f36_2 := ev_eq hA2 hz1 (by decide)
          refine ord_step (i := 2) (d := some 37) (.pointer (some ⟨g, 0, none⟩)) rfl (by kernel_rfl) (by kernel_rfl) (by kernel_rfl) (by kernel_rfl) (fun _ _ _ h => h) rfl HS7.out (fun w' h => x_move (.tmp 1) rfl f1_2) fun A3 hA3 => ?_
          have hz3 := sz_put hA3 hz2
          have f9_3 := ev_ne hA3 f9_2 (by decide)
          have f36_3 := ev_ne hA3 f36_2 (by decide)
          have f37_3 := ev_eq hA3 hz2 (by decide)
          refine ord_step (i := 3) (d := some 38) (.pointer (some ⟨t9, 1, none⟩)) rfl (by kernel_rfl) (by kernel_rfl) (by kernel_rfl) (by kernel_rfl) (fun _ _ _ h => h) rfl HS7.out (fun w' h => x_field (.tmp 9) 1 (by omega) rfl f9_3) fun A4 hA4 => ?_
          have hz4 := sz_put hA4 hz3
          have f36_4 := ev_ne hA4 f36_3 (by decide)
          have f37_4 := ev_ne hA4 f37_3 (by decide)
          have f38_4 := ev_eq hA4 hz3 (by decide)
          refine ord_step (i := 4) (d := some 39) (.int .i64 (D : Int)) rfl (by kernel_rfl) (by kernel_rfl) (by kernel_rfl) (by kernel_rfl) (fun _ _ _ h => h) rfl HS7.out (fun w' h => x_loadi (.tmp 38) rfl f38_4 h.2.2.2.2.2) fun A5 hA5 => ?_
          have hz5 := sz_put hA5 hz4
          have f36_5 := ev_ne hA5 f36_4 (by decide)
          have f37_5 := ev_ne hA5 f37_4 (by decide)
          have f39_5 := ev_eq hA5 hz4 (by decide)
          refine ord_lone (i := 5) rfl (by kernel_rfl) rfl (wp_enter (d := some 40) rfl (x_dst rfl f39_5) (distance_any D w2.drew HLD.out.2.2.1 HLD.out.2.2.2) ?_)
          rintro e w3 ⟨rfl, hb3⟩
          have HP3 := Lib.hid (HP2d.out.below hb3)
          clear hb3
          refine ⟨_, rfl, act_name_and HP3.out.s fun A6 hA6 => ?_⟩
          have hz6 := sz_put hA6 hz5
          have f36_6 := ev_ne hA6 f36_5 (by decide)
          have f37_6 := ev_ne hA6 f37_5 (by decide)
          have f40_6 := ev_eq hA6 hz5 (by decide)
          refine ord_lone (i := 6) rfl (by kernel_rfl) rfl (wp_enter (d := some 41) rfl (x_cput rfl f36_6 f37_6 f40_6) (cput_any (dp D).s (dp D).x (dp D).v B g r2 _ a2 b2 n2 c2 d2 DD w3 HP3.out.cd2 HUS.out.2 HOK.out.2.all HOK.out.2.kr HNB.out.2.2.1 HNB.out.2.2.2.1 HP3.out.wr HNB.out.2.2.2.2.2) ?_)
          rintro e w4 ⟨r4, rfl, hw4, ho4, hn4⟩
          have HP4 := Lib.hid (HP3.out.next hw4 ho4 hn4)
          clear hw4 ho4 hn4
          refine ⟨_, rfl, act_name_and HP4.out.s fun A7 hA7 => ?_⟩
          have hz7 := sz_put hA7 hz6
          refine wpAnyH_done (by kernel_rfl) ?_ _
          have ea := hA7
          rw [hA6, hA5, hA4, hA3, hA2, hA1, hA0] at ea
          simp only [put_lit, List.set_cons_succ, List.set_cons_zero] at ea
          rw [ea]
          have HPE : Hid (Pt B w g r q a1 b1 a2 b2 n1 c1 d1 n2 c2 d2 LL DD w4 r4 (bs ++ tks LL DD wide f (k + 1))) := Lib.hid (by
            have := HP4.out.toPt
            rw [List.append_assoc, List.append_assoc] at this
            rw [HK2.out]
            exact this)
          clear hA0 hA1 hA2 hA3 hA4 hA5 hA6 hA7 ea HP4 HP3 HP2d
          go_wp2_with fail
          go_roundw
          case rel => exact ⟨k + 1, r4, by go_num, by omega, HPE⟩
          case measure => simp [intOf]; omega
    · obtain rfl : k = len := by omega
      have y0 : wr.cell? ⟨q, 0, none⟩ = some (.slice a1 n1 c1) := HP.out.box.cell 0
      have y1 : wr.cell? ⟨q, 1, none⟩ = some (.slice b1 n1 d1) := HP.out.box.cell 1
      have HTL := Lib.hid (tks_len_le (wide := wide) HOK.out.1 HOK.out.2 (k := k) HM.out)
      have HCP := Lib.hid (cput_any 256 0 0 B g r' _ a1 b1 n1 c1 d1 LL wr HP.out.cd1 H256.out HOK.out.1.all HOK.out.1.kr (by omega) (by omega) HP.out.wr (by rw [List.length_append]; have := HTL.out; have := HBL.out; omega))
      rw [show ((0 : Nat) : Int) = 0 from rfl, show ((256 : Nat) : Int) = 256 from rfl] at HCP
      go_wp2_with fail
      refine HCP.out.mono ?_
      rintro e w2 ⟨r2, rfl, hw2, ho2, hn2⟩
      go_wp2_with fail
      go_end0
      refine ⟨r2, rfl, ?_, HP.out.only.next HP.out.nxt ho2, HP.out.nxt.trans hn2 HP.out.only.size⟩
      have e9 : pbits LL ⟨256, 0, 0⟩ = bitsAt LL 256 := by unfold pbits; simp [lows]
      rw [e9, List.append_assoc] at hw2
      exact hw2
end Go.Proofs.YtbjjkhlebdaoaaaDoor.BlkC
end
