import Derived.Test.YtbjjkhlebdaoaaaGreatDoorMgBs
import Derived.Test.YtbjjkhlebdaoaaaGreatDoorMgW
import Derived.Test.YtbjjkhlebdaoaaaGreatDoorMgX
import Derived.Laws.Pointers

section
/-
  Write: tokens as the blocks that take the fewest bits.
-/
namespace Go.Proofs.YtbjjkhlebdaoaaaGreatDoor.BlkC
open Go.RowKit Go.My BitMath CanMath TabMath BitC
open LzMath (Tok May tot sz GoodT Ok ex)
open LzC (TokIn tc EndsT size_all expand_all)
open PkC (cel lv Best)
open PackMath (sm)
open InfMath (Pc CodeOk HOk Sp cntP Rd bn blk stbs gap hbits pbits tks fixL fixD lite dstc xtr cst)

theorem CodeIn.cd {B g n c1 c2 : Nat} {w : World} {r : Option Nat} {a b : Option Addr} {ls : List Nat} (h : CodeIn B w a b n c1 c2 ls) (hn : 1 ≤ n) (hg : g < B) (hr : ∀ k, r = some k → k < B) : Cd w g r a b n c1 c2 ls := by
  refine ⟨h.lens, h.words, hn, fun k off e => ?_, fun k off e => ?_⟩
  · subst e
    refine ⟨h.lens.lt (by omega), ?_⟩
    have := h.la k off rfl
    rintro (e | e)
    · omega
    · have := hr k e; omega
  · subst e
    refine ⟨h.words.lt (by omega), ?_⟩
    have := h.lb k off rfl
    rintro (e | e)
    · omega
    · have := hr k e; omega
theorem x_ldhdr {a : Act} {o : Oper} (s : Operand) {q : Nat} {cs : Array Value} {w : World} (ho : o.op = .load 80 s) (hs : a.eval s = .pointer (some ⟨q, 0, none⟩)) (hb : Blk w q 80 cs) (hi : (Tryz.prog.info? 80).map (·.size) = some cs.size) :
    (execOp a.eval o).run Tryz.prog w = .ok (.value (.agg cs)) w := by
  unfold execOp; rw [ho]
  simp only [hs, Instr.loadAt, Instr.sureAddr, Sem.run_bind, Sem.run_pure, Result.andThen_ok, run_loadVar_row (P := Tryz.prog) w q 80 80 cs (0, 0) _ hb Tryz.underlying80 rfl hi]
theorem x_ldcds {a : Act} {o : Oper} (s : Operand) {q : Nat} {cs : Array Value} {w : World} (ho : o.op = .load 75 s) (hs : a.eval s = .pointer (some ⟨q, 0, none⟩)) (hb : Blk w q 75 cs) (hi : (Tryz.prog.info? 75).map (·.size) = some cs.size) :
    (execOp a.eval o).run Tryz.prog w = .ok (.value (.agg cs)) w := by
  unfold execOp; rw [ho]
  simp only [hs, Instr.loadAt, Instr.sureAddr, Sem.run_bind, Sem.run_pure, Result.andThen_ok, run_loadVar_row (P := Tryz.prog) w q 75 75 cs (0, 0) _ hb Tryz.underlying75 rfl hi]
theorem x_hb {a : Act} {o : Oper} {s : Operand} {ts : Array TypeId} {u : Value} {w : World} (ho : o.op = .call { callee := .value (.func 40), args := #[s], argTypes := ts }) (hs : a.eval s = u) :
    (execOp a.eval o).run Tryz.prog w = .ok (.enter 40 #[u]) w := by
  unfold execOp; rw [ho]
  subst hs
  go_simp
theorem x_bits {a : Act} {o : Oper} {s t : Operand} {ts : Array TypeId} {u v : Value} {w : World} (ho : o.op = .call { callee := .value (.func 39), args := #[s, t], argTypes := ts }) (hs : a.eval s = u) (ht : a.eval t = v) :
    (execOp a.eval o).run Tryz.prog w = .ok (.enter 39 #[u, v]) w := by
  unfold execOp; rw [ho]
  subst hs ht
  go_simp
theorem x_add3 {a : Act} {o : Oper} {n z : Int} {w : World} (s : Operand) (ho : o.op = Op.binOp BinOp.add 3 (.const (.int .i64 3)) s 3) (hs : a.eval s = .int .i64 n) (hz : IntKind.i64.wrap (3 + n) = z) :
    (execOp a.eval o).run Tryz.prog w = .ok (.value (.int .i64 z)) w := by
  have ht : a.eval (.const (.int .i64 3)) = .int .i64 3 := rfl
  unfold execOp; rw [ho]
  simp only [hs, ht]
  go_simp
theorem x_addi {a : Act} {o : Oper} {n m z : Int} {w : World} (s t : Operand) (ho : o.op = Op.binOp BinOp.add 3 s t 3) (hs : a.eval s = .int .i64 n) (ht : a.eval t = .int .i64 m) (hz : IntKind.i64.wrap (n + m) = z) :
    (execOp a.eval o).run Tryz.prog w = .ok (.value (.int .i64 z)) w := by
  unfold execOp; rw [ho]
  simp only [hs, ht]
  go_simp
/-- The boxes that the second sum reads. -/
def At7 (b12 b11 b9 k1 k2 np pc_ sc sb : Nat) (pa sa a3 : Option Addr) (b3 c3 : Nat) (a4 : Option Addr) (b4 c4 g1 g2 XT : Nat) (w : World) : Prop :=
  Blk w b12 80 #[.int .i64 (k1 : Int), .int .i64 (k2 : Int), .slice pa np pc_, .slice sa 19 sc, .slice (some ⟨sb, 0, none⟩) 19 19] ∧
  Blk w b11 75 #[.slice a3 k1 c3, .slice (some ⟨b3, 0, none⟩) k1 286, .slice a4 k2 c4, .slice (some ⟨b4, 0, none⟩) k2 32] ∧
  Blk w b9 69 #[.slice (some ⟨g1, 0, none⟩) 286 286, .slice (some ⟨g2, 0, none⟩) 32 32, .int .i64 (XT : Int)]
theorem At7.later {b12 b11 b9 k1 k2 np pc_ sc sb : Nat} {pa sa a3 : Option Addr} {b3 c3 : Nat} {a4 : Option Addr} {b4 c4 g1 g2 XT : Nat} {w w' : World} (h : At7 b12 b11 b9 k1 k2 np pc_ sc sb pa sa a3 b3 c3 a4 b4 c4 g1 g2 XT w) (hb : Below w.heap.size w w') : At7 b12 b11 b9 k1 k2 np pc_ sc sb pa sa a3 b3 c3 a4 b4 c4 g1 g2 XT w' :=
  ⟨Blk.later h.1 hb, Blk.later h.2.1 hb, Blk.later h.2.2 hb⟩
theorem ends_full {wide : Bool} {f : Nat → Tok} {len : Nat} (h : EndsT wide f len len) : GoodT wide f len := h.good
theorem blk_le {wide : Bool} {L D : List Nat} {f : Nat → Tok} {n : Nat} (hL : CodeOk L) (hD : CodeOk D) (hM : ∀ i, i < n → May wide (f i)) : cst wide f n (ln L) (ln D) ≤ 100 * n + 15 := by
  rw [← InfMath.blk_cost L D wide f n hM, List.length_append, InfMath.bits_ln]
  have := tks_len_le hL hD hM
  have := ln_le hL.all 256
  omega
theorem hbits_le {L D Sh : List Nat} {n : Nat} {P : List Pc} (hn : n ≤ 19) (h7 : ∀ i, Sh.getD i 0 ≤ 7) (hP : ∀ p ∈ P, p.x ≤ 32) : (hbits L D Sh n P).length ≤ 100 + 100 * P.length := by
  have h1 : ∀ m, ((List.range m).flatMap fun i => lows 3 (Sh.getD (InfMath.order.getD i 0) 0)).length = 3 * m := by
    intro m
    induction m with
    | zero => rfl
    | succ m ih => rw [rng_succ, List.length_append, ih, lows_len]; omega
  have h2 : ∀ Q : List Pc, (∀ p ∈ Q, p.x ≤ 32) → (Q.flatMap (pbits Sh)).length ≤ 100 * Q.length := by
    intro Q
    induction Q with
    | nil => intro _; simp
    | cons q Q ih =>
      intro h
      rw [List.flatMap_cons, List.length_append, List.length_cons]
      have h3 := ih fun p hp => h p (List.mem_cons_of_mem _ hp)
      have h4 := h q (by simp)
      have h5 : (pbits Sh q).length ≤ 39 := by
        unfold pbits
        rw [List.length_append, InfMath.bits_ln, lows_len]
        have := h7 q.s
        unfold ln
        omega
      omega
  unfold hbits
  simp only [List.length_append, lows_len]
  rw [h1]
  have := h2 P hP
  omega
/-- The bits of the blocks for tokens, p bits behind a beginning. -/
def Bits (wide : Bool) (p : Nat) (f : Nat → Tok) (n : Nat) (last : Bool) (X : List Bool) : Prop :=
  ∃ L0 D0 Sh k1 k2, Best ((List.range 286).map (lite wide f n)) L0 15 ∧ Best ((List.range 32).map (dstc f n)) D0 15 ∧ Trim L0 k1 ∧ Trim D0 k2 ∧ Best ((List.range 19).map (cntP (InfMath.spl (L0.take k1 ++ D0.take k2)))) Sh 7 ∧
    Sp [] (InfMath.spl (L0.take k1 ++ D0.take k2)) (L0.take k1 ++ D0.take k2) ∧
    X = if 3 + gap p + 8 * (sto (tot f n) - 1) < min (3 + cst wide f n (ln fixL) (ln fixD)) (3 + (hbits (L0.take k1) (D0.take k2) Sh (hn Sh) (InfMath.spl (L0.take k1 ++ D0.take k2))).length + cst wide f n (ln (L0.take k1)) (ln (D0.take k2))) then stbs p (ex f n) last
      else if 3 + cst wide f n (ln fixL) (ln fixD) ≤ 3 + (hbits (L0.take k1) (D0.take k2) Sh (hn Sh) (InfMath.spl (L0.take k1 ++ D0.take k2))).length + cst wide f n (ln (L0.take k1)) (ln (D0.take k2)) then lows 3 (bn 1 last) ++ blk fixL fixD wide f n
      else lows 3 (bn 2 last) ++ (hbits (L0.take k1) (D0.take k2) Sh (hn Sh) (InfMath.spl (L0.take k1 ++ D0.take k2)) ++ blk (L0.take k1) (D0.take k2) wide f n)
theorem trim_le {L : List Nat} {j k : Nat} (h : Trim L j) (h' : Trim L k) : k ≤ j := by
  rcases Nat.lt_or_ge j k with c | c
  · have h1 := h.one
    rcases h'.last with e | e
    · omega
    · have := h.zero (k - 1) (by omega); omega
  · exact c
theorem trim_one {L : List Nat} {j k : Nat} (h : Trim L j) (h' : Trim L k) : j = k := Nat.le_antisymm (trim_le h' h) (trim_le h h')
/-- There is one row of bits. -/
theorem Bits.same {wide : Bool} {p n : Nat} {f : Nat → Tok} {last : Bool} {X Y : List Bool} (h : Bits wide p f n last X) (h' : Bits wide p f n last Y) : X = Y := by
  obtain ⟨L0, D0, Sh, k1, k2, b1, b2, t1, t2, b3, -, e⟩ := h
  obtain ⟨L0', D0', Sh', k1', k2', b1', b2', t1', t2', b3', -, e'⟩ := h'
  obtain rfl := b1.same b1'
  obtain rfl := b2.same b2'
  obtain rfl := trim_one t1 t1'
  obtain rfl := trim_one t2 t2'
  obtain rfl := b3.same b3'
  rw [e, e']
/-- What Write leaves. -/
def WrRet (B g : Nat) (r : Option Nat) (bs : List Bool) (wide last : Bool) (f : Nat → Tok) (len K : Nat) (w : World) (e : Ending) (w' : World) : Prop :=
  (K < len ∧ e = .returned (.int .i64 1) ∧ Below w.heap.size w w') ∨
  (K = len ∧ e = .returned (.int .i64 0) ∧ ∃ X r', Wr B w' g r' (bs ++ X) ∧ Only (Fp g r) w w' ∧ Nxt r w.heap.size r' ∧ Rd wide bs.length X (ex f len) last ∧ X.length ≤ rfx wide f len ∧ X.length ≤ 3 + gap bs.length + 8 * (sto (tot f len) - 1) ∧ Bits wide bs.length f len last X)
set_option maxRecDepth 100000 in
set_option maxHeartbeats 16000000 in
theorem write_any (B g : Nat) (r : Option Nat) (bs : List Bool) (wide last : Bool) (a : Option Addr) (len c : Nat) (f : Nat → Tok) (K : Nat) (w : World) (h : TokIn w a len c f) (hsep : 0 < len → ∀ b off, a = some ⟨b, off, none⟩ → ¬ Fp g r b) (hE : EndsT wide f len K) (ht : tot f len ≤ 1000000) (hn : len ≤ 100000) (hw : Wr B w g r bs) (hl : bs.length ≤ 100000000) (hT : Tbls B w) :
    Calls Tryz.prog 22 #[.pointer (some ⟨g, 0, none⟩), .slice a len c, .bool wide, .bool last] w (WrRet B g r bs wide last f len K w) := by
  have HSO := Lib.hid (sound_any wide a len c f K w h hE ht)
  have hKl := hE.le
  have hlc := h.le_cap
  have hcm := h.cap_le
  by_cases hlt : K < len
  · rw [decide_eq_false (show ¬ K = len by omega)] at HSO
    clear h hsep hE hw hT
    go_enter Tryz.func22, Tryz.ntmps22
    go_wp2_with fail
    refine HSO.out.mono ?_
    rintro e w1 ⟨rfl, hb1⟩
    go_wp2_with fail
    go_ret
    exact .inl ⟨hlt, rfl, hb1⟩
  obtain rfl : K = len := by omega
  rw [decide_eq_true rfl] at HSO
  have hG := ends_full hE
  have HM : Hid (∀ i, i < K → May wide (f i)) := Lib.hid fun i hi => (hG i hi).1
  have HG := Lib.hid hG
  have HEE := Lib.hid hE
  have H := Lib.hid h
  have HSP := Lib.hid hsep
  have HWR := Lib.hid hw
  have HT := Lib.hid hT
  have HBL := Lib.hid hl
  have HTT := Lib.hid ht
  have HN := Lib.hid hn
  have HBH : Hid (B ≤ w.heap.size ∧ g < w.heap.size ∧ ∀ k, r = some k → k < w.heap.size) := Lib.hid ⟨by have := hw.base; have := hw.lt; omega, hw.lt, fun k hk => (hw.rlt k hk).2⟩
  clear h hsep hE hw hT hG ht hn hl
  go_enter Tryz.func22, Tryz.ntmps22
  go_wp2_with fail
  refine HSO.out.mono ?_
  rintro e w1 ⟨rfl, hb1⟩
  have HB1 := Lib.hid hb1
  have HCN := Lib.hid (count_any wide a K c f w1 (H.out.below (Nat.le_refl _) hb1) HM.out (by have := HN.out; omega))
  clear hb1 HSO
  go_wp2_with fail
  refine HCN.out.mono ?_
  rintro e w2 ⟨g1, g2, rfl, hF, hGG, -, -, -, hb2⟩
  obtain ⟨XT, hXT⟩ : ∃ XT, XT = xtr wide f K := ⟨_, rfl⟩
  rw [← hXT]
  obtain ⟨F, hFe⟩ : ∃ F, F = lite wide f K := ⟨_, rfl⟩
  obtain ⟨G, hGe⟩ : ∃ G, G = dstc f K := ⟨_, rfl⟩
  rw [← hFe] at hF
  rw [← hGe] at hGG
  have HFG : Hid (F = lite wide f K ∧ G = dstc f K ∧ XT = xtr wide f K) := Lib.hid ⟨hFe, hGe, hXT⟩
  have HFM : Hid ((∀ j, F j ≤ 1000000) ∧ (∀ j, G j ≤ 1000000) ∧ XT ≤ 1000000000) := Lib.hid ⟨fun j => by rw [hFe]; have := InfMath.lite_le wide f K j; have := HN.out; omega, fun j => by rw [hGe]; have := InfMath.dstc_le f K j; have := HN.out; omega, by rw [hXT]; have := xtr_le HM.out; have := HN.out; omega⟩
  obtain ⟨Y, hY⟩ : ∃ Y, Y = w2.alloc (.cells #[.slice (some ⟨g1, 0, none⟩) 286 286, .slice (some ⟨g2, 0, none⟩) 32 32, .int .i64 (XT : Int)] 69) := ⟨_, rfl⟩
  have hyb : Below w2.heap.size w2 Y := by rw [hY]; exact (Below.refl _ _).alloc (Nat.le_refl _) _
  have HB2 := Lib.hid ((HB1.out.trans (hb2.mono HB1.out.size)).trans (hyb.mono (by have := HB1.out.size; have := hb2.size; omega)))
  have HF := Lib.hid (Blk.later hF hyb)
  have HGG := Lib.hid (Blk.later hGG hyb)
  have HT9 : Hid (Blk Y w2.heap.size 69 #[.slice (some ⟨g1, 0, none⟩) 286 286, .slice (some ⟨g2, 0, none⟩) 32 32, .int .i64 (XT : Int)]) := Lib.hid (by rw [hY]; exact Blk.new w2 _ _)
  clear hF hGG hb2 hyb hXT hFe hGe HCN HB1
  go_upto_region 4 with (fail)
  rw [← hY]
  clear hY
  obtain ⟨b9, hb9⟩ : ∃ b9, b9 = w2.heap.size := ⟨_, rfl⟩
  rw [← hb9]
  rw [← hb9] at HT9
  clear hb9
  go_cut [10, 11] (fun v10 v11 wr => ∃ (b10 b11 : Nat) (u v : Array Value), v10 = .pointer (some ⟨b10, 0, none⟩) ∧ v11 = .pointer (some ⟨b11, 0, none⟩) ∧ Hid (Below Y.heap.size Y wr ∧ CF Y.heap.size wr u ∧ CO F G Y.heap.size wr v ∧ Blk wr b10 75 u ∧ Blk wr b11 75 v ∧ Y.heap.size ≤ b10 ∧ Y.heap.size ≤ b11))
  case first =>
    refine act_named fun A0 hA0 => ?_
    have hz0 : A0.tmps.size = 89 := by rw [hA0]; rfl
    have e9 : A0.eval (.tmp 9) = .pointer (some ⟨b9, 0, none⟩) := by rw [hA0]; rfl
    refine wp_region_inv (fun Dn a w => ∃ u v b10 b11, I4 F G Y.heap.size A0 Y #[.slice (some ⟨g1, 0, none⟩) 286 286, .slice (some ⟨g2, 0, none⟩) 32 32, .int .i64 (XT : Int)] Dn a w u v b10 b11) rfl (by kernel_rfl)
      ⟨#[], #[], 0, 0, Slots.start 7 (V4_lt _ _ _), (Below.refl _ _).drew, by simp [none_], by simp [none_], ⟨fun _ => rfl, by simp [none_], by simp [none_], by simp [none_]⟩, ⟨fun _ => rfl, by simp [none_], by simp [none_], by simp [none_]⟩, by simp [none_], fun _ => rfl, fun _ => rfl⟩ (ops_cases (by kernel_rfl) ?_) ?_
    · intro j hj Dn a w6 ⟨u, v, b10, b11, hI⟩ hD pre
      rcases (by have : j < 7 := hj; omega : j = 0 ∨ j = 1 ∨ j = 2 ∨ j = 3 ∨ j = 4 ∨ j = 5 ∨ j = 6) with rfl | rfl | rfl | rfl | rfl | rfl | rfl
      · refine wp_enter (d := some 29) rfl (x_fix rfl) (fixed_any w6) ?_
        rintro e w9 ⟨a1, c1, b1, a2, c2, b2, rfl, hc1, hc2, hb⟩
        exact ⟨_, rfl, _, v, b10, b11, hI.fix hD (by rw [hz0]; decide) hb ⟨a1, c1, b1, a2, c2, b2, rfl, hc1.more hI.bel.size, hc2.more hI.bel.size⟩⟩
      · exact wp_value (d := some 30) rfl (x_ldtal (.tmp 9) rfl ((hI.sl.keep 9 (by decide)).trans e9) (Blk.later HT9.out hI.bel)) ⟨u, v, b10, b11, hI.tal (by rw [hz0]; decide)⟩
      · refine wp_enter (d := some 31) rfl (x_own rfl (hI.sl.get (j := 1) (by simp [V4]) (pre 1 rfl))) (own_any g1 g2 XT F G w6 (Blk.later HF.out hI.bel) (Blk.later HGG.out hI.bel) HFM.out.1 HFM.out.2.1) ?_
        rintro e w9 ⟨a1, c1, b1, k1, L, a2, c2, b2, k2, D, rfl, t1, t2, p1, p2, hc1, hc2, hb⟩
        exact ⟨_, rfl, u, _, b10, b11, hI.own hD (by rw [hz0]; decide) hb ⟨a1, c1, b1, k1, L, a2, c2, b2, k2, D, rfl, t1, t2, p1, p2, hc1.more hI.bel.size, hc2.more hI.bel.size⟩⟩
      · exact wp_value rfl (x_alloc4 rfl) ⟨u, v, _, b11, hI.mk10 hD (by rw [hz0]; decide)⟩
      · exact wp_value rfl (x_alloc4 rfl) ⟨u, v, b10, _, hI.mk11 hD (by rw [hz0]; decide)⟩
      · have h3 := pre 3 rfl
        have h0 := pre 0 rfl
        have hbk := hI.p10.blk h3
        rw [hD] at hbk
        have hsl := (hI.f h0).sl
        exact wp_store_row 75 (.tmp 10) (.tmp 29) rfl b10 u (hI.p10.slot h3) (hI.sl.get (j := 0) (by simp [V4]) h0) 75 zz4 hbk (by rw [hsl.1]; exact info_codes) (by rw [hsl.1]; rfl) hsl.2.1 ⟨u, v, b10, b11, hI.st10 h3 hD h0⟩
      · have h4 := pre 4 rfl
        have h2 := pre 2 rfl
        have hbk := hI.p11.blk h4
        rw [hD] at hbk
        have hsl := (hI.o h2).sl
        exact wp_store_row 75 (.tmp 11) (.tmp 31) rfl b11 v (hI.p11.slot h4) (hI.sl.get (j := 2) (by simp [V4]) h2) 75 zz4 hbk (by rw [hsl.1]; exact info_codes) (by rw [hsl.1]; rfl) hsl.2.1 ⟨u, v, b10, b11, hI.st11 h4 hD h2⟩
    · intro a w6 ⟨u, v, b10, b11, hI⟩
      rename_i J9 K9 hJ9 hK9
      obtain ⟨vs, hvs, ea⟩ := hI.sl.eq (by rw [hz0]; decide)
      have s8 := (hvs 10).trans (hI.p10.slot rfl)
      have s9 := (hvs 11).trans (hI.p11.slot rfl)
      have HR : Hid (Below Y.heap.size Y w6 ∧ CF Y.heap.size w6 u ∧ CO F G Y.heap.size w6 v ∧ Blk w6 b10 75 u ∧ Blk w6 b11 75 v ∧ Y.heap.size ≤ b10 ∧ Y.heap.size ≤ b11) := Lib.hid ⟨hI.bel, hI.f rfl, hI.o rfl, hI.p10.blk rfl, hI.p11.blk rfl, hI.p10.base rfl, hI.p11.base rfl⟩
      rw [hA0] at ea
      simp only [L4, List.foldl_cons, List.foldl_nil, put_lit, List.set_cons_succ, List.set_cons_zero] at ea
      rw [s8, s9] at ea
      clear hvs hI hA0 hz0 e9 s8 s9
      subst ea
      refine hK9 _ _ ?_
      go_meet
      case rel => exact ⟨_, _, u, v, rfl, rfl, HR⟩
  case rest =>
    obtain ⟨b10, b11, u, v, rfl, rfl, HR⟩ := hcut
    obtain ⟨hbw, ⟨a1, c1, b1, a2, c2, b2, hu, hf1, hf2⟩, ⟨a3, c3, b3, k1, L0, a4, c4, b4, k2, D0, hv, t1, t2, p1, p2, ho1, ho2⟩, hk10, hk11, hbb⟩ := HR.out
    subst hu hv
    have HC0 := Lib.hid hbw
    have HFX := Lib.hid (And.intro hf1 hf2)
    have HK10 := Lib.hid hk10
    have HK11 := Lib.hid hk11
    have HBB := Lib.hid hbb
    have HTR := Lib.hid (And.intro t1 (And.intro t2 (And.intro p1 p2)))
    have hs1 := p1.size
    have hs2 := p2.size
    rw [range_map_len] at hs1 hs2
    have hk1 : 1 ≤ k1 ∧ k1 ≤ 286 := ⟨t1.one, by have := t1.le; omega⟩
    have hk2 : 1 ≤ k2 ∧ k2 ≤ 32 := ⟨t2.one, by have := t2.le; omega⟩
    have hc15 : ∀ x ∈ L0.take k1 ++ D0.take k2, x ≤ 15 := fun x hx => by
      rcases List.mem_append.1 hx with h | h
      · exact (best_code p1 t1 (by omega) (by omega)).all x h
      · exact (best_code p2 t2 (by omega) (by omega)).all x h
    have hwcB : Below w.heap.size w wc := HB2.out.trans (hbw.mono HB2.out.size)
    have HHO := Lib.hid (headerOf_any B a3 (some ⟨b3, 0, none⟩) a4 (some ⟨b4, 0, none⟩) k1 c3 286 k2 c4 32 (L0.take k1) (D0.take k2) wc ho1.lens ho2.lens hk1.1 (by omega) hc15 (by have := HBH.out.1; have := hwcB.size; omega) (HT.out.below hwcB HBH.out.1))
    have HOO := Lib.hid (And.intro ho1 ho2)
    have HWC := Lib.hid hwcB
    have v0 : wc.cell? ⟨b11, 0, none⟩ = some (.slice a3 k1 c3) := hk11.cell 0
    have v1 : wc.cell? ⟨b11, 1, none⟩ = some (.slice (some ⟨b3, 0, none⟩) k1 286) := hk11.cell 1
    have v2 : wc.cell? ⟨b11, 2, none⟩ = some (.slice a4 k2 c4) := hk11.cell 2
    have v3 : wc.cell? ⟨b11, 3, none⟩ = some (.slice (some ⟨b4, 0, none⟩) k2 32) := hk11.cell 3
    clear hbw hf1 hf2 t1 t2 p1 p2 ho1 ho2 hk10 hk11 hbb hs1 hs2 hc15 hwcB HR
    go_wp2_with fail
    refine HHO.out.mono ?_
    rintro e w5 ⟨pa, np, pc_, P, sa, sc, sb, Sh, rfl, hsp, hnp, hbe, hpi, hpa, hcs, hb5, hps⟩
    have hok := hok_of (wide := wide) (f := f) (len := K) HG.out (by rw [← HFG.out.1]; exact HTR.out.2.2.1) (by rw [← HFG.out.2.1]; exact HTR.out.2.2.2) HTR.out.1 HTR.out.2.1 hsp hbe
    obtain ⟨Z, hZ⟩ : ∃ Z, Z = w5.alloc (.cells #[.int .i64 (k1 : Int), .int .i64 (k2 : Int), .slice pa np pc_, .slice sa 19 sc, .slice (some ⟨sb, 0, none⟩) 19 19] 80) := ⟨_, rfl⟩
    have hzb : Below w5.heap.size w5 Z := by rw [hZ]; exact (Below.refl _ _).alloc (Nat.le_refl _) _
    have HZ12 : Hid (Blk Z w5.heap.size 80 #[.int .i64 (k1 : Int), .int .i64 (k2 : Int), .slice pa np pc_, .slice sa 19 sc, .slice (some ⟨sb, 0, none⟩) 19 19]) := Lib.hid (by rw [hZ]; exact Blk.new w5 _ _)
    have hcz : Below wc.heap.size wc Z := hb5.trans (hzb.mono hb5.size)
    have HCZ := Lib.hid hcz
    have HDZ := Lib.hid hzb
    have HW5S : Hid (wc.heap.size ≤ w5.heap.size) := Lib.hid hb5.size
    have HHD := Lib.hid (And.intro hsp (And.intro hnp (And.intro hbe (And.intro hpi (And.intro hpa hcs)))))
    have HOK := Lib.hid hok
    have hnpb : np ≤ 400 := by omega
    have HNP := Lib.hid hnpb
    have HBI : Hid (∀ X, (X = if 3 + gap bs.length + 8 * (sto (tot f K) - 1) < min (3 + cst wide f K (ln fixL) (ln fixD)) (3 + (hbits (L0.take k1) (D0.take k2) Sh (hn Sh) P).length + cst wide f K (ln (L0.take k1)) (ln (D0.take k2))) then stbs bs.length (ex f K) last
      else if 3 + cst wide f K (ln fixL) (ln fixD) ≤ 3 + (hbits (L0.take k1) (D0.take k2) Sh (hn Sh) P).length + cst wide f K (ln (L0.take k1)) (ln (D0.take k2)) then lows 3 (bn 1 last) ++ blk fixL fixD wide f K
      else lows 3 (bn 2 last) ++ (hbits (L0.take k1) (D0.take k2) Sh (hn Sh) P ++ blk (L0.take k1) (D0.take k2) wide f K)) → Bits wide bs.length f K last X) := Lib.hid (by
      subst hps
      intro X hX
      exact ⟨L0, D0, Sh, k1, k2, by rw [← HFG.out.1]; exact HTR.out.2.2.1, by rw [← HFG.out.2.1]; exact HTR.out.2.2.2, HTR.out.1, HTR.out.2.1, hbe, hsp, hX⟩)
    clear hps
    obtain ⟨L, hL⟩ : ∃ L, L = L0.take k1 := ⟨_, rfl⟩
    obtain ⟨D, hD⟩ : ∃ D, D = D0.take k2 := ⟨_, rfl⟩
    rw [← hL, ← hD] at HBI
    rw [← hL, ← hD] at HOK HHD HOO
    have hLl : L.length = k1 := HOO.out.1.len
    have hDl : D.length = k2 := HOO.out.2.len
    have HLD := Lib.hid (And.intro hLl hDl)
    have hcc := blk_le (wide := wide) (f := f) (n := K) InfMath.fixL_ok InfMath.fixD_ok HM.out
    have hcf := blk_le (wide := wide) (f := f) (n := K) HOK.out.2.1 HOK.out.2.2.1 HM.out
    have hx32 : ∀ p ∈ P, 1 ≤ ln Sh p.s ∧ p.x ≤ 32 ∧ p.v < 4294967296 := fun p hp => by
      obtain ⟨q1, q2, q3⟩ := InfMath.sp_small _ _ _ hsp p hp
      have q4 : p.x ≤ 7 := by rw [q2]; unfold InfMath.extra; split; omega; split; omega; split <;> omega
      exact ⟨HOK.out.1.used p hp, by omega, Nat.lt_of_lt_of_le q3 (Nat.le_trans (Nat.pow_le_pow_right (n := 2) (by omega) q4) (by decide))⟩
    have hhl := hbits_le (L := L) (D := D) (Sh := Sh) (n := hn Sh) (P := P) HOK.out.1.n2 hbe.all fun p hp => (hx32 p hp).2.1
    rw [hpi.len_eq] at hhl
    have HX32 := Lib.hid hx32
    obtain ⟨CC, hCC⟩ : ∃ CC, CC = cst wide f K (ln fixL) (ln fixD) := ⟨_, rfl⟩
    obtain ⟨FC, hFC⟩ : ∃ FC, FC = cst wide f K (ln L) (ln D) := ⟨_, rfl⟩
    obtain ⟨HL, hHL⟩ : ∃ HL, HL = (hbits L D Sh (hn Sh) P).length := ⟨_, rfl⟩
    rw [← hCC] at hcc
    rw [← hFC] at hcf
    rw [← hHL] at hhl
    have HEQ : Hid (CC = cst wide f K (ln fixL) (ln fixD) ∧ FC = cst wide f K (ln L) (ln D) ∧ HL = (hbits L D Sh (hn Sh) P).length) := Lib.hid ⟨hCC, hFC, hHL⟩
    have HNB : Hid (CC ≤ 10000015 ∧ FC ≤ 10000015 ∧ HL ≤ 50000) := Lib.hid ⟨by have := HN.out; omega, by have := HN.out; omega, by omega⟩
    have hFz : Blk Z g1 3 (cel 286 F).toArray := Blk.later (Blk.later HF.out HC0.out) hcz
    have hGz : Blk Z g2 3 (cel 32 G).toArray := Blk.later (Blk.later HGG.out HC0.out) hcz
    have HBC := Lib.hid (bits_any (B := Y.heap.size) Z a1 a2 (some ⟨b1, 0, none⟩) (some ⟨b2, 0, none⟩) 288 32 c1 c2 288 32 fixL fixD g1 g2 XT F G (HFX.out.1.below hcz) (HFX.out.2.below hcz) hFz hGz (by rw [InfMath.fixL_len]; omega) (by rw [InfMath.fixD_len]; omega) InfMath.fixL_ok.all InfMath.fixD_ok.all HFM.out.1 HFM.out.2.1 HFM.out.2.2 _ _ rfl rfl
      (cost_small (m := 1000000) InfMath.fixL_ok.all HFM.out.1 (by omega) (by omega)) (cost_small (m := 1000000) InfMath.fixD_ok.all HFM.out.2.1 (by omega) (by omega)))
    have hsum : sm 286 (fun j => F j * ln fixL j) + sm 32 (fun j => G j * ln fixD j) + XT = CC := by rw [hCC, HFG.out.1, HFG.out.2.1, HFG.out.2.2]; rfl
    rw [hsum] at HBC
    have HFGZ := Lib.hid (And.intro hFz hGz)
    have u0 : Z.cell? ⟨b10, 0, none⟩ = some (.slice a1 288 c1) := (Blk.later HK10.out hcz).cell 0
    have u1 : Z.cell? ⟨b10, 1, none⟩ = some (.slice (some ⟨b1, 0, none⟩) 288 288) := (Blk.later HK10.out hcz).cell 1
    have u2 : Z.cell? ⟨b10, 2, none⟩ = some (.slice a2 32 c2) := (Blk.later HK10.out hcz).cell 2
    have u3 : Z.cell? ⟨b10, 3, none⟩ = some (.slice (some ⟨b2, 0, none⟩) 32 32) := (Blk.later HK10.out hcz).cell 3
    have HT9Z := Lib.hid (Blk.later (Blk.later HT9.out HC0.out) hcz)
    have z0 : Z.cell? ⟨b9, 0, none⟩ = some (.slice (some ⟨g1, 0, none⟩) 286 286) := HT9Z.out.cell 0
    have z1 : Z.cell? ⟨b9, 1, none⟩ = some (.slice (some ⟨g2, 0, none⟩) 32 32) := HT9Z.out.cell 1
    have z2 : Z.cell? ⟨b9, 2, none⟩ = some (.int .i64 (XT : Int)) := HT9Z.out.cell 2
    obtain ⟨CB, hCB, hCB2⟩ : ∃ CB : Nat, CB = 3 + CC ∧ (3 : Int) + (CC : Int) = (CB : Int) := ⟨3 + CC, rfl, by omega⟩
    have HCB := Lib.hid hCB
    have hCCb : CC ≤ 10000015 := HNB.out.1
    clear hsp hnp hbe hpi hpa hcs hb5 hok hzb hcz hnpb hL hD hLl hDl hcc hcf hx32 hhl hCC hFC hHL hFz hGz hsum hCB HHO v0 v1 v2 v3
    go_upto_region 6 with (fail)
    rw [← hZ]
    clear hZ
    obtain ⟨b12, hb12⟩ : ∃ b12, b12 = w5.heap.size := ⟨_, rfl⟩
    rw [← hb12] at HZ12 ⊢
    have HB12 : Hid (wc.heap.size ≤ b12) := Lib.hid (by rw [hb12]; exact HW5S.out)
    clear hb12
    go_wp2_with fail
    refine HBC.out.mono ?_
    rintro e W7 ⟨rfl, hb7⟩
    have HZ7 := Lib.hid hb7
    have HS7 : Hid (At7 b12 b11 b9 k1 k2 np pc_ sc sb pa sa a3 b3 c3 a4 b4 c4 g1 g2 XT W7) := Lib.hid ⟨Blk.later HZ12.out hb7, Blk.later (Blk.later HK11.out HCZ.out) hb7, Blk.later HT9Z.out hb7⟩
    have HC7 : Hid (Below wc.heap.size wc W7) := Lib.hid (HCZ.out.trans (hb7.mono HCZ.out.size))
    have HD7 : Hid (Below w5.heap.size w5 W7) := Lib.hid (HDZ.out.trans (hb7.mono HDZ.out.size))
    have HHDR : Hid (∀ w' g' r', Below W7.heap.size W7 w' → g' < wc.heap.size → (∀ k, r' = some k → k < wc.heap.size) → Hd B w' g' r' pa sa (some ⟨sb, 0, none⟩) np pc_ sc 19 Sh P) := Lib.hid fun w' g' r' hb hg hr => by
      have hd := HD7.out.trans (hb.mono HD7.out.size)
      have hc := HC7.out.trans (hb.mono HC7.out.size)
      have hw := HWC.out.trans (hc.mono HWC.out.size)
      refine ⟨(HHD.out.2.2.2.2.2.below hd).cd (by omega) hg hr, HHD.out.2.2.2.1.below hd, fun b off e => ?_, HT.out.below hw HBH.out.1⟩
      obtain ⟨h3, h4⟩ := HHD.out.2.2.2.2.1 b off e
      refine ⟨Nat.lt_of_lt_of_le h4 hd.size, ?_⟩
      rintro (e2 | e2)
      · omega
      · have := hr b e2; omega
    have HHB : Hid (∀ w', Below W7.heap.size W7 w' → Calls Tryz.prog 40 #[.agg #[.int .i64 (k1 : Int), .int .i64 (k2 : Int), .slice pa np pc_, .slice sa 19 sc, .slice (some ⟨sb, 0, none⟩) 19 19]] w' fun e w'' => e = .returned (.int .i64 (HL : Int)) ∧ Below w'.heap.size w' w'') := Lib.hid fun w' hb => by
      have h9 := hbits_any B 0 none pa sa (some ⟨sb, 0, none⟩) np pc_ sc 19 k1 k2 Sh P L D w' (HHDR.out w' 0 none hb (by have := HBH.out.2.1; have := HWC.out.size; omega) (fun k e => by cases e)) (by have := HBH.out.1; have := HWC.out.size; have := HC7.out.size; have := hb.size; omega) HHD.out.2.2.1.all HHD.out.2.2.1.le HX32.out HLD.out.1 HLD.out.2 (by have := HOK.out.1.l1; have := HLD.out.1; omega) hk1.2 hk2.1 hk2.2 (by have := HNP.out; omega) (by rw [← HEQ.out.2.2]; have := HNB.out.2.2; omega)
      rw [← HEQ.out.2.2] at h9
      exact h9
    have HBT : Hid (∀ w', Below W7.heap.size W7 w' → Calls Tryz.prog 39 #[.agg #[.slice a3 k1 c3, .slice (some ⟨b3, 0, none⟩) k1 286, .slice a4 k2 c4, .slice (some ⟨b4, 0, none⟩) k2 32], .agg #[.slice (some ⟨g1, 0, none⟩) 286 286, .slice (some ⟨g2, 0, none⟩) 32 32, .int .i64 (XT : Int)]] w' fun e w'' => e = .returned (.int .i64 (FC : Int)) ∧ Below w'.heap.size w' w'') := Lib.hid fun w' hb => by
      have hc := HC7.out.trans (hb.mono HC7.out.size)
      have h9 := bits_any (B := Y.heap.size) w' a3 a4 (some ⟨b3, 0, none⟩) (some ⟨b4, 0, none⟩) k1 k2 c3 c4 286 32 L D g1 g2 XT F G (HOO.out.1.below hc) (HOO.out.2.below hc) (Blk.later (Blk.later HF.out HC0.out) hc) (Blk.later (Blk.later HGG.out HC0.out) hc) (by rw [HLD.out.1]; omega) (by rw [HLD.out.2]; omega) HOK.out.2.1.all HOK.out.2.2.1.all HFM.out.1 HFM.out.2.1 HFM.out.2.2 _ _ rfl rfl
        (cost_small (m := 1000000) HOK.out.2.1.all HFM.out.1 (by omega) (by omega)) (cost_small (m := 1000000) HOK.out.2.2.1.all HFM.out.2.1 (by omega) (by omega))
      have hsum : sm 286 (fun j => F j * ln L j) + sm 32 (fun j => G j * ln D j) + XT = FC := by rw [HEQ.out.2.1, HFG.out.1, HFG.out.2.1, HFG.out.2.2]; rfl
      rw [hsum] at h9
      exact h9
    obtain ⟨FB, hFB⟩ : ∃ FB : Nat, FB = 3 + HL + FC := ⟨_, rfl⟩
    have HADD : Hid (IntKind.i64.wrap (3 + (HL : Int)) = 3 + (HL : Int) ∧ IntKind.i64.wrap (3 + (HL : Int) + (FC : Int)) = (FB : Int)) := Lib.hid ⟨IntWalk.i64_in _ (by have := HNB.out; omega), by rw [IntWalk.i64_in _ (by have := HNB.out; omega)]; omega⟩
    have HFB := Lib.hid hFB
    clear hb7 hFB HBC u0 u1 u2 u3 z0 z1 z2
    go_upto_region 7 with (fail)
    refine act_named fun A0 hA0 => ?_
    have hz0 : A0.tmps.size = 89 := by rw [hA0]; rfl
    have e12 : A0.eval (.tmp 12) = .pointer (some ⟨b12, 0, none⟩) := by rw [hA0]; rfl
    have e11 : A0.eval (.tmp 11) = .pointer (some ⟨b11, 0, none⟩) := by rw [hA0]; rfl
    have e9 : A0.eval (.tmp 9) = .pointer (some ⟨b9, 0, none⟩) := by rw [hA0]; rfl
    refine wp_region_held (S := At7 b12 b11 b9 k1 k2 np pc_ sc sb pa sa a3 b3 c3 a4 b4 c4 g1 g2 XT) (by kernel_rfl) ?_
    refine ord_step (i := 0) (d := some 38) (.agg #[.int .i64 (k1 : Int), .int .i64 (k2 : Int), .slice pa np pc_, .slice sa 19 sc, .slice (some ⟨sb, 0, none⟩) 19 19]) rfl (by kernel_rfl) (by kernel_rfl) (by kernel_rfl) (by kernel_rfl) (fun _ _ _ h => h) rfl HS7.out (fun w' h => x_ldhdr (.tmp 12) rfl e12 h.1 info_hdr) fun A1 hA1 => ?_
    have hz1 := sz_put hA1 hz0
    have f11_1 := ev_ne hA1 e11 (by decide)
    have f9_1 := ev_ne hA1 e9 (by decide)
    have f38_1 := ev_eq hA1 hz0 (by decide)
    refine ord_step (i := 3) (d := some 41) (.agg #[.slice a3 k1 c3, .slice (some ⟨b3, 0, none⟩) k1 286, .slice a4 k2 c4, .slice (some ⟨b4, 0, none⟩) k2 32]) rfl (by kernel_rfl) (by kernel_rfl) (by kernel_rfl) (by kernel_rfl) (fun _ _ _ h => h) rfl HS7.out (fun w' h => x_ldcds (.tmp 11) rfl f11_1 h.2.1 info_codes) fun A2 hA2 => ?_
    have hz2 := sz_put hA2 hz1
    have f9_2 := ev_ne hA2 f9_1 (by decide)
    have f38_2 := ev_ne hA2 f38_1 (by decide)
    have f41_2 := ev_eq hA2 hz1 (by decide)
    refine ord_step (i := 4) (d := some 42) (.agg #[.slice (some ⟨g1, 0, none⟩) 286 286, .slice (some ⟨g2, 0, none⟩) 32 32, .int .i64 (XT : Int)]) rfl (by kernel_rfl) (by kernel_rfl) (by kernel_rfl) (by kernel_rfl) (fun _ _ _ h => h) rfl HS7.out (fun w' h => x_ldtal (.tmp 9) rfl f9_2 h.2.2) fun A3 hA3 => ?_
    have hz3 := sz_put hA3 hz2
    have f38_3 := ev_ne hA3 f38_2 (by decide)
    have f41_3 := ev_ne hA3 f41_2 (by decide)
    have f42_3 := ev_eq hA3 hz2 (by decide)
    refine ord_lone (i := 1) rfl (by kernel_rfl) rfl (wp_enter (d := some 39) rfl (x_hb rfl f38_3) (HHB.out W7.drew (Below.refl _ _).drew) ?_)
    rintro e w8 ⟨rfl, hb8⟩
    have HB8 : Hid (Below W7.heap.size W7 w8) := Lib.hid ((Below.refl _ _).drew.trans hb8)
    clear hb8
    have hS8 : At7 b12 b11 b9 k1 k2 np pc_ sc sb pa sa a3 b3 c3 a4 b4 c4 g1 g2 XT w8 := HS7.out.later HB8.out
    refine ⟨_, rfl, act_name_and hS8 fun A4 hA4 => ?_⟩
    have hz4 := sz_put hA4 hz3
    have f41_4 := ev_ne hA4 f41_3 (by decide)
    have f42_4 := ev_ne hA4 f42_3 (by decide)
    have f39_4 := ev_eq hA4 hz3 (by decide)
    refine ord_step (i := 2) (d := some 40) (.int .i64 (3 + (HL : Int))) rfl (by kernel_rfl) (by kernel_rfl) (by kernel_rfl) (by kernel_rfl) (fun _ _ _ h => h) rfl hS8 (fun w' h => x_add3 (.tmp 39) rfl f39_4 HADD.out.1) fun A5 hA5 => ?_
    have hz5 := sz_put hA5 hz4
    have f41_5 := ev_ne hA5 f41_4 (by decide)
    have f42_5 := ev_ne hA5 f42_4 (by decide)
    have f40_5 := ev_eq hA5 hz4 (by decide)
    refine ord_lone (i := 5) rfl (by kernel_rfl) rfl (wp_enter (d := some 43) rfl (x_bits rfl f41_5 f42_5) (HBT.out w8 HB8.out) ?_)
    rintro e w9 ⟨rfl, hb9⟩
    have HB9 : Hid (Below W7.heap.size W7 w9) := Lib.hid (HB8.out.trans (hb9.mono HB8.out.size))
    clear hb9
    have hS9 : At7 b12 b11 b9 k1 k2 np pc_ sc sb pa sa a3 b3 c3 a4 b4 c4 g1 g2 XT w9 := HS7.out.later HB9.out
    refine ⟨_, rfl, act_name_and hS9 fun A6 hA6 => ?_⟩
    have hz6 := sz_put hA6 hz5
    have f40_6 := ev_ne hA6 f40_5 (by decide)
    have f43_6 := ev_eq hA6 hz5 (by decide)
    refine ord_step (i := 6) (d := some 44) (.int .i64 (FB : Int)) rfl (by kernel_rfl) (by kernel_rfl) (by kernel_rfl) (by kernel_rfl) (fun _ _ _ h => h) rfl hS9 (fun w' h => x_addi (.tmp 40) (.tmp 43) rfl f40_6 f43_6 HADD.out.2) fun A7 hA7 => ?_
    have hz7 := sz_put hA7 hz6
    have f44_7 := ev_eq hA7 hz6 (by decide)
    refine ord_step (i := 7) (d := some 14) (.int .i64 (FB : Int)) rfl (by kernel_rfl) (by kernel_rfl) (by kernel_rfl) (by kernel_rfl) (fun _ _ _ h => h) rfl hS9 (fun w' h => x_assign (.tmp 44) rfl f44_7) fun A8 hA8 => ?_
    have hz8 := sz_put hA8 hz7
    refine wpAnyH_done (by kernel_rfl) ?_ _
    have ea := hA8
    rw [hA7, hA6, hA5, hA4, hA3, hA2, hA1, hA0] at ea
    simp only [put_lit, List.set_cons_succ, List.set_cons_zero] at ea
    rw [ea]
    clear hA0 hA1 hA2 hA3 hA4 hA5 hA6 hA7 hA8 hz0 hz1 hz2 hz3 hz4 hz5 hz6 hz7 hz8 ea e12 e11 e9 hS8 hS9 HB8
    have HW9 : Hid (Below w.heap.size w w9) := Lib.hid (HWC.out.trans ((HC7.out.trans (HB9.out.mono HC7.out.size)).mono HWC.out.size))
    have HLN := Lib.hid (len_any B g r bs w9 (HWR.out.below HW9.out) (by have := HBL.out; omega))
    go_wp2_with fail
    refine HLN.out.mono ?_
    rintro e w9' ⟨rfl, nd, rfl⟩
    have hdn : Below w9.heap.size w9 (w9.drewN nd) := ⟨rfl, rfl, rfl, Nat.le_refl _, fun _ _ => rfl⟩
    have HSZ := Lib.hid (size_all a K c f (w9.drewN nd) ((H.out.below (Nat.le_refl _) HW9.out).below (Nat.le_refl _) hdn))
    have hcap : LzC.cap f K = tot f K := by unfold LzC.cap; have := HTT.out; omega
    rw [hcap] at HSZ
    have HDN := Lib.hid hdn
    have htb : tot f K ≤ 1000000 := HTT.out
    obtain ⟨TT, hTT⟩ : ∃ TT, TT = tot f K := ⟨_, rfl⟩
    rw [← hTT] at HSZ htb
    have HTE := Lib.hid hTT
    clear hcap hdn hTT HLN
    go_wp2_with fail
    refine HSZ.out.mono ?_
    rintro e w10 ⟨rfl, hb10⟩
    have HB10 : Hid (Below w9.heap.size w9 w10) := Lib.hid (HDN.out.trans (hb10.mono HDN.out.size))
    have HSB := Lib.hid (storedBits_any bs.length TT w10 (by have := HBL.out; omega) htb)
    obtain ⟨SB, hSB⟩ : ∃ SB, SB = 3 + gap bs.length + 8 * (sto TT - 1) := ⟨_, rfl⟩
    rw [← hSB] at HSB
    have HSE := Lib.hid hSB
    obtain ⟨MB, hMB, hmin⟩ : ∃ MB : Nat, MB = min CB FB ∧ (if FB < CB then (FB : Int) else (CB : Int)) = (MB : Int) := ⟨min CB FB, rfl, by split <;> omega⟩
    have HMB := Lib.hid hMB
    have HBX : Hid (∀ X, (X = if SB < MB then stbs bs.length (ex f K) last else if CB ≤ FB then lows 3 (bn 1 last) ++ blk fixL fixD wide f K else lows 3 (bn 2 last) ++ (hbits L D Sh (hn Sh) P ++ blk L D wide f K)) → Bits wide bs.length f K last X) := Lib.hid (by
      intro X hX
      refine HBI.out X ?_
      rw [hX, HMB.out, HSE.out, HTE.out, HFB.out, HCB.out, HEQ.out.1, HEQ.out.2.1, HEQ.out.2.2])
    have HW10 : Hid (Below w.heap.size w w10) := Lib.hid (HW9.out.trans (HB10.out.mono HW9.out.size))
    have HW7 : Hid (Below W7.heap.size W7 w10) := Lib.hid (HB9.out.trans (HB10.out.mono HB9.out.size))
    have HC10 : Hid (Below wc.heap.size wc w10) := Lib.hid (HC7.out.trans (HW7.out.mono HC7.out.size))
    have HRX : Hid (rfx wide f K = CB) := Lib.hid (by rw [rfx_cst HM.out, HCB.out, HEQ.out.1])
    have HWR10 := Lib.hid (HWR.out.below HW10.out)
    have HGW : Hid (g < wc.heap.size ∧ ∀ k, r = some k → k < wc.heap.size) := Lib.hid ⟨by have := HBH.out.2.1; have := HWC.out.size; omega, fun k hk => by have := HBH.out.2.2 k hk; have := HWC.out.size; omega⟩
    clear hb10 hSB hMB HSZ HDN
    go_wp2_with fail
    refine HSB.out.mono ?_
    rintro e w10' ⟨rfl, rfl⟩
    by_cases hlt : SB < MB
    · go_wp2_with fail
      refine (expand_all wide a K c f K w10 (H.out.below (Nat.le_refl _) HW10.out) HEE.out HTT.out).mono ?_
      rintro e w11 ⟨hb11, hcase⟩
      obtain ⟨a5, c5, he, hown⟩ : ∃ a5 c5, e = .returned (.tuple #[.slice a5 TT c5, .int .i64 0, .int .i64 0]) ∧ Go.My.Own 5 w10.heap.size w11 (.slice a5 TT c5) (ex f K) := by
        rw [HTE.out]
        rcases hcase with ⟨-, a5, c5, h1, h2⟩ | ⟨h1, -⟩
        · exact ⟨a5, c5, h1, h2⟩
        · omega
      clear hcase
      subst he
      have hlen := LzMath.ex_len f K
      rw [← HTE.out] at hlen
      obtain ⟨X5, hX5⟩ : ∃ X5, X5 = ex f K := ⟨_, rfl⟩
      rw [← hX5] at hlen hown
      have hby : Bytes w11 a5 TT c5 X5 := by
        obtain ⟨a6, c6, e6, hby⟩ := hown.bytes
        injection e6 with e6a e6b e6c
        rw [e6a, e6c]
        rw [hlen] at hby
        exact hby
      have HW11 : Hid (Below w.heap.size w w11) := Lib.hid (HW10.out.trans (hb11.mono HW10.out.size))
      have HSTO := Lib.hid (store_any B g r bs X5 last a5 TT c5 w11 (by omega) (HWR10.out.below hb11) (by have := HBL.out; omega) hby (fun _ b off e => by
        subst e
        have h3 := (World.ownsRow.lt hown b rfl).1
        have h4 := HW10.out.size
        rintro (e | e)
        · have := HBH.out.2.1; omega
        · have := HBH.out.2.2 b e; omega))
      have HX5 := Lib.hid hX5
      have HSL : Hid ((stbs bs.length (ex f K) last).length = SB) := Lib.hid (by
        rw [InfMath.stbs_len _ bs.length (ex f K) last (Nat.le_refl _), ← hX5, hlen, HSE.out]
        rfl)
      have HLN := Lib.hid hlen
      clear hb11 hown hby hlen hX5
      go_wp2_with fail
      refine HSTO.out.mono ?_
      rintro e w12 ⟨r12, rfl, hw12, ho12, hn12⟩
      rw [HX5.out] at hw12
      go_wp2_with fail
      go_ret
      refine .inr ⟨rfl, rfl, stbs bs.length (ex f K) last, r12, hw12, (Only.of_below HW11.out _).next (Nxt.refl _ _) ho12, (Nxt.refl r w.heap.size).trans hn12 HW11.out.size, InfMath.Rd.stored wide last _ _ _ (Nat.le_refl _), ?_, ?_, ?_⟩
      · rw [HSL.out, HRX.out]; have := HMB.out; omega
      · rw [HSL.out, HSE.out, HTE.out]; exact Nat.le_refl _
      · exact HBX.out _ (by rw [if_pos hlt])
    · have hY10 := HC0.out.size
      have HGY : Hid (g < Y.heap.size ∧ ∀ k, r = some k → k < Y.heap.size) := Lib.hid ⟨by have := HBH.out.2.1; have := HB2.out.size; omega, fun k hk => by have := HBH.out.2.2 k hk; have := HB2.out.size; omega⟩
      have HNF : Hid (∀ b, Y.heap.size ≤ b → ¬ Fp g r b) := Lib.hid fun b hb => by
        rintro (e | e)
        · have := HGY.out.1; omega
        · have := HGY.out.2 b e; omega
      have HT10 := Lib.hid (H.out.below (Nat.le_refl _) HW10.out)
      have HSP1 : Hid (∀ r1, Nxt r w10.heap.size r1 → 0 < K → ∀ b off, a = some ⟨b, off, none⟩ → ¬ Fp g r1 b) := Lib.hid fun r1 hn1 h0 b off e => by
        obtain ⟨b', off', ha, ho'⟩ := HT10.out.get h0
        rw [e] at ha
        injection ha with ha
        injection ha with e1 _
        subst e1
        exact fp_next ho'.lt (HSP.out h0 b off e) hn1
      by_cases hle : CB ≤ FB
      · go_wp2_with fail
        refine (begin_any B g r bs 1 last w10 (by omega) HWR10.out (by have := HBL.out; omega)).mono ?_
        rintro e w11 ⟨r11, rfl, hw11, ho11, hn11⟩
        have HK := Lib.hid (ho11.blk (Blk.later HK10.out HC10.out) (HNF.out b10 HBB.out.1))
        have u0 : w11.cell? ⟨b10, 0, none⟩ = some (.slice a1 288 c1) := HK.out.cell 0
        have u1 : w11.cell? ⟨b10, 1, none⟩ = some (.slice (some ⟨b1, 0, none⟩) 288 288) := HK.out.cell 1
        have u2 : w11.cell? ⟨b10, 2, none⟩ = some (.slice a2 32 c2) := HK.out.cell 2
        have u3 : w11.cell? ⟨b10, 3, none⟩ = some (.slice (some ⟨b2, 0, none⟩) 32 32) := HK.out.cell 3
        have HCS := Lib.hid (csput_any B g r11 (bs ++ lows 3 (bn 1 last)) a1 (some ⟨b1, 0, none⟩) a2 (some ⟨b2, 0, none⟩) 288 c1 288 32 c2 32 fixL fixD wide a K c f w11
          (((HFX.out.1.below HC10.out).cd (by omega) HGY.out.1 HGY.out.2).next ho11 hn11) (((HFX.out.2.below HC10.out).cd (by omega) HGY.out.1 HGY.out.2).next ho11 hn11) InfMath.fixL_ok InfMath.fixD_ok (tok_only HT10.out ho11 HSP.out) (HSP1.out r11 hn11) HM.out (fun i hi => InfMath.fix_used HG.out hi) (InfMath.fixL_ln ⟨256, by omega⟩) (by have := HN.out; omega) hw11 (by rw [List.length_append, lows_len]; have := HBL.out; omega))
        have HO11 : Hid (Only (Fp g r) w w11 ∧ Nxt r w.heap.size r11) := Lib.hid ⟨(Only.of_below HW10.out _).next (Nxt.refl _ _) ho11, (Nxt.refl r w.heap.size).trans hn11 HW10.out.size⟩
        clear hw11 ho11 hn11
        go_wp2_with fail
        refine HCS.out.mono ?_
        rintro e w12 ⟨r12, rfl, hw12, ho12, hn12⟩
        have HXL : Hid ((lows 3 (bn 1 last) ++ blk fixL fixD wide f K).length = CB) := Lib.hid (by
          unfold blk
          rw [List.length_append, lows_len, InfMath.blk_cost fixL fixD wide f K HM.out, ← HEQ.out.1, HCB.out])
        go_wp2_with fail
        go_ret
        refine .inr ⟨rfl, rfl, lows 3 (bn 1 last) ++ blk fixL fixD wide f K, r12, by rw [← List.append_assoc]; exact hw12, HO11.out.1.next HO11.out.2 ho12, HO11.out.2.trans hn12 HO11.out.1.size, InfMath.Rd.fixed HG.out, ?_, ?_, ?_⟩
        · rw [HXL.out, HRX.out]; exact Nat.le_refl _
        · rw [HXL.out]; have h1 := HSE.out; have h2 := HMB.out; rw [HTE.out] at h1; omega
        · exact HBX.out _ (by rw [if_neg hlt, if_pos hle])
      · go_wp2_with fail
        refine (begin_any B g r bs 2 last w10 (by omega) HWR10.out (by have := HBL.out; omega)).mono ?_
        rintro e w11 ⟨r11, rfl, hw11, ho11, hn11⟩
        have HK12 := Lib.hid (ho11.blk (Blk.later HS7.out.1 HW7.out) (HNF.out b12 (by have := HB12.out; omega)))
        have HK1 := Lib.hid (ho11.blk (Blk.later HK11.out HC10.out) (HNF.out b11 HBB.out.2))
        have y0 : w11.cell? ⟨b12, 0, none⟩ = some (.int .i64 (k1 : Int)) := HK12.out.cell 0
        have y1 : w11.cell? ⟨b12, 1, none⟩ = some (.int .i64 (k2 : Int)) := HK12.out.cell 1
        have y2 : w11.cell? ⟨b12, 2, none⟩ = some (.slice pa np pc_) := HK12.out.cell 2
        have y3 : w11.cell? ⟨b12, 3, none⟩ = some (.slice sa 19 sc) := HK12.out.cell 3
        have y4 : w11.cell? ⟨b12, 4, none⟩ = some (.slice (some ⟨sb, 0, none⟩) 19 19) := HK12.out.cell 4
        have HPUT := Lib.hid (hput_any B g r11 (bs ++ lows 3 (bn 2 last)) pa sa (some ⟨sb, 0, none⟩) np pc_ sc 19 k1 k2 Sh P L D w11 ((HHDR.out w10 g r HW7.out HGW.out.1 HGW.out.2).next HWR10.out ho11 hn11) HHD.out.2.2.1.all HHD.out.2.2.1.le HX32.out HLD.out.1 HLD.out.2 (by have := HOK.out.1.l1; have := HLD.out.1; omega) hk1.2 hk2.1 hk2.2 (by have := HNP.out; omega) hw11 (by rw [List.length_append, lows_len]; have := HBL.out; omega))
        have HO11 : Hid (Only (Fp g r) w w11 ∧ Nxt r w.heap.size r11) := Lib.hid ⟨(Only.of_below HW10.out _).next (Nxt.refl _ _) ho11, (Nxt.refl r w.heap.size).trans hn11 HW10.out.size⟩
        have HCD1 := Lib.hid (((HOO.out.1.below HC10.out).cd hk1.1 HGY.out.1 HGY.out.2).next ho11 hn11)
        have HCD2 := Lib.hid (((HOO.out.2.below HC10.out).cd hk2.1 HGY.out.1 HGY.out.2).next ho11 hn11)
        have HNF1 : Hid (¬ Fp g r11 b11 ∧ b11 < w11.heap.size) := Lib.hid ⟨fp_next (Blk.later HK11.out HC10.out).lt (HNF.out b11 HBB.out.2) hn11, HK1.out.lt⟩
        have HT11 := Lib.hid (tok_only HT10.out ho11 HSP.out)
        have HN11 := Lib.hid hn11
        have HS10 : Hid (w10.heap.size ≤ w11.heap.size) := Lib.hid ho11.size
        clear hw11 ho11 hn11
        go_wp2_with fail
        refine HPUT.out.mono ?_
        rintro e w12 ⟨r12, rfl, hw12, ho12, hn12⟩
        have HK2 := Lib.hid (ho12.blk HK1.out HNF1.out.1)
        have u0 : w12.cell? ⟨b11, 0, none⟩ = some (.slice a3 k1 c3) := HK2.out.cell 0
        have u1 : w12.cell? ⟨b11, 1, none⟩ = some (.slice (some ⟨b3, 0, none⟩) k1 286) := HK2.out.cell 1
        have u2 : w12.cell? ⟨b11, 2, none⟩ = some (.slice a4 k2 c4) := HK2.out.cell 2
        have u3 : w12.cell? ⟨b11, 3, none⟩ = some (.slice (some ⟨b4, 0, none⟩) k2 32) := HK2.out.cell 3
        have HN12 : Hid (Nxt r w10.heap.size r12) := Lib.hid (HN11.out.trans hn12 HS10.out)
        have HCS := Lib.hid (csput_any B g r12 (bs ++ lows 3 (bn 2 last) ++ hbits L D Sh (hn Sh) P) a3 (some ⟨b3, 0, none⟩) a4 (some ⟨b4, 0, none⟩) k1 c3 286 k2 c4 32 L D wide a K c f w12
          (HCD1.out.next ho12 hn12) (HCD2.out.next ho12 hn12) HOK.out.2.1 HOK.out.2.2.1 (tok_only HT11.out ho12 (HSP1.out r11 HN11.out)) (HSP1.out r12 HN12.out) HM.out HOK.out.2.2.2.1 HOK.out.2.2.2.2 (by have := HN.out; omega) hw12 (by rw [List.length_append, List.length_append, lows_len, ← HEQ.out.2.2]; have := HBL.out; have := HNB.out.2.2; omega))
        have HO12 : Hid (Only (Fp g r) w w12 ∧ Nxt r w.heap.size r12) := Lib.hid ⟨HO11.out.1.next HO11.out.2 ho12, HO11.out.2.trans hn12 HO11.out.1.size⟩
        clear hw12 ho12 hn12 y0 y1 y2 y3 y4
        go_wp2_with fail
        refine HCS.out.mono ?_
        rintro e w13 ⟨r13, rfl, hw13, ho13, hn13⟩
        have HXL : Hid ((lows 3 (bn 2 last) ++ (hbits L D Sh (hn Sh) P ++ blk L D wide f K)).length = FB) := Lib.hid (by
          unfold blk
          rw [List.length_append, List.length_append, lows_len, InfMath.blk_cost L D wide f K HM.out, ← HEQ.out.2.1, ← HEQ.out.2.2, HFB.out]
          omega)
        go_wp2_with fail
        go_ret
        refine .inr ⟨rfl, rfl, lows 3 (bn 2 last) ++ (hbits L D Sh (hn Sh) P ++ blk L D wide f K), r13, by rw [← List.append_assoc, ← List.append_assoc]; exact hw13, HO12.out.1.next HO12.out.2 ho13, HO12.out.2.trans hn13 HO12.out.1.size, InfMath.Rd.own HOK.out.1 HOK.out.2.1 HOK.out.2.2.1 HG.out HOK.out.2.2.2.1 HOK.out.2.2.2.2, ?_, ?_, ?_⟩
        · rw [HXL.out, HRX.out]; omega
        · rw [HXL.out]; have h1 := HSE.out; have h2 := HMB.out; rw [HTE.out] at h1; omega
        · exact HBX.out _ (by rw [if_neg hlt, if_neg hle])
end Go.Proofs.YtbjjkhlebdaoaaaGreatDoor.BlkC
end
