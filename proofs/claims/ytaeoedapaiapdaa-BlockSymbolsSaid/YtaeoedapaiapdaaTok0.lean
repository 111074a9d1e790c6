/-
  Tokens in memory; a row of tokens that the call makes (without packages lz, stevedoreref5).
-/
import Derived.Test.YtaeoedapaiapdaaRows
import Derived.Test.YtaeoedapaiapdaaRefOwn
import Derived.Test.YtaeoedapaiapdaaOwnB
import Derived.Test.YtaeoedapaiapdaaLzMath
import Derived.Laws.Pointers
import Derived.StillTailTactics
import Derived.Deep.RegionLaw
import Derived.Deep.DeepCutAuto
import Derived.Deep.CutBlock
namespace Go.Proofs.Ytaeoedapaiapdaa.LzC
open Go.RowKit Go.My LzMath WinMath

/-- A token's three cells, and its value. -/
def tc (t : Tok) : Array Value := #[.int .i64 t.len, .int .i64 t.dist, .int .u8 (t.byte.toNat : Int)]
def Wf (t : Tok) : Prop := (-9223372036854775808 ≤ t.len ∧ t.len ≤ 9223372036854775807) ∧ -9223372036854775808 ≤ t.dist ∧ t.dist ≤ 9223372036854775807

theorem byte_cases (b : UInt8) : (b = 0 ∧ (b.toNat : Int) = 0) ∨ (b ≠ 0 ∧ ¬ (b.toNat : Int) = 0) := by
  by_cases h : b = 0
  · subst h; exact .inl ⟨rfl, rfl⟩
  · exact .inr ⟨h, fun e => h (by apply UInt8.toNat_inj.1; simp; omega)⟩
/-- The ways that a token goes that is no literal. -/
theorem may_ways {wide : Bool} {l d L D : Int} {b : UInt8} (hL : ml wide = L) (hD : (md wide : Int) = D) (hl : ¬ Lone ⟨l, d, b⟩) :
    (∃ k : Bool, (l == 0) = k ∧ (k = true → (d == 0) = false)) ∧ (((b.toNat : Int) == 0) = false ∧ decide (May wide ⟨l, d, b⟩) = false ∨ ((b.toNat : Int) == 0) = true ∧ (¬ 3 ≤ l ∧ decide (May wide ⟨l, d, b⟩) = false ∨ 3 ≤ l ∧ (¬ l ≤ L ∧ decide (May wide ⟨l, d, b⟩) = false ∨ l ≤ L ∧ (¬ 1 ≤ d ∧ decide (May wide ⟨l, d, b⟩) = false ∨ 1 ≤ d ∧ (¬ d ≤ D ∧ decide (May wide ⟨l, d, b⟩) = false ∨ d ≤ D ∧ decide (May wide ⟨l, d, b⟩) = true))))) := by
  have e : May wide ⟨l, d, b⟩ ↔ b = 0 ∧ 3 ≤ l ∧ l ≤ L ∧ 1 ≤ d ∧ d ≤ D := by
    rw [← hL, ← hD]; unfold May; simp only [hl, false_or]; rfl
  have hnl : ¬ (l = 0 ∧ d = 0) := hl
  refine ⟨⟨l == 0, rfl, fun h => ?_⟩, ?_⟩
  · simp only [beq_iff_eq] at h
    simp only [beq_eq_false_iff_ne]
    exact fun h2 => hnl ⟨h, h2⟩
  · simp only [decide_eq_false_iff_not, decide_eq_true_eq, e, beq_iff_eq, beq_eq_false_iff_ne]
    rcases byte_cases b with ⟨h1, h2⟩ | ⟨h1, h2⟩
    · refine .inr ⟨h2, ?_⟩
      by_cases h3 : 3 ≤ l
      · refine .inr ⟨h3, ?_⟩
        by_cases h4 : l ≤ L
        · refine .inr ⟨h4, ?_⟩
          by_cases h5 : 1 ≤ d
          · refine .inr ⟨h5, ?_⟩
            by_cases h6 : d ≤ D
            · exact .inr ⟨h6, h1, h3, h4, h5, h6⟩
            · exact .inl ⟨h6, fun h => h6 h.2.2.2.2⟩
          · exact .inl ⟨h5, fun h => h5 h.2.2.2.1⟩
        · exact .inl ⟨h4, fun h => h4 h.2.2.1⟩
      · exact .inl ⟨h3, fun h => h3 h.2.1⟩
    · exact .inl ⟨h2, fun h => h1 h.1⟩

/-- Token number i of the slice that begins at (b, off). -/
structure TokAt (w : World) (b off i : Nat) (t : Tok) : Prop where
  len : w.cell? ⟨b, off + i * 3, none⟩ = some (.int .i64 t.len)
  dist : w.cell? ⟨b, off + i * 3 + 1, none⟩ = some (.int .i64 t.dist)
  byte : w.cell? ⟨b, off + i * 3 + 2, none⟩ = some (.int .u8 (t.byte.toNat : Int))
  lt : b < w.heap.size
  wf : Wf t
/-- A slice of tokens. -/
structure TokIn (w : World) (a : Option Addr) (len cap : Nat) (f : Nat → Tok) : Prop where
  le_cap : len ≤ cap
  cap_le : cap ≤ 9223372036854775807
  nil : a = none → len = 0 ∧ cap = 0
  at_ : len = 0 ∨ ∃ b off, a = some ⟨b, off, none⟩ ∧ ∀ i, i < len → TokAt w b off i (f i)
section
variable {w w' : World} {a : Option Addr} {b off i len cap B : Nat} {t : Tok} {f : Nat → Tok}
theorem TokAt.below (h : TokAt w b off i t) (hB : w.heap.size ≤ B) (hb : Below B w w') : TokAt w' b off i t := by
  have hc : ∀ k, w'.cell? ⟨b, k, none⟩ = w.cell? ⟨b, k, none⟩ := fun k => hb.cell (p := ⟨b, k, none⟩) (Nat.lt_of_lt_of_le h.lt hB)
  exact ⟨by rw [hc]; exact h.len, by rw [hc]; exact h.dist, by rw [hc]; exact h.byte, Nat.lt_of_lt_of_le h.lt hb.size, h.wf⟩
theorem TokIn.below (h : TokIn w a len cap f) (hB : w.heap.size ≤ B) (hb : Below B w w') : TokIn w' a len cap f := by
  refine ⟨h.le_cap, h.cap_le, h.nil, h.at_.imp_right ?_⟩
  rintro ⟨b, off, ha, hc⟩
  exact ⟨b, off, ha, fun i hi => (hc i hi).below hB hb⟩
theorem TokIn.get (h : TokIn w a len cap f) (hi : i < len) : ∃ b off, a = some ⟨b, off, none⟩ ∧ TokAt w b off i (f i) := by
  rcases h.at_ with h0 | ⟨b, off, ha, hc⟩
  · omega
  · exact ⟨b, off, ha, hc i hi⟩
end
theorem infoT : (Try.prog.info? 44).map (fun i => (i.zero, i.size, i.bytes)) = some (some (.agg #[.int .i64 0, .int .i64 0, .int .u8 0]), 3, 24) := by kernel_rfl

/-- The cells of n tokens. -/
def toks (f : Nat → Tok) : Nat → List Value
  | 0 => []
  | k + 1 => toks f k ++ [.int .i64 (f k).len, .int .i64 (f k).dist, .int .u8 ((f k).byte.toNat : Int)]
theorem toks_len (f : Nat → Tok) (n : Nat) : (toks f n).length = n * 3 := by
  induction n with
  | zero => rfl
  | succ n ih => show (toks f n ++ _).length = _; rw [List.length_append, ih]; simp; omega
theorem toks_get (f : Nat → Tok) (n i : Nat) (hi : i < n) : (toks f n)[i * 3]? = some (.int .i64 (f i).len) ∧ (toks f n)[i * 3 + 1]? = some (.int .i64 (f i).dist) ∧ (toks f n)[i * 3 + 2]? = some (.int .u8 ((f i).byte.toNat : Int)) := by
  induction n with
  | zero => omega
  | succ n ih =>
    have hl := toks_len f n
    show (toks f n ++ _)[i * 3]? = _ ∧ (toks f n ++ _)[i * 3 + 1]? = _ ∧ (toks f n ++ _)[i * 3 + 2]? = _
    by_cases h : i < n
    · rw [List.getElem?_append_left (by omega), List.getElem?_append_left (by omega), List.getElem?_append_left (by omega)]
      exact ih h
    · obtain rfl : i = n := by omega
      rw [List.getElem?_append_right (by omega), List.getElem?_append_right (by omega), List.getElem?_append_right (by omega), hl]
      rw [show i * 3 - i * 3 = 0 from by omega, show i * 3 + 1 - i * 3 = 1 from by omega, show i * 3 + 2 - i * 3 = 2 from by omega]
      exact ⟨rfl, rfl, rfl⟩
theorem toks_congr (f g : Nat → Tok) (n : Nat) (h : ∀ i, i < n → f i = g i) : toks f n = toks g n := by
  induction n with
  | zero => rfl
  | succ n ih => show toks f n ++ _ = toks g n ++ _; rw [ih (fun i hi => h i (by omega)), h n (by omega)]
theorem toks_join (f g : Nat → Tok) (n m : Nat) : toks (LzMath.join f n g) (n + m) = toks f n ++ toks g m := by
  induction m with
  | zero => show toks _ n = _ ++ []; rw [List.append_nil]; exact toks_congr _ _ _ (fun i hi => join_left hi)
  | succ m ih => show toks _ (n + m) ++ [.int .i64 (LzMath.join f n g (n + m)).len, .int .i64 (LzMath.join f n g (n + m)).dist, .int .u8 ((LzMath.join f n g (n + m)).byte.toNat : Int)] = _ ++ (toks g m ++ _); rw [ih, join_right, List.append_assoc]
theorem toks_one (f : Nat → Tok) (n : Nat) : ∀ u ∈ toks f n, u.oneCell' = true := by
  induction n with
  | zero => intro u hu; cases hu
  | succ n ih =>
    intro u hu
    rcases List.mem_append.1 hu with h | h
    · exact ih u h
    · simp only [List.mem_cons, List.not_mem_nil, or_false] at h
      rcases h with rfl | rfl | rfl <;> rfl

/-- A value that is a slice of n tokens of the call's own. -/
def OwnT (base : Nat) (w : World) (v : Value) (n : Nat) (f : Nat → Tok) : Prop := w.ownsRow base 44 3 v n (toks f n)
theorem OwnT.empty {base : Nat} (w : World) (f : Nat → Tok) (hb : base ≤ w.heap.size) : OwnT base (w.alloc (.cells #[] 44)) (.slice (some ⟨w.heap.size, 0, none⟩) 0 0) 0 f :=
  World.ownsRow_lit w #[] 0 hb (by unfold maxLen; omega) rfl
theorem OwnT.toks {base n : Nat} {w : World} {v : Value} {f : Nat → Tok} (h : OwnT base w v n f) (hw : ∀ i, i < n → Wf (f i)) : ∃ a c, v = .slice a n c ∧ TokIn w a n c f := by
  rcases h.2 with ⟨rfl, rfl⟩ | ⟨g, cap, cur, rfl, hg, hh, hn, hm, hs, ht⟩
  · exact ⟨none, 0, rfl, Nat.le_refl _, by omega, fun _ => ⟨rfl, rfl⟩, .inl rfl⟩
  · unfold maxLen at hm
    refine ⟨_, cap, rfl, hn, hm, (fun h => by cases h), .inr ⟨g, 0, rfl, fun i hi => ?_⟩⟩
    have hlt : g < w.heap.size := by
      by_cases hlt : g < w.heap.size
      · exact hlt
      · rw [Array.getElem?_eq_none (by omega)] at hh; cases hh
    have hc : ∀ j, j < n * 3 → w.cell? ⟨g, j, none⟩ = (LzC.toks f n)[j]? := fun j hj => by
      rw [cell_of_row _ _ _ _ _ _ hh, ← ht, List.getElem?_take, if_pos hj, Array.getElem?_toList]
    obtain ⟨h1, h2, h3⟩ := toks_get f n i hi
    exact ⟨by rw [Nat.zero_add, hc _ (by omega)]; exact h1, by rw [Nat.zero_add, hc _ (by omega)]; exact h2, by rw [Nat.zero_add, hc _ (by omega)]; exact h3, hlt, hw i hi⟩
theorem OwnT.grown {base n : Nat} {w0 w w' : World} {v : Value} {f : Nat → Tok} (hown : OwnT base w v n f) (h : Below base w0 w) (hg : w.grownBy w' v.ownBlock) (hb : base ≤ w.heap.size) : Below base w0 w' :=
  h.grown hg hb fun k hk => (World.ownsRow.lt hown k hk).1

/-- append(v, x...) of tokens. -/
theorem wp_append_toks {w : World} {o : Oper} {a : Act} {K : Act → World → Prop} {Q : Exit → Act → World → Prop} (s x : Operand)
    (ho : o.op = .call { callee := .builtin .append, args := #[s, x], argTypes := #[22, 22] }) (base : Nat)
    (v : Value) (n : Nat) (f : Nat → Tok) (hs : a.eval s = v) (hown : OwnT base w v n f) (ad : Option Addr) (m c : Nat) (g : Nat → Tok) (hx : a.eval x = .slice ad m c) (hb : TokIn w ad m c g)
    (hlen : n + m ≤ 1000000) (hbase : base ≤ w.heap.size)
    (h : ∀ v' w', OwnT base w' v' (n + m) (LzMath.join f n g) → w.grownBy w' v.ownBlock → K (a.put o.dst v') w') : o.wp Try.prog a w K Q := by
  obtain ⟨i, hi, hz0, hz1, hz2⟩ := info_parts infoT
  cases ad with
  | none =>
    obtain ⟨rfl, rfl⟩ := hb.nil rfl
    have hrun := run_append_owned_none (P := Try.prog) (w := w) base 22 o.type 44 i 3 Try.underlying22 hi v n (toks f n) hown
    unfold Oper.wp
    simp [execOp, ho, resolve, invoke, builtin, hs, hx, hrun, Result.andThen]
    refine h v w ?_ ⟨rfl, rfl, rfl, Nat.le_refl _, fun _ _ _ => rfl⟩
    unfold OwnT
    rw [toks_join, show toks g 0 = [] from rfl, List.append_nil]
    exact hown
  | some ad =>
    refine wp_append_own w s x 22 ho base 44 i _ 3 24 Try.underlying22 hi hz0 hz1 hz2 rfl (by decide) v n (toks f n) hs hown ad m c (toks g m) hx (toks_len g m) ?_ (toks_one g m) (by unfold maxLen; omega) (by omega) hbase ?_
    · intro j u hu
      have hj : j < m * 3 := by have := (List.getElem?_eq_some_iff.1 hu).1; rw [toks_len] at this; exact this
      rcases hb.at_ with h0 | ⟨b, off, hab, hc⟩
      · omega
      · simp only [Option.some.injEq] at hab
        subst hab
        obtain ⟨h1, h2, h3⟩ := toks_get g m (j / 3) (by omega)
        have ht := hc (j / 3) (by omega)
        rw [addr_add]
        have hr : j % 3 = 0 ∨ j % 3 = 1 ∨ j % 3 = 2 := by omega
        rcases hr with hr | hr | hr
        · rw [show j = j / 3 * 3 from by omega] at hu ⊢
          rw [ht.len, ← h1]; exact hu
        · rw [show j = j / 3 * 3 + 1 from by omega] at hu ⊢
          rw [← Nat.add_assoc, ht.dist, ← h2]; exact hu
        · rw [show j = j / 3 * 3 + 2 from by omega] at hu ⊢
          rw [← Nat.add_assoc, ht.byte, ← h3]; exact hu
    · intro v' w' h1 h2 _
      refine h v' w' ?_ h2
      unfold OwnT
      rw [toks_join]
      exact h1
theorem wpList_append_toks {w : World} {ops : Array Oper} {rest : List Oper} {o : Oper} {a : Act} {Q : Exit → Act → World → Prop} (hw : Region.wanted o (yielded ops a.tmps) = true) (s x : Operand)
    (ho : o.op = .call { callee := .builtin .append, args := #[s, x], argTypes := #[22, 22] }) (base : Nat)
    (v : Value) (n : Nat) (f : Nat → Tok) (hs : a.eval s = v) (hown : OwnT base w v n f) (ad : Option Addr) (m c : Nat) (g : Nat → Tok) (hx : a.eval x = .slice ad m c) (hb : TokIn w ad m c g)
    (hlen : n + m ≤ 1000000) (hbase : base ≤ w.heap.size)
    (h : ∀ v' w', OwnT base w' v' (n + m) (LzMath.join f n g) → w.grownBy w' v.ownBlock → wpList Try.prog ops Q rest (a.put o.dst v') w') : wpList Try.prog ops Q (o :: rest) a w :=
  wpList_of_wp hw fun _ hK => wp_append_toks s x ho base v n f hs hown ad m c g hx hb hlen hbase fun v' w' h1 h2 => hK _ _ (h v' w' h1 h2)
theorem md_ok (wide : Bool) : 0 < md wide ∧ md wide ≤ 65536 := by cases wide <;> simp [md]
theorem ml_ok (wide : Bool) : ml wide ≤ 65538 := by cases wide <;> simp [ml]
/-- A match's numbers. -/
theorem mat_nums {wide : Bool} {f : Nat → Tok} {k : Nat} (h : Ok wide f k) (h0 : (f k).len ≠ 0) :
    ∃ d n : Nat, f k = ⟨(n : Int), (d : Int), 0⟩ ∧ 3 ≤ n ∧ n ≤ 65538 ∧ 1 ≤ d ∧ d ≤ md wide ∧ d ≤ tot f k ∧ ex f (k + 1) = grow (ex f k) d n ∧ tot f (k + 1) = tot f k + n := by
  obtain ⟨hm, hd⟩ := h
  have hml := ml_ok wide
  rcases hm with hm | ⟨h1, h2, h3, h4, h5⟩
  · exact absurd hm.1 h0
  · have e : ex f (k + 1) = grow (ex f k) (f k).dist.toNat (f k).len.toNat := by show LzMath.step _ _ = _; unfold LzMath.step; rw [if_neg h0]
    have s : tot f (k + 1) = tot f k + (f k).len.toNat := by show tot f k + sz _ = _; unfold sz; rw [if_neg h0]
    generalize f k = t at *
    obtain ⟨l, d, b⟩ := t
    simp only at *
    obtain ⟨n, rfl⟩ := Int.eq_ofNat_of_zero_le (show 0 ≤ l by omega)
    obtain ⟨d, rfl⟩ := Int.eq_ofNat_of_zero_le (show 0 ≤ d by omega)
    subst h1
    simp only [Int.toNat_natCast] at e s
    exact ⟨d, n, rfl, by omega, by omega, by omega, by omega, by omega, e, s⟩
theorem lit_nums {wide : Bool} {f : Nat → Tok} {k : Nat} (h : Ok wide f k) (h0 : (f k).len = 0) : ∃ c : UInt8, f k = ⟨0, 0, c⟩ ∧ ex f (k + 1) = ex f k ++ [c] ∧ tot f (k + 1) = tot f k + 1 := by
  obtain ⟨hm, hd⟩ := h
  have e : ex f (k + 1) = ex f k ++ [(f k).byte] := by show LzMath.step _ _ = _; unfold LzMath.step; rw [if_pos h0]
  have s : tot f (k + 1) = tot f k + 1 := by show tot f k + sz _ = _; unfold sz; rw [if_pos h0]
  rcases hm with hm | hm
  · refine ⟨(f k).byte, ?_, e, s⟩
    obtain ⟨h1, h2⟩ := hm
    generalize f k = t at *
    obtain ⟨l, d, b⟩ := t
    simp only at h1 h2
    subst h1 h2
    rfl
  · have := hm.2.1
    omega

/-- A row of bytes of the call's own, and nothing elder turned. -/
structure Ro (w wr : World) (aa : Option Addr) (n ca : Nat) (L : List UInt8) : Prop where
  own : Own 5 w.heap.size wr (.slice aa n ca) L
  len : L.length = n
  below : Below w.heap.size w wr
section
variable {w wr w' : World} {aa a2 : Option Addr} {n ca c2 g : Nat} {L : List UInt8}
theorem Ro.later (h : Ro w wr aa n ca L) (hb : Below wr.heap.size wr w') : Ro w w' aa n ca L := ⟨h.own.below (Nat.le_refl _) hb, h.len, h.below.trans (hb.mono h.below.size)⟩
theorem Ro.app (h : Ro w wr aa n ca L) {o : Obj} {c : UInt8} (hown : Own 5 w.heap.size w' (.slice a2 (n + 1) c2) (L ++ [c])) (hg : (wr.alloc o).grownBy w' (Value.ownBlock (.slice aa n ca))) : Ro w w' a2 (n + 1) c2 (L ++ [c]) := by
  have hO : Only (fun k => Value.ownBlock (.slice aa n ca) = some k) wr w' := ((Only.refl _ wr).alloc o).grown hg (fun k _ hk => hk)
  exact ⟨hown, by rw [List.length_append, h.len]; rfl, h.below.trans (hO.below h.below.size (fun k hk => (World.ownsRow.lt h.own k hk).1))⟩
theorem Ro.blk (h : Ro w wr aa n ca L) {o : Obj} (hg : (wr.alloc o).grownBy w' (Value.ownBlock (.slice aa n ca))) {cs : Array Value} (hb : Blk wr g 44 cs) : Blk w' g 44 cs :=
  (hb.alloc o).grown hg (Ne.symm (own_len_ne h.own hb (by decide)))
theorem Ro.get (h : Ro w wr aa n ca L) (i : Nat) (hi : i < n) : ∃ ga, aa = some ⟨ga, 0, none⟩ ∧ wr.cell? ⟨ga, i, none⟩ = some (bv (L.getD i 0)) := by
  have hl := h.len
  obtain ⟨ga, c, h1, _⟩ := h.own.some_ (by omega)
  simp only [Value.slice.injEq] at h1
  obtain ⟨rfl, -, -⟩ := h1
  refine ⟨ga, rfl, ?_⟩
  rw [Go.My.own_cell h.own hl i (by omega), List.getD_eq_getElem?_getD, List.getElem?_eq_getElem (by omega)]
  rfl
end

end Go.Proofs.Ytaeoedapaiapdaa.LzC
