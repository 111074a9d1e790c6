import Derived.Test.YtnkfnbkjmobbnaaGreatDoorRows
import Derived.Test.YtnkfnbkjmobbnaaGreatDoorMgA
import Derived.Test.YtnkfnbkjmobbnaaGreatDoorMgB
import Derived.Laws.Pointers
import Derived.StillTailTactics
import Derived.Deep.RegionLaw
import Derived.Deep.DeepCutAuto
import Derived.Deep.CutBlock
import Derived.Defers
import Derived.Recover

section
/-
  Tokens in memory; a row of tokens that the call makes (without packages lz, stevedoreref5).
-/
namespace Go.Proofs.YtnkfnbkjmobbnaaGreatDoor.LzC
open Go.RowKit Go.My LzMath WinMath

/-- A token's three cells, and its value. -/
def tc (t : Tok) : Array Value := #[.int .i64 t.len, .int .i64 t.dist, .int .u8 (t.byte.toNat : Int)]
def Wf (t : Tok) : Prop := (-9223372036854775808 ≤ t.len ∧ t.len ≤ 9223372036854775807) ∧ -9223372036854775808 ≤ t.dist ∧ t.dist ≤ 9223372036854775807

theorem byte_cases (b : UInt8) : (b = 0 ∧ (b.toNat : Int) = 0) ∨ (b ≠ 0 ∧ ¬ (b.toNat : Int) = 0) := by
  by_cases h : b = 0
  · subst h; exact .inl ⟨rfl, rfl⟩
  · exact .inr ⟨h, fun e => h (by apply UInt8.toNat_inj.1; simp; omega)⟩
/-- The ways that a token goes that is no literal. -/
theorem may_ways {wide : Bool} {l d L D : Int} {b : UInt8} (hL : ml wide = L) (hD : (md wide : Int) = D) (hl : ¬ Lone ⟨l, d, b⟩) :
    (∃ k : Bool, (l == 0) = k ∧ (k = true → (d == 0) = false)) ∧ (((b.toNat : Int) == 0) = false ∧ decide (May wide ⟨l, d, b⟩) = false ∨ ((b.toNat : Int) == 0) = true ∧ (¬ 3 ≤ l ∧ decide (May wide ⟨l, d, b⟩) = false ∨ 3 ≤ l ∧ (¬ l ≤ L ∧ decide (May wide ⟨l, d, b⟩) = false ∨ l ≤ L ∧ (¬ 1 ≤ d ∧ decide (May wide ⟨l, d, b⟩) = false ∨ 1 ≤ d ∧ (¬ d ≤ D ∧ decide (May wide ⟨l, d, b⟩) = false ∨ d ≤ D ∧ decide (May wide ⟨l, d, b⟩) = true))))) := by
  have e : May wide ⟨l, d, b⟩ ↔ b = 0 ∧ 3 ≤ l ∧ l ≤ L ∧ 1 ≤ d ∧ d ≤ D := by
    rw [← hL, ← hD]; unfold May; simp only [hl, false_or]; rfl
  have hnl : ¬ (l = 0 ∧ d = 0) := hl
  refine ⟨⟨l == 0, rfl, fun h => ?_⟩, ?_⟩
  · simp only [beq_iff_eq] at h
    simp only [beq_eq_false_iff_ne]
    exact fun h2 => hnl ⟨h, h2⟩
  · simp only [decide_eq_false_iff_not, decide_eq_true_eq, e, beq_iff_eq, beq_eq_false_iff_ne]
    rcases byte_cases b with ⟨h1, h2⟩ | ⟨h1, h2⟩
    · refine .inr ⟨h2, ?_⟩
      by_cases h3 : 3 ≤ l
      · refine .inr ⟨h3, ?_⟩
        by_cases h4 : l ≤ L
        · refine .inr ⟨h4, ?_⟩
          by_cases h5 : 1 ≤ d
          · refine .inr ⟨h5, ?_⟩
            by_cases h6 : d ≤ D
            · exact .inr ⟨h6, h1, h3, h4, h5, h6⟩
            · exact .inl ⟨h6, fun h => h6 h.2.2.2.2⟩
          · exact .inl ⟨h5, fun h => h5 h.2.2.2.1⟩
        · exact .inl ⟨h4, fun h => h4 h.2.2.1⟩
      · exact .inl ⟨h3, fun h => h3 h.2.1⟩
    · exact .inl ⟨h2, fun h => h1 h.1⟩

/-- Token number i of the slice that begins at (b, off). -/
structure TokAt (w : World) (b off i : Nat) (t : Tok) : Prop where
  len : w.cell? ⟨b, off + i * 3, none⟩ = some (.int .i64 t.len)
  dist : w.cell? ⟨b, off + i * 3 + 1, none⟩ = some (.int .i64 t.dist)
  byte : w.cell? ⟨b, off + i * 3 + 2, none⟩ = some (.int .u8 (t.byte.toNat : Int))
  lt : b < w.heap.size
  wf : Wf t
/-- A slice of tokens. -/
structure TokIn (w : World) (a : Option Addr) (len cap : Nat) (f : Nat → Tok) : Prop where
  le_cap : len ≤ cap
  cap_le : cap ≤ 9223372036854775807
  nil : a = none → len = 0 ∧ cap = 0
  at_ : len = 0 ∨ ∃ b off, a = some ⟨b, off, none⟩ ∧ ∀ i, i < len → TokAt w b off i (f i)
section
variable {w w' : World} {a : Option Addr} {b off i len cap B : Nat} {t : Tok} {f : Nat → Tok}
theorem TokAt.below (h : TokAt w b off i t) (hB : w.heap.size ≤ B) (hb : Below B w w') : TokAt w' b off i t := by
  have hc : ∀ k, w'.cell? ⟨b, k, none⟩ = w.cell? ⟨b, k, none⟩ := fun k => hb.cell (p := ⟨b, k, none⟩) (Nat.lt_of_lt_of_le h.lt hB)
  exact ⟨by rw [hc]; exact h.len, by rw [hc]; exact h.dist, by rw [hc]; exact h.byte, Nat.lt_of_lt_of_le h.lt hb.size, h.wf⟩
theorem TokIn.below (h : TokIn w a len cap f) (hB : w.heap.size ≤ B) (hb : Below B w w') : TokIn w' a len cap f := by
  refine ⟨h.le_cap, h.cap_le, h.nil, h.at_.imp_right ?_⟩
  rintro ⟨b, off, ha, hc⟩
  exact ⟨b, off, ha, fun i hi => (hc i hi).below hB hb⟩
theorem TokIn.get (h : TokIn w a len cap f) (hi : i < len) : ∃ b off, a = some ⟨b, off, none⟩ ∧ TokAt w b off i (f i) := by
  rcases h.at_ with h0 | ⟨b, off, ha, hc⟩
  · omega
  · exact ⟨b, off, ha, hc i hi⟩
end
theorem infoT : (Tryz.prog.info? 54).map (fun i => (i.zero, i.size, i.bytes)) = some (some (.agg #[.int .i64 0, .int .i64 0, .int .u8 0]), 3, 24) := by kernel_rfl

/-- The cells of n tokens. -/
def toks (f : Nat → Tok) : Nat → List Value
  | 0 => []
  | k + 1 => toks f k ++ [.int .i64 (f k).len, .int .i64 (f k).dist, .int .u8 ((f k).byte.toNat : Int)]
theorem toks_len (f : Nat → Tok) (n : Nat) : (toks f n).length = n * 3 := by
  induction n with
  | zero => rfl
  | succ n ih => show (toks f n ++ _).length = _; rw [List.length_append, ih]; simp; omega
theorem toks_get (f : Nat → Tok) (n i : Nat) (hi : i < n) : (toks f n)[i * 3]? = some (.int .i64 (f i).len) ∧ (toks f n)[i * 3 + 1]? = some (.int .i64 (f i).dist) ∧ (toks f n)[i * 3 + 2]? = some (.int .u8 ((f i).byte.toNat : Int)) := by
  induction n with
  | zero => omega
  | succ n ih =>
    have hl := toks_len f n
    show (toks f n ++ _)[i * 3]? = _ ∧ (toks f n ++ _)[i * 3 + 1]? = _ ∧ (toks f n ++ _)[i * 3 + 2]? = _
    by_cases h : i < n
    · rw [List.getElem?_append_left (by omega), List.getElem?_append_left (by omega), List.getElem?_append_left (by omega)]
      exact ih h
    · obtain rfl : i = n := by omega
      rw [List.getElem?_append_right (by omega), List.getElem?_append_right (by omega), List.getElem?_append_right (by omega), hl]
      rw [show i * 3 - i * 3 = 0 from by omega, show i * 3 + 1 - i * 3 = 1 from by omega, show i * 3 + 2 - i * 3 = 2 from by omega]
      exact ⟨rfl, rfl, rfl⟩
theorem toks_congr (f g : Nat → Tok) (n : Nat) (h : ∀ i, i < n → f i = g i) : toks f n = toks g n := by
  induction n with
  | zero => rfl
  | succ n ih => show toks f n ++ _ = toks g n ++ _; rw [ih (fun i hi => h i (by omega)), h n (by omega)]
theorem toks_join (f g : Nat → Tok) (n m : Nat) : toks (LzMath.join f n g) (n + m) = toks f n ++ toks g m := by
  induction m with
  | zero => show toks _ n = _ ++ []; rw [List.append_nil]; exact toks_congr _ _ _ (fun i hi => join_left hi)
  | succ m ih => show toks _ (n + m) ++ [.int .i64 (LzMath.join f n g (n + m)).len, .int .i64 (LzMath.join f n g (n + m)).dist, .int .u8 ((LzMath.join f n g (n + m)).byte.toNat : Int)] = _ ++ (toks g m ++ _); rw [ih, join_right, List.append_assoc]
theorem toks_one (f : Nat → Tok) (n : Nat) : ∀ u ∈ toks f n, u.oneCell' = true := by
  induction n with
  | zero => intro u hu; cases hu
  | succ n ih =>
    intro u hu
    rcases List.mem_append.1 hu with h | h
    · exact ih u h
    · simp only [List.mem_cons, List.not_mem_nil, or_false] at h
      rcases h with rfl | rfl | rfl <;> rfl

/-- A value that is a slice of n tokens of the call's own. -/
def OwnT (base : Nat) (w : World) (v : Value) (n : Nat) (f : Nat → Tok) : Prop := w.ownsRow base 54 3 v n (toks f n)
theorem OwnT.empty {base : Nat} (w : World) (f : Nat → Tok) (hb : base ≤ w.heap.size) : OwnT base (w.alloc (.cells #[] 54)) (.slice (some ⟨w.heap.size, 0, none⟩) 0 0) 0 f :=
  World.ownsRow_lit w #[] 0 hb (by unfold maxLen; omega) rfl
theorem OwnT.toks {base n : Nat} {w : World} {v : Value} {f : Nat → Tok} (h : OwnT base w v n f) (hw : ∀ i, i < n → Wf (f i)) : ∃ a c, v = .slice a n c ∧ TokIn w a n c f := by
  rcases h.2 with ⟨rfl, rfl⟩ | ⟨g, cap, cur, rfl, hg, hh, hn, hm, hs, ht⟩
  · exact ⟨none, 0, rfl, Nat.le_refl _, by omega, fun _ => ⟨rfl, rfl⟩, .inl rfl⟩
  · unfold maxLen at hm
    refine ⟨_, cap, rfl, hn, hm, (fun h => by cases h), .inr ⟨g, 0, rfl, fun i hi => ?_⟩⟩
    have hlt : g < w.heap.size := by
      by_cases hlt : g < w.heap.size
      · exact hlt
      · rw [Array.getElem?_eq_none (by omega)] at hh; cases hh
    have hc : ∀ j, j < n * 3 → w.cell? ⟨g, j, none⟩ = (LzC.toks f n)[j]? := fun j hj => by
      rw [cell_of_row _ _ _ _ _ _ hh, ← ht, List.getElem?_take, if_pos hj, Array.getElem?_toList]
    obtain ⟨h1, h2, h3⟩ := toks_get f n i hi
    exact ⟨by rw [Nat.zero_add, hc _ (by omega)]; exact h1, by rw [Nat.zero_add, hc _ (by omega)]; exact h2, by rw [Nat.zero_add, hc _ (by omega)]; exact h3, hlt, hw i hi⟩
theorem OwnT.grown {base n : Nat} {w0 w w' : World} {v : Value} {f : Nat → Tok} (hown : OwnT base w v n f) (h : Below base w0 w) (hg : w.grownBy w' v.ownBlock) (hb : base ≤ w.heap.size) : Below base w0 w' :=
  h.grown hg hb fun k hk => (World.ownsRow.lt hown k hk).1

/-- append(v, x...) of tokens. -/
theorem wp_append_toks {w : World} {o : Oper} {a : Act} {K : Act → World → Prop} {Q : Exit → Act → World → Prop} (s x : Operand)
    (ho : o.op = .call { callee := .builtin .append, args := #[s, x], argTypes := #[23, 23] }) (base : Nat)
    (v : Value) (n : Nat) (f : Nat → Tok) (hs : a.eval s = v) (hown : OwnT base w v n f) (ad : Option Addr) (m c : Nat) (g : Nat → Tok) (hx : a.eval x = .slice ad m c) (hb : TokIn w ad m c g)
    (hlen : n + m ≤ 1000000) (hbase : base ≤ w.heap.size)
    (h : ∀ v' w', OwnT base w' v' (n + m) (LzMath.join f n g) → w.grownBy w' v.ownBlock → K (a.put o.dst v') w') : o.wp Tryz.prog a w K Q := by
  obtain ⟨i, hi, hz0, hz1, hz2⟩ := info_parts infoT
  cases ad with
  | none =>
    obtain ⟨rfl, rfl⟩ := hb.nil rfl
    have hrun := run_append_owned_none (P := Tryz.prog) (w := w) base 23 o.type 54 i 3 Tryz.underlying23 hi v n (toks f n) hown
    unfold Oper.wp
    simp [execOp, ho, resolve, invoke, builtin, hs, hx, hrun, Result.andThen]
    refine h v w ?_ ⟨rfl, rfl, rfl, Nat.le_refl _, fun _ _ _ => rfl⟩
    unfold OwnT
    rw [toks_join, show toks g 0 = [] from rfl, List.append_nil]
    exact hown
  | some ad =>
    refine wp_append_own w s x 23 ho base 54 i _ 3 24 Tryz.underlying23 hi hz0 hz1 hz2 rfl (by decide) v n (toks f n) hs hown ad m c (toks g m) hx (toks_len g m) ?_ (toks_one g m) (by unfold maxLen; omega) (by omega) hbase ?_
    · intro j u hu
      have hj : j < m * 3 := by have := (List.getElem?_eq_some_iff.1 hu).1; rw [toks_len] at this; exact this
      rcases hb.at_ with h0 | ⟨b, off, hab, hc⟩
      · omega
      · simp only [Option.some.injEq] at hab
        subst hab
        obtain ⟨h1, h2, h3⟩ := toks_get g m (j / 3) (by omega)
        have ht := hc (j / 3) (by omega)
        rw [addr_add]
        have hr : j % 3 = 0 ∨ j % 3 = 1 ∨ j % 3 = 2 := by omega
        rcases hr with hr | hr | hr
        · rw [show j = j / 3 * 3 from by omega] at hu ⊢
          rw [ht.len, ← h1]; exact hu
        · rw [show j = j / 3 * 3 + 1 from by omega] at hu ⊢
          rw [← Nat.add_assoc, ht.dist, ← h2]; exact hu
        · rw [show j = j / 3 * 3 + 2 from by omega] at hu ⊢
          rw [← Nat.add_assoc, ht.byte, ← h3]; exact hu
    · intro v' w' h1 h2 _
      refine h v' w' ?_ h2
      unfold OwnT
      rw [toks_join]
      exact h1
theorem wpList_append_toks {w : World} {ops : Array Oper} {rest : List Oper} {o : Oper} {a : Act} {Q : Exit → Act → World → Prop} (hw : Region.wanted o (yielded ops a.tmps) = true) (s x : Operand)
    (ho : o.op = .call { callee := .builtin .append, args := #[s, x], argTypes := #[23, 23] }) (base : Nat)
    (v : Value) (n : Nat) (f : Nat → Tok) (hs : a.eval s = v) (hown : OwnT base w v n f) (ad : Option Addr) (m c : Nat) (g : Nat → Tok) (hx : a.eval x = .slice ad m c) (hb : TokIn w ad m c g)
    (hlen : n + m ≤ 1000000) (hbase : base ≤ w.heap.size)
    (h : ∀ v' w', OwnT base w' v' (n + m) (LzMath.join f n g) → w.grownBy w' v.ownBlock → wpList Tryz.prog ops Q rest (a.put o.dst v') w') : wpList Tryz.prog ops Q (o :: rest) a w :=
  wpList_of_wp hw fun _ hK => wp_append_toks s x ho base v n f hs hown ad m c g hx hb hlen hbase fun v' w' h1 h2 => hK _ _ (h v' w' h1 h2)
theorem md_ok (wide : Bool) : 0 < md wide ∧ md wide ≤ 65536 := by cases wide <;> simp [md]
theorem ml_ok (wide : Bool) : ml wide ≤ 65538 := by cases wide <;> simp [ml]
/-- A match's numbers. -/
theorem mat_nums {wide : Bool} {f : Nat → Tok} {k : Nat} (h : Ok wide f k) (h0 : (f k).len ≠ 0) :
    ∃ d n : Nat, f k = ⟨(n : Int), (d : Int), 0⟩ ∧ 3 ≤ n ∧ n ≤ 65538 ∧ 1 ≤ d ∧ d ≤ md wide ∧ d ≤ tot f k ∧ ex f (k + 1) = grow (ex f k) d n ∧ tot f (k + 1) = tot f k + n := by
  obtain ⟨hm, hd⟩ := h
  have hml := ml_ok wide
  rcases hm with hm | ⟨h1, h2, h3, h4, h5⟩
  · exact absurd hm.1 h0
  · have e : ex f (k + 1) = grow (ex f k) (f k).dist.toNat (f k).len.toNat := by show LzMath.step _ _ = _; unfold LzMath.step; rw [if_neg h0]
    have s : tot f (k + 1) = tot f k + (f k).len.toNat := by show tot f k + sz _ = _; unfold sz; rw [if_neg h0]
    generalize f k = t at *
    obtain ⟨l, d, b⟩ := t
    simp only at *
    obtain ⟨n, rfl⟩ := Int.eq_ofNat_of_zero_le (show 0 ≤ l by omega)
    obtain ⟨d, rfl⟩ := Int.eq_ofNat_of_zero_le (show 0 ≤ d by omega)
    subst h1
    simp only [Int.toNat_natCast] at e s
    exact ⟨d, n, rfl, by omega, by omega, by omega, by omega, by omega, e, s⟩
theorem lit_nums {wide : Bool} {f : Nat → Tok} {k : Nat} (h : Ok wide f k) (h0 : (f k).len = 0) : ∃ c : UInt8, f k = ⟨0, 0, c⟩ ∧ ex f (k + 1) = ex f k ++ [c] ∧ tot f (k + 1) = tot f k + 1 := by
  obtain ⟨hm, hd⟩ := h
  have e : ex f (k + 1) = ex f k ++ [(f k).byte] := by show LzMath.step _ _ = _; unfold LzMath.step; rw [if_pos h0]
  have s : tot f (k + 1) = tot f k + 1 := by show tot f k + sz _ = _; unfold sz; rw [if_pos h0]
  rcases hm with hm | hm
  · refine ⟨(f k).byte, ?_, e, s⟩
    obtain ⟨h1, h2⟩ := hm
    generalize f k = t at *
    obtain ⟨l, d, b⟩ := t
    simp only at h1 h2
    subst h1 h2
    rfl
  · have := hm.2.1
    omega

/-- A row of bytes of the call's own, and nothing elder turned. -/
structure Ro (w wr : World) (aa : Option Addr) (n ca : Nat) (L : List UInt8) : Prop where
  own : Own 5 w.heap.size wr (.slice aa n ca) L
  len : L.length = n
  below : Below w.heap.size w wr
section
variable {w wr w' : World} {aa a2 : Option Addr} {n ca c2 g : Nat} {L : List UInt8}
theorem Ro.later (h : Ro w wr aa n ca L) (hb : Below wr.heap.size wr w') : Ro w w' aa n ca L := ⟨h.own.below (Nat.le_refl _) hb, h.len, h.below.trans (hb.mono h.below.size)⟩
theorem Ro.app (h : Ro w wr aa n ca L) {o : Obj} {c : UInt8} (hown : Own 5 w.heap.size w' (.slice a2 (n + 1) c2) (L ++ [c])) (hg : (wr.alloc o).grownBy w' (Value.ownBlock (.slice aa n ca))) : Ro w w' a2 (n + 1) c2 (L ++ [c]) := by
  have hO : Only (fun k => Value.ownBlock (.slice aa n ca) = some k) wr w' := ((Only.refl _ wr).alloc o).grown hg (fun k _ hk => hk)
  exact ⟨hown, by rw [List.length_append, h.len]; rfl, h.below.trans (hO.below h.below.size (fun k hk => (World.ownsRow.lt h.own k hk).1))⟩
theorem Ro.blk (h : Ro w wr aa n ca L) {o : Obj} (hg : (wr.alloc o).grownBy w' (Value.ownBlock (.slice aa n ca))) {cs : Array Value} (hb : Blk wr g 54 cs) : Blk w' g 54 cs :=
  (hb.alloc o).grown hg (Ne.symm (own_len_ne h.own hb (by decide)))
theorem Ro.get (h : Ro w wr aa n ca L) (i : Nat) (hi : i < n) : ∃ ga, aa = some ⟨ga, 0, none⟩ ∧ wr.cell? ⟨ga, i, none⟩ = some (bv (L.getD i 0)) := by
  have hl := h.len
  obtain ⟨ga, c, h1, _⟩ := h.own.some_ (by omega)
  simp only [Value.slice.injEq] at h1
  obtain ⟨rfl, -, -⟩ := h1
  refine ⟨ga, rfl, ?_⟩
  rw [Go.My.own_cell h.own hl i (by omega), List.getD_eq_getElem?_getD, List.getElem?_eq_getElem (by omega)]
  rfl
end

end Go.Proofs.YtnkfnbkjmobbnaaGreatDoor.LzC
end

section
/-
  bounds, May.
-/
namespace Go.Proofs.YtnkfnbkjmobbnaaGreatDoor.LzC
open Go.RowKit Go.My LzMath

theorem bounds_any (wide : Bool) (w : World) : Calls Tryz.prog 68 #[.bool wide] w fun e w' => e = .returned (.tuple #[.int .i64 (ml wide), .int .i64 (md wide : Int)]) ∧ w = w' := by
  cases wide
  · go_enter Tryz.func68, Tryz.ntmps68
    go_wp2_with fail
    go_ret2
    exact ⟨rfl, rfl⟩
  · go_enter Tryz.func68, Tryz.ntmps68
    go_wp2_with fail
    go_ret2
    exact ⟨rfl, rfl⟩

set_option maxRecDepth 100000 in
set_option maxHeartbeats 4000000 in
theorem may_any (wide : Bool) (t : Tok) (w : World) : Calls Tryz.prog 52 #[.agg (tc t), .bool wide] w fun e w' => e = .returned (.bool (decide (May wide t))) ∧ Below w.heap.size w w' := by
  by_cases hl : Lone t
  · have HM : Hid (decide (May wide t) = true) := Lib.hid (by simp [May, hl])
    obtain ⟨l, d, b⟩ := t
    obtain ⟨rfl, rfl⟩ : l = 0 ∧ d = 0 := hl
    unfold tc
    dsimp only
    go_enter Tryz.func52, Tryz.ntmps52
    go_wp2_with fail
    go_ret
    exact ⟨by rw [HM.out]; rfl, (Below.refl _ _).alloc (Nat.le_refl _) _⟩
  · obtain ⟨l, d, b⟩ := t
    unfold tc
    dsimp only
    cases wide
    · obtain ⟨⟨k, hk, hkd⟩, hw⟩ := may_ways (L := 258) (D := 32768) (wide := false) rfl rfl hl
      clear hl
      rcases hw with ⟨q1, hm⟩ | ⟨q1, ⟨q2, hm⟩ | ⟨q2, ⟨q3, hm⟩ | ⟨q3, ⟨q4, hm⟩ | ⟨q4, ⟨q5, hm⟩ | ⟨q5, hm⟩⟩⟩⟩⟩ <;> cases k
      all_goals (try simp only [forall_const] at hkd)
      all_goals
        have HM := Lib.hid hm
        clear hm
        go_enter Tryz.func52, Tryz.ntmps52
        go_wp2_with fail
        refine (bounds_any false _).mono ?_
        rw [show ml false = 258 from rfl, show (md false : Int) = 32768 from rfl]
        rintro e w' ⟨rfl, rfl⟩
        go_wp2_with fail
        go_ret
        exact ⟨by rw [HM.out]; first | rfl | simp_all, (Below.refl _ _).alloc (Nat.le_refl _) _⟩
    · obtain ⟨⟨k, hk, hkd⟩, hw⟩ := may_ways (L := 65538) (D := 65536) (wide := true) rfl rfl hl
      clear hl
      rcases hw with ⟨q1, hm⟩ | ⟨q1, ⟨q2, hm⟩ | ⟨q2, ⟨q3, hm⟩ | ⟨q3, ⟨q4, hm⟩ | ⟨q4, ⟨q5, hm⟩ | ⟨q5, hm⟩⟩⟩⟩⟩ <;> cases k
      all_goals (try simp only [forall_const] at hkd)
      all_goals
        have HM := Lib.hid hm
        clear hm
        go_enter Tryz.func52, Tryz.ntmps52
        go_wp2_with fail
        refine (bounds_any true _).mono ?_
        rw [show ml true = 65538 from rfl, show (md true : Int) = 65536 from rfl]
        rintro e w' ⟨rfl, rfl⟩
        go_wp2_with fail
        go_ret
        exact ⟨by rw [HM.out]; first | rfl | simp_all, (Below.refl _ _).alloc (Nat.le_refl _) _⟩

end Go.Proofs.YtnkfnbkjmobbnaaGreatDoor.LzC
end

section
/-
  Sizes of tokens: Size, the document's Size, Few.
-/
namespace Go.Proofs.YtnkfnbkjmobbnaaGreatDoor.LzC
open Go.RowKit Go.My LzMath

theorem size_any (t : Tok) (w : World) : Calls Tryz.prog 51 #[.agg (tc t)] w fun e w' => e = .returned (.int .i64 (sz t : Int)) ∧ Below w.heap.size w w' := by
  obtain ⟨l, d, b⟩ := t
  unfold tc
  dsimp only
  by_cases h0 : l = 0
  · subst h0
    go_enter Tryz.func51, Tryz.ntmps51
    go_wp2_with fail
    go_ret
    exact ⟨rfl, (Below.refl _ _).alloc (Nat.le_refl _) _⟩
  · have HS : Hid ((sz ⟨l, d, b⟩ : Nat) = l.toNat) := Lib.hid (by unfold sz; rw [if_neg h0])
    by_cases h1 : l < 0
    · go_enter Tryz.func51, Tryz.ntmps51
      go_wp2_with fail
      go_ret
      exact ⟨by rw [HS.out]; exact ret_int (by omega), (Below.refl _ _).alloc (Nat.le_refl _) _⟩
    · go_enter Tryz.func51, Tryz.ntmps51
      go_wp2_with fail
      go_ret
      exact ⟨by rw [HS.out]; exact ret_int (by omega), (Below.refl _ _).alloc (Nat.le_refl _) _⟩

theorem sz_le (t : Tok) (h : Wf t) : sz t ≤ 9223372036854775807 := by
  have := h.1.2
  unfold sz
  split <;> omega

/-- The number of bytes, no more than 2^40. -/
def cap (f : Nat → Tok) (k : Nat) : Nat := min (tot f k) 1099511627776
set_option maxRecDepth 100000 in
set_option maxHeartbeats 4000000 in
theorem size_all (a : Option Addr) (len c : Nat) (f : Nat → Tok) (w : World) (h : TokIn w a len c f) :
    Calls Tryz.prog 20 #[.slice a len c] w fun e w' => e = .returned (.int .i64 (cap f len : Int)) ∧ Below w.heap.size w w' := by
  have H := Lib.hid h
  have hlc := h.le_cap
  have hcm := h.cap_le
  clear h
  go_enter Tryz.func20, Tryz.ntmps20
  go_wp2_with fail
  go_loopw [3, 8] (fun n i wr => ∃ k : Nat, k ≤ len ∧ i = .int .i64 (k : Int) ∧ n = .int .i64 (cap f k : Int) ∧ Hid (Below w.heap.size w wr)) (fun _ i _ => len - (intOf i).toNat)
  case atStart => exact ⟨0, Nat.zero_le _, rfl, rfl, Lib.hid (Below.refl _ _)⟩
  case round =>
    obtain ⟨k, hk, rfl, rfl, HB⟩ := hrel
    by_cases hlt : k < len
    · obtain ⟨b, off, rfl, ho⟩ := (H.out.below (Nat.le_refl _) HB.out).get hlt
      obtain ⟨c0, c1, c2, hbl, wf⟩ := ho
      have hs : cap f (k + 1) = min (cap f k + sz (f k)) 1099511627776 := by show min (tot f k + sz (f k)) _ = _; unfold cap; omega
      have hN : cap f k ≤ 1099511627776 := by unfold cap; omega
      have hz := sz_le (f k) wf
      obtain ⟨N, hNe⟩ : ∃ N, N = cap f k := ⟨_, rfl⟩
      obtain ⟨t, ht⟩ : ∃ t, t = f k := ⟨_, rfl⟩
      obtain ⟨z, hze⟩ : ∃ z, z = sz t := ⟨_, rfl⟩
      rw [← hNe] at hs hN ⊢
      rw [← ht] at c0 c1 c2 wf hs hz
      rw [← hze] at hs hz
      obtain ⟨M, hM⟩ : ∃ M, M = min z (1099511627776 - N) := ⟨_, rfl⟩
      have hmin : (if (1099511627776 : Int) - (N : Int) < (z : Int) then (1099511627776 : Int) - (N : Int) else (z : Int)) = (M : Int) := by split <;> omega
      have hMb : N + M ≤ 1099511627776 := by omega
      have HS : Hid (cap f (k + 1) = N + M) := Lib.hid (by omega)
      have HZ := Lib.hid hze
      clear hs hM hNe ht hze
      go_wp2_with fail
      refine (size_any t _).mono ?_
      rw [← HZ.out]
      rintro e w1 ⟨rfl, hb⟩
      have HB1 : Hid (Below w.heap.size w w1) := Lib.hid ((HB.out.alloc HB.out.size _).trans (hb.mono (by have := HB.out.size; simp; omega)))
      clear hb
      go_wp2_with fail
      go_roundw
      case rel => exact ⟨k + 1, by omega, by go_num, by rw [HS.out]; go_num, HB1⟩
      case measure => simp [intOf]; omega
    · obtain rfl : k = len := by omega
      go_wp2_with fail
      go_ret
      exact ⟨rfl, HB.out⟩

theorem cap_full (f : Nat → Tok) (k n : Nat) (hk : k < n) (h : 1099511627776 < tot f (k + 1)) : cap f n = 1099511627776 := by
  have := tot_mono f (k + 1) n hk
  unfold cap
  omega

set_option maxRecDepth 100000 in
set_option maxHeartbeats 4000000 in
theorem rsize_all (a : Option Addr) (len c : Nat) (f : Nat → Tok) (w : World) (h : TokIn w a len c f) :
    Calls Tryz.prog 21 #[.slice a len c] w fun e w' => e = .returned (.int .i64 (cap f len : Int)) ∧ w = w' := by
  have H := Lib.hid h
  have hlc := h.le_cap
  have hcm := h.cap_le
  clear h
  go_enter Tryz.func21, Tryz.ntmps21
  go_wp2_with fail
  go_loop [3, 4] (fun n i => ∃ k : Nat, k ≤ len ∧ i = .int .i64 (k : Int) ∧ n = .int .i64 (cap f k : Int) ∧ tot f k ≤ 1099511627776) (fun _ i => len - (intOf i).toNat)
  case atStart => exact ⟨0, Nat.zero_le _, rfl, rfl, by show 0 ≤ _; omega⟩
  case round =>
    obtain ⟨k, hk, rfl, rfl, hT⟩ := hrel
    by_cases hlt : k < len
    · obtain ⟨b, off, rfl, ho⟩ := H.out.get hlt
      obtain ⟨c0, c1, c2, hbl, wf⟩ := ho
      have hN : cap f k = tot f k := by unfold cap; omega
      have hs : tot f (k + 1) = tot f k + sz (f k) := rfl
      have hz := sz_le (f k) wf
      have hz2 : sz (f k) = if (f k).len = 0 then 1 else (f k).len.toNat := rfl
      rw [hN]
      obtain ⟨N, hNe⟩ : ∃ N, N = tot f k := ⟨_, rfl⟩
      obtain ⟨t, ht⟩ : ∃ t, t = f k := ⟨_, rfl⟩
      obtain ⟨z, hze⟩ : ∃ z, z = sz t := ⟨_, rfl⟩
      rw [← hNe] at hs hT ⊢
      rw [← ht] at c0 wf hs hz hz2
      rw [← hze] at hs hz hz2
      have HS := Lib.hid hs
      clear hs hN hNe ht hze c1 c2
      obtain ⟨l, d, bt⟩ := t
      have wl := wf.1
      dsimp only at c0 hz2 wl
      clear wf
      go_upto_if 23 with (fail)
      go_cut [5] (fun v wc => v = .int .i64 (z : Int) ∧ wc = w)
      case first =>
        by_cases h0 : l = 0
        · subst h0
          rw [if_pos rfl] at hz2
          subst hz2
          go_wp2_with fail
          go_meet
          case rel => exact ⟨rfl, rfl⟩
        · rw [if_neg h0] at hz2
          by_cases h1 : l < 0
          · obtain rfl : z = 0 := by omega
            go_wp2_with fail
            go_meet
            case rel => exact ⟨rfl, rfl⟩
          · have HZ : Hid (l = (z : Int)) := Lib.hid (by omega)
            clear hz2
            go_wp2_with fail
            go_meet
            case rel => exact ⟨by show Value.int .i64 l = _; rw [HZ.out], rfl⟩
      obtain ⟨rfl, rfl⟩ := hcut
      clear c0 hz2 wl
      by_cases hbig : 1099511627776 - (N : Int) < (z : Int)
      · have HC := Lib.hid (cap_full f k len hlt (by have := HS.out; omega))
        go_wp2_with fail
        go_ret
        exact ⟨by rw [HC.out]; rfl, rfl⟩
      · have HC : Hid (cap f (k + 1) = N + z) := Lib.hid (by unfold cap; rw [HS.out]; omega)
        go_wp2_with fail
        go_round
        case rel => exact ⟨k + 1, by omega, by go_num, by rw [HC.out]; go_num, by rw [HS.out]; omega⟩
        case measure => simp [intOf]; omega
    · obtain rfl : k = len := by omega
      go_wp2_with fail
      go_ret
      exact ⟨rfl, rfl⟩

/-- Few tells whether tokens are few, and their bytes. -/
def few (f : Nat → Tok) (len : Nat) : Bool := decide (len ≤ 100 ∧ cap f len ≤ 70000)
theorem few_tot {f : Nat → Tok} {len : Nat} (h : few f len = true) : len ≤ 100 ∧ tot f len ≤ 70000 := by
  unfold few cap at h
  simp only [decide_eq_true_eq] at h
  omega
set_option maxRecDepth 100000 in
theorem few_any (a : Option Addr) (len c : Nat) (f : Nat → Tok) (w : World) (h : TokIn w a len c f) :
    Calls Tryz.prog 5 #[.slice a len c] w fun e w' => e = .returned (.bool (few f len)) ∧ w = w' := by
  have H := Lib.hid h
  have hlc := h.le_cap
  have hcm := h.cap_le
  clear h
  by_cases h1 : len ≤ 100
  · have HF : Hid (few f len = decide ((cap f len : Int) ≤ 70000)) := Lib.hid (by unfold few; exact decide_eq_decide.2 (by omega))
    go_enter Tryz.func5, Tryz.ntmps5
    go_wp2_with fail
    refine (rsize_all a len c f w H.out).mono ?_
    generalize cap f len = N at *
    rintro e w' ⟨rfl, rfl⟩
    go_wp2_with fail
    go_ret
    exact ⟨by rw [HF.out]; rfl, rfl⟩
  · have HF : Hid (few f len = false) := Lib.hid (by unfold few; simp [h1])
    go_enter Tryz.func5, Tryz.ntmps5
    go_wp2_with fail
    go_ret
    exact ⟨by rw [HF.out]; rfl, rfl⟩
end Go.Proofs.YtnkfnbkjmobbnaaGreatDoor.LzC
end

section
/-
  measure (on XTok0).
-/
namespace Go.Proofs.YtnkfnbkjmobbnaaGreatDoor.LzC
open Go.RowKit Go.My LzMath

/-- What a fault is, thrown. -/
def fault (c at_ : Int) : Value := .iface 105 (.agg #[.int .i64 c, .int .i64 at_])
/-- Token K is the first that may not stand there, or there is none. -/
structure EndsT (wide : Bool) (f : Nat → Tok) (len K : Nat) : Prop where
  le : K ≤ len
  good : GoodT wide f K
  bad : K < len → ¬ Ok wide f K
theorem ends_any (wide : Bool) (f : Nat → Tok) (len : Nat) : ∃ K, EndsT wide f len K := by
  rcases good_or wide f len with h | ⟨k, h1, h2, h3⟩
  · exact ⟨len, Nat.le_refl _, h, fun h => by omega⟩
  · exact ⟨k, by omega, h2, fun _ => h3⟩
theorem ok_no {wide : Bool} {f : Nat → Tok} {k : Nat} (h : ¬ Ok wide f k) : decide (May wide (f k)) = false ∨ decide (May wide (f k)) = true ∧ (tot f k : Int) < (f k).dist := by
  by_cases hm : May wide (f k)
  · exact .inr ⟨by simpa using hm, by have : ¬ (f k).dist ≤ (tot f k : Int) := fun h2 => h ⟨hm, h2⟩
                                      omega⟩
  · exact .inl (by simpa using hm)

set_option maxRecDepth 100000 in
set_option maxHeartbeats 4000000 in
theorem measure_any (wide : Bool) (a : Option Addr) (len c : Nat) (f : Nat → Tok) (K : Nat) (w : World) (h : TokIn w a len c f) (hE : EndsT wide f len K) (ht : tot f len ≤ 1000000) :
    Calls Tryz.prog 50 #[.slice a len c, .bool wide] w fun e w' =>
      (K = len ∧ e = .returned (.int .i64 (tot f len : Int)) ∨ K < len ∧ e = .panicked [{ v := fault 2 (K : Int), recovered := false }]) ∧ Below w.heap.size w w' := by
  have H := Lib.hid h
  have hlc := h.le_cap
  have hcm := h.cap_le
  have HE := Lib.hid hE
  have hKl := hE.le
  clear h hE
  go_enter Tryz.func50, Tryz.ntmps50
  go_wp2_with fail
  go_loopw [5, 10] (fun n i wr => ∃ k : Nat, k ≤ K ∧ i = .int .i64 (k : Int) ∧ n = .int .i64 (tot f k : Int) ∧ Hid (Below w.heap.size w wr)) (fun _ i _ => len - (intOf i).toNat)
  case atStart => exact ⟨0, Nat.zero_le _, rfl, rfl, Lib.hid (Below.refl _ _)⟩
  case round =>
    obtain ⟨k, hk, rfl, rfl, HB⟩ := hrel
    by_cases hlt : k < len
    · obtain ⟨b, off, rfl, ho⟩ := (H.out.below (Nat.le_refl _) HB.out).get hlt
      obtain ⟨c0, c1, c2, hbl, wf⟩ := ho
      have hs : tot f (k + 1) = tot f k + sz (f k) := rfl
      have hm := tot_mono f (k + 1) len hlt
      have hok : k < K → decide (May wide (f k)) = true ∧ ¬ (tot f k : Int) < (f k).dist := fun h => by
        obtain ⟨h1, h2⟩ := HE.out.good k h
        exact ⟨by simpa using h1, by omega⟩
      have hno : ¬ k < K → decide (May wide (f k)) = false ∨ decide (May wide (f k)) = true ∧ (tot f k : Int) < (f k).dist := fun h => by
        obtain rfl : k = K := by omega
        exact ok_no (HE.out.bad hlt)
      obtain ⟨N, hNe⟩ : ∃ N, N = tot f k := ⟨_, rfl⟩
      obtain ⟨t, hte⟩ : ∃ t, t = f k := ⟨_, rfl⟩
      obtain ⟨z, hze⟩ : ∃ z, z = sz t := ⟨_, rfl⟩
      obtain ⟨X, hX⟩ : ∃ X, X = wr.alloc (.cells (tc t) 54) := ⟨_, rfl⟩
      have HBL : Hid (Blk X wr.heap.size 54 (tc t)) := Lib.hid (by rw [hX]; exact Blk.new wr _ _)
      have HBX : Hid (Below w.heap.size w X) := Lib.hid (by rw [hX]; exact HB.out.alloc HB.out.size _)
      rw [← hte] at hs hok hno c0 c1 c2 wf
      rw [← hze] at hs
      rw [← hNe] at hs hok hno ⊢
      have HS := Lib.hid hs
      have hN : N ≤ 1000000 := by omega
      have hz : z ≤ 1000000 := by omega
      have hNz : N + z ≤ 1000000 := by omega
      have HZ := Lib.hid hze
      clear hs hm hNe hte hze
      go_upto_region 5 with (fail)
      unfold tc at hX
      rw [← hX]
      clear hX c0 c1 c2 hbl
      generalize wr.heap.size = g at *
      have x0 : X.cell? ⟨g, 0, none⟩ = some (.int .i64 t.len) := HBL.out.cell 0
      have x1 : X.cell? ⟨g, 1, none⟩ = some (.int .i64 t.dist) := HBL.out.cell 1
      have x2 : X.cell? ⟨g, 2, none⟩ = some (.int .u8 (t.byte.toNat : Int)) := HBL.out.cell 2
      go_wp2_with fail
      refine (may_any wide t X).mono ?_
      rintro e w1 ⟨rfl, hb⟩
      have HB1 : Hid (Below w.heap.size w w1) := Lib.hid (HBX.out.trans (hb.mono HBX.out.size))
      have HL1 : Hid (Blk w1 g 54 (tc t)) := Lib.hid (HBL.out.same (hb.block g HBL.out.lt))
      clear hb x0 x1 x2 HBL HBX
      have x0 : w1.cell? ⟨g, 0, none⟩ = some (.int .i64 t.len) := HL1.out.cell 0
      have x1 : w1.cell? ⟨g, 1, none⟩ = some (.int .i64 t.dist) := HL1.out.cell 1
      have x2 : w1.cell? ⟨g, 2, none⟩ = some (.int .u8 (t.byte.toNat : Int)) := HL1.out.cell 2
      by_cases hkK : k < K
      · obtain ⟨hm, hd⟩ := hok hkK
        clear hno hok
        rw [hm]
        clear hm
        go_wp2_with fail
        refine (size_any t w1).mono ?_
        rw [← HZ.out]
        rintro e w2 ⟨rfl, hb⟩
        have HB2 : Hid (Below w.heap.size w w2) := Lib.hid (HB1.out.trans (hb.mono HB1.out.size))
        clear hb
        go_wp2_with fail
        go_roundw
        case rel => exact ⟨k + 1, by omega, by go_num, by rw [HS.out]; go_num, HB2⟩
        case measure => simp [intOf]; omega
      · obtain rfl : k = K := by omega
        have hno := hno hkK
        clear hok
        rcases hno with hm | ⟨hm, hd⟩
        · rw [hm]
          clear hm
          go_wp2_with fail
          exact ⟨rfl, .inr ⟨hlt, rfl⟩, HB1.out⟩
        · rw [hm]
          clear hm
          go_wp2_with fail
          exact ⟨rfl, .inr ⟨hlt, rfl⟩, HB1.out⟩
    · obtain rfl : k = len := by omega
      obtain rfl : K = k := by omega
      go_wp2_with fail
      go_ret
      exact ⟨rfl, HB.out⟩
end Go.Proofs.YtnkfnbkjmobbnaaGreatDoor.LzC
end

section
/-
  The document's May.
-/
namespace Go.Proofs.YtnkfnbkjmobbnaaGreatDoor.LzC
open Go.RowKit Go.My LzMath WinMath

set_option maxRecDepth 100000 in
set_option maxHeartbeats 4000000 in
theorem rmay_any (wide : Bool) (t : Tok) (w : World) : Calls Tryz.prog 28 #[.agg (tc t), .bool wide] w fun e w' => e = .returned (.bool (decide (May wide t))) ∧ Below w.heap.size w w' := by
  by_cases hl : Lone t
  · have HM : Hid (decide (May wide t) = true) := Lib.hid (by simp [May, hl])
    obtain ⟨l, d, b⟩ := t
    obtain ⟨rfl, rfl⟩ : l = 0 ∧ d = 0 := hl
    unfold tc
    dsimp only
    go_enter Tryz.func28, Tryz.ntmps28
    go_wp2_with fail
    go_ret
    exact ⟨by rw [HM.out]; rfl, (Below.refl _ _).alloc (Nat.le_refl _) _⟩
  · obtain ⟨l, d, b⟩ := t
    unfold tc
    dsimp only
    cases wide
    · obtain ⟨⟨k, hk, hkd⟩, hw⟩ := may_ways (L := 258) (D := 32768) (wide := false) rfl rfl hl
      clear hl
      rcases hw with ⟨q1, hm⟩ | ⟨q1, ⟨q2, hm⟩ | ⟨q2, ⟨q3, hm⟩ | ⟨q3, ⟨q4, hm⟩ | ⟨q4, ⟨q5, hm⟩ | ⟨q5, hm⟩⟩⟩⟩⟩ <;> cases k
      all_goals (try simp only [forall_const] at hkd)
      all_goals
        have HM := Lib.hid hm
        clear hm
        go_enter Tryz.func28, Tryz.ntmps28
        go_wp2_with fail
        go_ret
        exact ⟨by rw [HM.out]; first | rfl | simp_all, (Below.refl _ _).alloc (Nat.le_refl _) _⟩
    · obtain ⟨⟨k, hk, hkd⟩, hw⟩ := may_ways (L := 65538) (D := 65536) (wide := true) rfl rfl hl
      clear hl
      rcases hw with ⟨q1, hm⟩ | ⟨q1, ⟨q2, hm⟩ | ⟨q2, ⟨q3, hm⟩ | ⟨q3, ⟨q4, hm⟩ | ⟨q4, ⟨q5, hm⟩ | ⟨q5, hm⟩⟩⟩⟩⟩ <;> cases k
      all_goals (try simp only [forall_const] at hkd)
      all_goals
        have HM := Lib.hid hm
        clear hm
        go_enter Tryz.func28, Tryz.ntmps28
        go_wp2_with fail
        go_ret
        exact ⟨by rw [HM.out]; first | rfl | simp_all, (Below.refl _ _).alloc (Nat.le_refl _) _⟩

section
variable {w wr w' : World} {aa a2 : Option Addr} {n ca c2 g : Nat} {L : List UInt8}
end

end Go.Proofs.YtnkfnbkjmobbnaaGreatDoor.LzC
end

section
/-
  Law 12's tokens: right ones, out of any row of T.
-/
namespace Go.Proofs.YtnkfnbkjmobbnaaGreatDoor.LzC
open Go.RowKit Go.My LzMath WinMath

theorem good_more {wide : Bool} {f : Nat → Tok} {k : Nat} {t : Tok} (h : GoodT wide f k) (hm : May wide t) (hd : t.dist ≤ (tot f k : Int)) :
    GoodT wide (LzMath.join f k (fun _ => t)) (k + 1) ∧ tot (LzMath.join f k (fun _ => t)) (k + 1) = tot f k + sz t := by
  have e1 : LzMath.join f k (fun _ => t) (k + 0) = t := join_right
  rw [Nat.add_zero] at e1
  refine ⟨fun i hi => ?_, ?_⟩
  · by_cases h1 : i < k
    · have := h i h1
      unfold LzMath.Ok at *
      rw [join_left h1, tot_left (by omega)]
      exact this
    · obtain rfl : i = k := by omega
      unfold LzMath.Ok
      rw [e1, tot_left (Nat.le_refl _)]
      exact ⟨hm, hd⟩
  · show tot (LzMath.join f k (fun _ => t)) k + sz (LzMath.join f k (fun _ => t) k) = _
    rw [e1, tot_left (Nat.le_refl _)]
theorem ownT_below {base n : Nat} {w w' : World} {v : Value} {f : Nat → Tok} (h : OwnT base w v n f) (hb : Below w.heap.size w w') : OwnT base w' v n f := by
  refine h.kept (row := none) ⟨hb.os, hb.tape, hb.output, hb.size, fun k hk _ => hb.block k hk⟩ ?_
  by_cases hv : v.ownBlock = none
  · exact .inl hv
  · exact .inr hv
theorem one_tok (w : World) (t : Tok) (hw : Wf t) : TokIn (w.alloc (.cells (tc t) 54)) (some ⟨w.heap.size, 0, none⟩) 1 1 (fun _ => t) := by
  have hb := Blk.new w 54 (tc t)
  refine ⟨Nat.le_refl _, by omega, (fun h => by cases h), .inr ⟨_, _, rfl, fun i hi => ?_⟩⟩
  obtain rfl : i = 0 := by omega
  exact ⟨by rw [hb.cell]; rfl, by rw [hb.cell]; rfl, by rw [hb.cell]; rfl, by simp, hw⟩
theorem un_rem (z : Int) (m : Nat) (h : 0 < m) (h2 : m ≤ 1000000) : ∃ q : Nat, q < m ∧ wrap64 ((IntKind.u64.wrap z).tmod (m : Int)) = (q : Int) ∧ (IntKind.u64.wrap z).tmod (m : Int) = (q : Int) := by
  have h0 : 0 ≤ IntKind.u64.wrap z := by rw [IntKind.wrap_u64]; omega
  rw [Int.tmod_eq_emod_of_nonneg h0]
  have h1 := Int.emod_nonneg (IntKind.u64.wrap z) (show (m : Int) ≠ 0 by omega)
  have h3 := Int.emod_lt_of_pos (IntKind.u64.wrap z) (show (0 : Int) < m by omega)
  generalize IntKind.u64.wrap z % (m : Int) = r at *
  exact ⟨r.toNat, by omega, by rw [IntWalk.wrap64_in _ (by omega)]; omega, by omega⟩

theorem lay_L (z : Int) : ∃ L : Nat, 3 ≤ L ∧ L ≤ 258 ∧ wrap64 (3 + wrap64 ((IntKind.u64.wrap z).tmod 256)) = (L : Int) := by
  obtain ⟨q, h1, h2, -⟩ := un_rem z 256 (by omega) (by omega)
  have h2' : wrap64 ((IntKind.u64.wrap z).tmod 256) = (q : Int) := h2
  rw [h2']
  clear h2 h2'
  exact ⟨3 + q, by omega, by omega, by rw [IntWalk.wrap64_in _ (by omega)]; omega⟩
theorem lay_D (z : Int) (M N : Nat) (h1 : 1 ≤ M) (h2 : M ≤ N) (h3 : M ≤ 32768) : ∃ R D : Nat, 1 ≤ D ∧ D ≤ N ∧ D ≤ 32768 ∧ wrap64 ((IntKind.u64.wrap z).tmod (M : Int)) = (R : Int) ∧ (IntKind.u64.wrap z).tmod (M : Int) = (R : Int) ∧ wrap64 (1 + (R : Int)) = (D : Int) ∧ (1 : Int) + (R : Int) = (D : Int) := by
  obtain ⟨q, h4, h5, h6⟩ := un_rem z M (by omega) (by omega)
  refine ⟨q, 1 + q, ?_, ?_, ?_, h5, h6, ?_, ?_⟩
  all_goals clear h5 h6
  · omega
  · omega
  · omega
  · rw [IntWalk.wrap64_in _ (by omega)]; omega
  · omega

end Go.Proofs.YtnkfnbkjmobbnaaGreatDoor.LzC
end
