import Derived.Test.YtbjjkhlebdaoaaaGreatDoorRows
import Derived.Test.YtbjjkhlebdaoaaaGreatDoorMgA
import Derived.Test.YtbjjkhlebdaoaaaGreatDoorMgB
import Derived.Laws.Pointers
import Derived.StillTailTactics
import Derived.Deep.RegionLaw
import Derived.Deep.DeepCutAuto
import Derived.Deep.CutBlock
import Derived.Defers
import Derived.Recover

section
/-
  Tokens in memory; a row of tokens that the call makes (without packages lz, stevedoreref5).
-/
namespace Go.Proofs.YtbjjkhlebdaoaaaGreatDoor.LzC
open Go.RowKit Go.My LzMath WinMath

/-- A token's three cells, and its value. -/
def tc (t : Tok) : Array Value := #[.int .i64 t.len, .int .i64 t.dist, .int .u8 (t.byte.toNat : Int)]
def Wf (t : Tok) : Prop := (-9223372036854775808 ≤ t.len ∧ t.len ≤ 9223372036854775807) ∧ -9223372036854775808 ≤ t.dist ∧ t.dist ≤ 9223372036854775807

theorem byte_cases (b : UInt8) : (b = 0 ∧ (b.toNat : Int) = 0) ∨ (b ≠ 0 ∧ ¬ (b.toNat : Int) = 0) := by
  by_cases h : b = 0
  · subst h; exact .inl ⟨rfl, rfl⟩
  · exact .inr ⟨h, fun e => h (by apply UInt8.toNat_inj.1; simp; omega)⟩
/-- The ways that a token goes that is no literal. -/
theorem may_ways {wide : Bool} {l d L D : Int} {b : UInt8} (hL : ml wide = L) (hD : (md wide : Int) = D) (hl : ¬ Lone ⟨l, d, b⟩) :
    (∃ k : Bool, (l == 0) = k ∧ (k = true → (d == 0) = false)) ∧ (((b.toNat : Int) == 0) = false ∧ decide (May wide ⟨l, d, b⟩) = false ∨ ((b.toNat : Int) == 0) = true ∧ (¬ 3 ≤ l ∧ decide (May wide ⟨l, d, b⟩) = false ∨ 3 ≤ l ∧ (¬ l ≤ L ∧ decide (May wide ⟨l, d, b⟩) = false ∨ l ≤ L ∧ (¬ 1 ≤ d ∧ decide (May wide ⟨l, d, b⟩) = false ∨ 1 ≤ d ∧ (¬ d ≤ D ∧ decide (May wide ⟨l, d, b⟩) = false ∨ d ≤ D ∧ decide (May wide ⟨l, d, b⟩) = true))))) := by
  have e : May wide ⟨l, d, b⟩ ↔ b = 0 ∧ 3 ≤ l ∧ l ≤ L ∧ 1 ≤ d ∧ d ≤ D := by
    rw [← hL, ← hD]; unfold May; simp only [hl, false_or]; rfl
  have hnl : ¬ (l = 0 ∧ d = 0) := hl
  refine ⟨⟨l == 0, rfl, fun h => ?_⟩, ?_⟩
  · simp only [beq_iff_eq] at h
    simp only [beq_eq_false_iff_ne]
    exact fun h2 => hnl ⟨h, h2⟩
  · simp only [decide_eq_false_iff_not, decide_eq_true_eq, e, beq_iff_eq, beq_eq_false_iff_ne]
    rcases byte_cases b with ⟨h1, h2⟩ | ⟨h1, h2⟩
    · refine .inr ⟨h2, ?_⟩
      by_cases h3 : 3 ≤ l
      · refine .inr ⟨h3, ?_⟩
        by_cases h4 : l ≤ L
        · refine .inr ⟨h4, ?_⟩
          by_cases h5 : 1 ≤ d
          · refine .inr ⟨h5, ?_⟩
            by_cases h6 : d ≤ D
            · exact .inr ⟨h6, h1, h3, h4, h5, h6⟩
            · exact .inl ⟨h6, fun h => h6 h.2.2.2.2⟩
          · exact .inl ⟨h5, fun h => h5 h.2.2.2.1⟩
        · exact .inl ⟨h4, fun h => h4 h.2.2.1⟩
      · exact .inl ⟨h3, fun h => h3 h.2.1⟩
    · exact .inl ⟨h2, fun h => h1 h.1⟩

/-- Token number i of the slice that begins at (b, off). -/
structure TokAt (w : World) (b off i : Nat) (t : Tok) : Prop where
  len : w.cell? ⟨b, off + i * 3, none⟩ = some (.int .i64 t.len)
  dist : w.cell? ⟨b, off + i * 3 + 1, none⟩ = some (.int .i64 t.dist)
  byte : w.cell? ⟨b, off + i * 3 + 2, none⟩ = some (.int .u8 (t.byte.toNat : Int))
  lt : b < w.heap.size
  wf : Wf t
/-- A slice of tokens. -/
structure TokIn (w : World) (a : Option Addr) (len cap : Nat) (f : Nat → Tok) : Prop where
  le_cap : len ≤ cap
  cap_le : cap ≤ 9223372036854775807
  nil : a = none → len = 0 ∧ cap = 0
  at_ : len = 0 ∨ ∃ b off, a = some ⟨b, off, none⟩ ∧ ∀ i, i < len → TokAt w b off i (f i)
section
variable {w w' : World} {a : Option Addr} {b off i len cap B : Nat} {t : Tok} {f : Nat → Tok}
theorem TokAt.below (h : TokAt w b off i t) (hB : w.heap.size ≤ B) (hb : Below B w w') : TokAt w' b off i t := by
  have hc : ∀ k, w'.cell? ⟨b, k, none⟩ = w.cell? ⟨b, k, none⟩ := fun k => hb.cell (p := ⟨b, k, none⟩) (Nat.lt_of_lt_of_le h.lt hB)
  exact ⟨by rw [hc]; exact h.len, by rw [hc]; exact h.dist, by rw [hc]; exact h.byte, Nat.lt_of_lt_of_le h.lt hb.size, h.wf⟩
theorem TokIn.below (h : TokIn w a len cap f) (hB : w.heap.size ≤ B) (hb : Below B w w') : TokIn w' a len cap f := by
  refine ⟨h.le_cap, h.cap_le, h.nil, h.at_.imp_right ?_⟩
  rintro ⟨b, off, ha, hc⟩
  exact ⟨b, off, ha, fun i hi => (hc i hi).below hB hb⟩
theorem TokIn.get (h : TokIn w a len cap f) (hi : i < len) : ∃ b off, a = some ⟨b, off, none⟩ ∧ TokAt w b off i (f i) := by
  rcases h.at_ with h0 | ⟨b, off, ha, hc⟩
  · omega
  · exact ⟨b, off, ha, hc i hi⟩
end
theorem infoT : (Tryz.prog.info? 96).map (fun i => (i.zero, i.size, i.bytes)) = some (some (.agg #[.int .i64 0, .int .i64 0, .int .u8 0]), 3, 24) := by kernel_rfl

/-- The cells of n tokens. -/
def toks (f : Nat → Tok) : Nat → List Value
  | 0 => []
  | k + 1 => toks f k ++ [.int .i64 (f k).len, .int .i64 (f k).dist, .int .u8 ((f k).byte.toNat : Int)]
theorem toks_len (f : Nat → Tok) (n : Nat) : (toks f n).length = n * 3 := by
  induction n with
  | zero => rfl
  | succ n ih => show (toks f n ++ _).length = _; rw [List.length_append, ih]; simp; omega
theorem toks_get (f : Nat → Tok) (n i : Nat) (hi : i < n) : (toks f n)[i * 3]? = some (.int .i64 (f i).len) ∧ (toks f n)[i * 3 + 1]? = some (.int .i64 (f i).dist) ∧ (toks f n)[i * 3 + 2]? = some (.int .u8 ((f i).byte.toNat : Int)) := by
  induction n with
  | zero => omega
  | succ n ih =>
    have hl := toks_len f n
    show (toks f n ++ _)[i * 3]? = _ ∧ (toks f n ++ _)[i * 3 + 1]? = _ ∧ (toks f n ++ _)[i * 3 + 2]? = _
    by_cases h : i < n
    · rw [List.getElem?_append_left (by omega), List.getElem?_append_left (by omega), List.getElem?_append_left (by omega)]
      exact ih h
    · obtain rfl : i = n := by omega
      rw [List.getElem?_append_right (by omega), List.getElem?_append_right (by omega), List.getElem?_append_right (by omega), hl]
      rw [show i * 3 - i * 3 = 0 from by omega, show i * 3 + 1 - i * 3 = 1 from by omega, show i * 3 + 2 - i * 3 = 2 from by omega]
      exact ⟨rfl, rfl, rfl⟩
theorem toks_congr (f g : Nat → Tok) (n : Nat) (h : ∀ i, i < n → f i = g i) : toks f n = toks g n := by
  induction n with
  | zero => rfl
  | succ n ih => show toks f n ++ _ = toks g n ++ _; rw [ih (fun i hi => h i (by omega)), h n (by omega)]
theorem toks_join (f g : Nat → Tok) (n m : Nat) : toks (LzMath.join f n g) (n + m) = toks f n ++ toks g m := by
  induction m with
  | zero => show toks _ n = _ ++ []; rw [List.append_nil]; exact toks_congr _ _ _ (fun i hi => join_left hi)
  | succ m ih => show toks _ (n + m) ++ [.int .i64 (LzMath.join f n g (n + m)).len, .int .i64 (LzMath.join f n g (n + m)).dist, .int .u8 ((LzMath.join f n g (n + m)).byte.toNat : Int)] = _ ++ (toks g m ++ _); rw [ih, join_right, List.append_assoc]
theorem toks_one (f : Nat → Tok) (n : Nat) : ∀ u ∈ toks f n, u.oneCell' = true := by
  induction n with
  | zero => intro u hu; cases hu
  | succ n ih =>
    intro u hu
    rcases List.mem_append.1 hu with h | h
    · exact ih u h
    · simp only [List.mem_cons, List.not_mem_nil, or_false] at h
      rcases h with rfl | rfl | rfl <;> rfl

/-- A value that is a slice of n tokens of the call's own. -/
def OwnT (base : Nat) (w : World) (v : Value) (n : Nat) (f : Nat → Tok) : Prop := w.ownsRow base 96 3 v n (toks f n)
theorem OwnT.empty {base : Nat} (w : World) (f : Nat → Tok) (hb : base ≤ w.heap.size) : OwnT base (w.alloc (.cells #[] 96)) (.slice (some ⟨w.heap.size, 0, none⟩) 0 0) 0 f :=
  World.ownsRow_lit w #[] 0 hb (by unfold maxLen; omega) rfl
theorem OwnT.toks {base n : Nat} {w : World} {v : Value} {f : Nat → Tok} (h : OwnT base w v n f) (hw : ∀ i, i < n → Wf (f i)) : ∃ a c, v = .slice a n c ∧ TokIn w a n c f := by
  rcases h.2 with ⟨rfl, rfl⟩ | ⟨g, cap, cur, rfl, hg, hh, hn, hm, hs, ht⟩
  · exact ⟨none, 0, rfl, Nat.le_refl _, by omega, fun _ => ⟨rfl, rfl⟩, .inl rfl⟩
  · unfold maxLen at hm
    refine ⟨_, cap, rfl, hn, hm, (fun h => by cases h), .inr ⟨g, 0, rfl, fun i hi => ?_⟩⟩
    have hlt : g < w.heap.size := by
      by_cases hlt : g < w.heap.size
      · exact hlt
      · rw [Array.getElem?_eq_none (by omega)] at hh; cases hh
    have hc : ∀ j, j < n * 3 → w.cell? ⟨g, j, none⟩ = (LzC.toks f n)[j]? := fun j hj => by
      rw [cell_of_row _ _ _ _ _ _ hh, ← ht, List.getElem?_take, if_pos hj, Array.getElem?_toList]
    obtain ⟨h1, h2, h3⟩ := toks_get f n i hi
    exact ⟨by rw [Nat.zero_add, hc _ (by omega)]; exact h1, by rw [Nat.zero_add, hc _ (by omega)]; exact h2, by rw [Nat.zero_add, hc _ (by omega)]; exact h3, hlt, hw i hi⟩
theorem OwnT.grown {base n : Nat} {w0 w w' : World} {v : Value} {f : Nat → Tok} (hown : OwnT base w v n f) (h : Below base w0 w) (hg : w.grownBy w' v.ownBlock) (hb : base ≤ w.heap.size) : Below base w0 w' :=
  h.grown hg hb fun k hk => (World.ownsRow.lt hown k hk).1

/-- append(v, x...) of tokens. -/
theorem wp_append_toks {w : World} {o : Oper} {a : Act} {K : Act → World → Prop} {Q : Exit → Act → World → Prop} (s x : Operand)
    (ho : o.op = .call { callee := .builtin .append, args := #[s, x], argTypes := #[48, 48] }) (base : Nat)
    (v : Value) (n : Nat) (f : Nat → Tok) (hs : a.eval s = v) (hown : OwnT base w v n f) (ad : Option Addr) (m c : Nat) (g : Nat → Tok) (hx : a.eval x = .slice ad m c) (hb : TokIn w ad m c g)
    (hlen : n + m ≤ 1000000) (hbase : base ≤ w.heap.size)
    (h : ∀ v' w', OwnT base w' v' (n + m) (LzMath.join f n g) → w.grownBy w' v.ownBlock → K (a.put o.dst v') w') : o.wp Tryz.prog a w K Q := by
  obtain ⟨i, hi, hz0, hz1, hz2⟩ := info_parts infoT
  cases ad with
  | none =>
    obtain ⟨rfl, rfl⟩ := hb.nil rfl
    have hrun := run_append_owned_none (P := Tryz.prog) (w := w) base 48 o.type 96 i 3 Tryz.underlying48 hi v n (toks f n) hown
    unfold Oper.wp
    simp [execOp, ho, resolve, invoke, builtin, hs, hx, hrun, Result.andThen]
    refine h v w ?_ ⟨rfl, rfl, rfl, Nat.le_refl _, fun _ _ _ => rfl⟩
    unfold OwnT
    rw [toks_join, show toks g 0 = [] from rfl, List.append_nil]
    exact hown
  | some ad =>
    refine wp_append_own w s x 48 ho base 96 i _ 3 24 Tryz.underlying48 hi hz0 hz1 hz2 rfl (by decide) v n (toks f n) hs hown ad m c (toks g m) hx (toks_len g m) ?_ (toks_one g m) (by unfold maxLen; omega) (by omega) hbase ?_
    · intro j u hu
      have hj : j < m * 3 := by have := (List.getElem?_eq_some_iff.1 hu).1; rw [toks_len] at this; exact this
      rcases hb.at_ with h0 | ⟨b, off, hab, hc⟩
      · omega
      · simp only [Option.some.injEq] at hab
        subst hab
        obtain ⟨h1, h2, h3⟩ := toks_get g m (j / 3) (by omega)
        have ht := hc (j / 3) (by omega)
        rw [addr_add]
        have hr : j % 3 = 0 ∨ j % 3 = 1 ∨ j % 3 = 2 := by omega
        rcases hr with hr | hr | hr
        · rw [show j = j / 3 * 3 from by omega] at hu ⊢
          rw [ht.len, ← h1]; exact hu
        · rw [show j = j / 3 * 3 + 1 from by omega] at hu ⊢
          rw [← Nat.add_assoc, ht.dist, ← h2]; exact hu
        · rw [show j = j / 3 * 3 + 2 from by omega] at hu ⊢
          rw [← Nat.add_assoc, ht.byte, ← h3]; exact hu
    · intro v' w' h1 h2 _
      refine h v' w' ?_ h2
      unfold OwnT
      rw [toks_join]
      exact h1
theorem wpList_append_toks {w : World} {ops : Array Oper} {rest : List Oper} {o : Oper} {a : Act} {Q : Exit → Act → World → Prop} (hw : Region.wanted o (yielded ops a.tmps) = true) (s x : Operand)
    (ho : o.op = .call { callee := .builtin .append, args := #[s, x], argTypes := #[48, 48] }) (base : Nat)
    (v : Value) (n : Nat) (f : Nat → Tok) (hs : a.eval s = v) (hown : OwnT base w v n f) (ad : Option Addr) (m c : Nat) (g : Nat → Tok) (hx : a.eval x = .slice ad m c) (hb : TokIn w ad m c g)
    (hlen : n + m ≤ 1000000) (hbase : base ≤ w.heap.size)
    (h : ∀ v' w', OwnT base w' v' (n + m) (LzMath.join f n g) → w.grownBy w' v.ownBlock → wpList Tryz.prog ops Q rest (a.put o.dst v') w') : wpList Tryz.prog ops Q (o :: rest) a w :=
  wpList_of_wp hw fun _ hK => wp_append_toks s x ho base v n f hs hown ad m c g hx hb hlen hbase fun v' w' h1 h2 => hK _ _ (h v' w' h1 h2)
theorem md_ok (wide : Bool) : 0 < md wide ∧ md wide ≤ 65536 := by cases wide <;> simp [md]
theorem ml_ok (wide : Bool) : ml wide ≤ 65538 := by cases wide <;> simp [ml]
/-- A match's numbers. -/
theorem mat_nums {wide : Bool} {f : Nat → Tok} {k : Nat} (h : Ok wide f k) (h0 : (f k).len ≠ 0) :
    ∃ d n : Nat, f k = ⟨(n : Int), (d : Int), 0⟩ ∧ 3 ≤ n ∧ n ≤ 65538 ∧ 1 ≤ d ∧ d ≤ md wide ∧ d ≤ tot f k ∧ ex f (k + 1) = grow (ex f k) d n ∧ tot f (k + 1) = tot f k + n := by
  obtain ⟨hm, hd⟩ := h
  have hml := ml_ok wide
  rcases hm with hm | ⟨h1, h2, h3, h4, h5⟩
  · exact absurd hm.1 h0
  · have e : ex f (k + 1) = grow (ex f k) (f k).dist.toNat (f k).len.toNat := by show LzMath.step _ _ = _; unfold LzMath.step; rw [if_neg h0]
    have s : tot f (k + 1) = tot f k + (f k).len.toNat := by show tot f k + sz _ = _; unfold sz; rw [if_neg h0]
    generalize f k = t at *
    obtain ⟨l, d, b⟩ := t
    simp only at *
    obtain ⟨n, rfl⟩ := Int.eq_ofNat_of_zero_le (show 0 ≤ l by omega)
    obtain ⟨d, rfl⟩ := Int.eq_ofNat_of_zero_le (show 0 ≤ d by omega)
    subst h1
    simp only [Int.toNat_natCast] at e s
    exact ⟨d, n, rfl, by omega, by omega, by omega, by omega, by omega, e, s⟩
theorem lit_nums {wide : Bool} {f : Nat → Tok} {k : Nat} (h : Ok wide f k) (h0 : (f k).len = 0) : ∃ c : UInt8, f k = ⟨0, 0, c⟩ ∧ ex f (k + 1) = ex f k ++ [c] ∧ tot f (k + 1) = tot f k + 1 := by
  obtain ⟨hm, hd⟩ := h
  have e : ex f (k + 1) = ex f k ++ [(f k).byte] := by show LzMath.step _ _ = _; unfold LzMath.step; rw [if_pos h0]
  have s : tot f (k + 1) = tot f k + 1 := by show tot f k + sz _ = _; unfold sz; rw [if_pos h0]
  rcases hm with hm | hm
  · refine ⟨(f k).byte, ?_, e, s⟩
    obtain ⟨h1, h2⟩ := hm
    generalize f k = t at *
    obtain ⟨l, d, b⟩ := t
    simp only at h1 h2
    subst h1 h2
    rfl
  · have := hm.2.1
    omega

/-- A row of bytes of the call's own, and nothing elder turned. -/
structure Ro (w wr : World) (aa : Option Addr) (n ca : Nat) (L : List UInt8) : Prop where
  own : Own 5 w.heap.size wr (.slice aa n ca) L
  len : L.length = n
  below : Below w.heap.size w wr
section
variable {w wr w' : World} {aa a2 : Option Addr} {n ca c2 g : Nat} {L : List UInt8}
theorem Ro.later (h : Ro w wr aa n ca L) (hb : Below wr.heap.size wr w') : Ro w w' aa n ca L := ⟨h.own.below (Nat.le_refl _) hb, h.len, h.below.trans (hb.mono h.below.size)⟩
theorem Ro.app (h : Ro w wr aa n ca L) {o : Obj} {c : UInt8} (hown : Own 5 w.heap.size w' (.slice a2 (n + 1) c2) (L ++ [c])) (hg : (wr.alloc o).grownBy w' (Value.ownBlock (.slice aa n ca))) : Ro w w' a2 (n + 1) c2 (L ++ [c]) := by
  have hO : Only (fun k => Value.ownBlock (.slice aa n ca) = some k) wr w' := ((Only.refl _ wr).alloc o).grown hg (fun k _ hk => hk)
  exact ⟨hown, by rw [List.length_append, h.len]; rfl, h.below.trans (hO.below h.below.size (fun k hk => (World.ownsRow.lt h.own k hk).1))⟩
theorem Ro.blk (h : Ro w wr aa n ca L) {o : Obj} (hg : (wr.alloc o).grownBy w' (Value.ownBlock (.slice aa n ca))) {cs : Array Value} (hb : Blk wr g 96 cs) : Blk w' g 96 cs :=
  (hb.alloc o).grown hg (Ne.symm (own_len_ne h.own hb (by decide)))
theorem Ro.get (h : Ro w wr aa n ca L) (i : Nat) (hi : i < n) : ∃ ga, aa = some ⟨ga, 0, none⟩ ∧ wr.cell? ⟨ga, i, none⟩ = some (bv (L.getD i 0)) := by
  have hl := h.len
  obtain ⟨ga, c, h1, _⟩ := h.own.some_ (by omega)
  simp only [Value.slice.injEq] at h1
  obtain ⟨rfl, -, -⟩ := h1
  refine ⟨ga, rfl, ?_⟩
  rw [Go.My.own_cell h.own hl i (by omega), List.getD_eq_getElem?_getD, List.getElem?_eq_getElem (by omega)]
  rfl
end

end Go.Proofs.YtbjjkhlebdaoaaaGreatDoor.LzC
end

section
/-
  bounds, May.
-/
namespace Go.Proofs.YtbjjkhlebdaoaaaGreatDoor.LzC
open Go.RowKit Go.My LzMath

theorem bounds_any (wide : Bool) (w : World) : Calls Tryz.prog 82 #[.bool wide] w fun e w' => e = .returned (.tuple #[.int .i64 (ml wide), .int .i64 (md wide : Int)]) ∧ w = w' := by
  cases wide
  · go_enter Tryz.func82, Tryz.ntmps82
    go_wp2_with fail
    go_ret2
    exact ⟨rfl, rfl⟩
  · go_enter Tryz.func82, Tryz.ntmps82
    go_wp2_with fail
    go_ret2
    exact ⟨rfl, rfl⟩

set_option maxRecDepth 100000 in
set_option maxHeartbeats 4000000 in
theorem may_any (wide : Bool) (t : Tok) (w : World) : Calls Tryz.prog 62 #[.agg (tc t), .bool wide] w fun e w' => e = .returned (.bool (decide (May wide t))) ∧ Below w.heap.size w w' := by
  by_cases hl : Lone t
  · have HM : Hid (decide (May wide t) = true) := Lib.hid (by simp [May, hl])
    obtain ⟨l, d, b⟩ := t
    obtain ⟨rfl, rfl⟩ : l = 0 ∧ d = 0 := hl
    unfold tc
    dsimp only
    go_enter Tryz.func62, Tryz.ntmps62
    go_wp2_with fail
    go_ret
    exact ⟨by rw [HM.out]; rfl, (Below.refl _ _).alloc (Nat.le_refl _) _⟩
  · obtain ⟨l, d, b⟩ := t
    unfold tc
    dsimp only
    cases wide
    · obtain ⟨⟨k, hk, hkd⟩, hw⟩ := may_ways (L := 258) (D := 32768) (wide := false) rfl rfl hl
      clear hl
      rcases hw with ⟨q1, hm⟩ | ⟨q1, ⟨q2, hm⟩ | ⟨q2, ⟨q3, hm⟩ | ⟨q3, ⟨q4, hm⟩ | ⟨q4, ⟨q5, hm⟩ | ⟨q5, hm⟩⟩⟩⟩⟩ <;> cases k
      all_goals (try simp only [forall_const] at hkd)
      all_goals
        have HM := Lib.hid hm
        clear hm
        go_enter Tryz.func62, Tryz.ntmps62
        go_wp2_with fail
        refine (bounds_any false _).mono ?_
        rw [show ml false = 258 from rfl, show (md false : Int) = 32768 from rfl]
        rintro e w' ⟨rfl, rfl⟩
        go_wp2_with fail
        go_ret
        exact ⟨by rw [HM.out]; first | rfl | simp_all, (Below.refl _ _).alloc (Nat.le_refl _) _⟩
    · obtain ⟨⟨k, hk, hkd⟩, hw⟩ := may_ways (L := 65538) (D := 65536) (wide := true) rfl rfl hl
      clear hl
      rcases hw with ⟨q1, hm⟩ | ⟨q1, ⟨q2, hm⟩ | ⟨q2, ⟨q3, hm⟩ | ⟨q3, ⟨q4, hm⟩ | ⟨q4, ⟨q5, hm⟩ | ⟨q5, hm⟩⟩⟩⟩⟩ <;> cases k
      all_goals (try simp only [forall_const] at hkd)
      all_goals
        have HM := Lib.hid hm
        clear hm
        go_enter Tryz.func62, Tryz.ntmps62
        go_wp2_with fail
        refine (bounds_any true _).mono ?_
        rw [show ml true = 65538 from rfl, show (md true : Int) = 65536 from rfl]
        rintro e w' ⟨rfl, rfl⟩
        go_wp2_with fail
        go_ret
        exact ⟨by rw [HM.out]; first | rfl | simp_all, (Below.refl _ _).alloc (Nat.le_refl _) _⟩

end Go.Proofs.YtbjjkhlebdaoaaaGreatDoor.LzC
end

section
/-
  Sizes of tokens: Size, the document's Size, Few.
-/
namespace Go.Proofs.YtbjjkhlebdaoaaaGreatDoor.LzC
open Go.RowKit Go.My LzMath

theorem size_any (t : Tok) (w : World) : Calls Tryz.prog 72 #[.agg (tc t)] w fun e w' => e = .returned (.int .i64 (sz t : Int)) ∧ Below w.heap.size w w' := by
  obtain ⟨l, d, b⟩ := t
  unfold tc
  dsimp only
  by_cases h0 : l = 0
  · subst h0
    go_enter Tryz.func72, Tryz.ntmps72
    go_wp2_with fail
    go_ret
    exact ⟨rfl, (Below.refl _ _).alloc (Nat.le_refl _) _⟩
  · have HS : Hid ((sz ⟨l, d, b⟩ : Nat) = l.toNat) := Lib.hid (by unfold sz; rw [if_neg h0])
    by_cases h1 : l < 0
    · go_enter Tryz.func72, Tryz.ntmps72
      go_wp2_with fail
      go_ret
      exact ⟨by rw [HS.out]; exact ret_int (by omega), (Below.refl _ _).alloc (Nat.le_refl _) _⟩
    · go_enter Tryz.func72, Tryz.ntmps72
      go_wp2_with fail
      go_ret
      exact ⟨by rw [HS.out]; exact ret_int (by omega), (Below.refl _ _).alloc (Nat.le_refl _) _⟩

theorem sz_le (t : Tok) (h : Wf t) : sz t ≤ 9223372036854775807 := by
  have := h.1.2
  unfold sz
  split <;> omega

/-- The number of bytes, no more than 2^40. -/
def cap (f : Nat → Tok) (k : Nat) : Nat := min (tot f k) 1099511627776
set_option maxRecDepth 100000 in
set_option maxHeartbeats 4000000 in
theorem size_all (a : Option Addr) (len c : Nat) (f : Nat → Tok) (w : World) (h : TokIn w a len c f) :
    Calls Tryz.prog 43 #[.slice a len c] w fun e w' => e = .returned (.int .i64 (cap f len : Int)) ∧ Below w.heap.size w w' := by
  have H := Lib.hid h
  have hlc := h.le_cap
  have hcm := h.cap_le
  clear h
  go_enter Tryz.func43, Tryz.ntmps43
  go_wp2_with fail
  go_loopw [3, 8] (fun n i wr => ∃ k : Nat, k ≤ len ∧ i = .int .i64 (k : Int) ∧ n = .int .i64 (cap f k : Int) ∧ Hid (Below w.heap.size w wr)) (fun _ i _ => len - (intOf i).toNat)
  case atStart => exact ⟨0, Nat.zero_le _, rfl, rfl, Lib.hid (Below.refl _ _)⟩
  case round =>
    obtain ⟨k, hk, rfl, rfl, HB⟩ := hrel
    by_cases hlt : k < len
    · obtain ⟨b, off, rfl, ho⟩ := (H.out.below (Nat.le_refl _) HB.out).get hlt
      obtain ⟨c0, c1, c2, hbl, wf⟩ := ho
      have hs : cap f (k + 1) = min (cap f k + sz (f k)) 1099511627776 := by show min (tot f k + sz (f k)) _ = _; unfold cap; omega
      have hN : cap f k ≤ 1099511627776 := by unfold cap; omega
      have hz := sz_le (f k) wf
      obtain ⟨N, hNe⟩ : ∃ N, N = cap f k := ⟨_, rfl⟩
      obtain ⟨t, ht⟩ : ∃ t, t = f k := ⟨_, rfl⟩
      obtain ⟨z, hze⟩ : ∃ z, z = sz t := ⟨_, rfl⟩
      rw [← hNe] at hs hN ⊢
      rw [← ht] at c0 c1 c2 wf hs hz
      rw [← hze] at hs hz
      obtain ⟨M, hM⟩ : ∃ M, M = min z (1099511627776 - N) := ⟨_, rfl⟩
      have hmin : (if (1099511627776 : Int) - (N : Int) < (z : Int) then (1099511627776 : Int) - (N : Int) else (z : Int)) = (M : Int) := by split <;> omega
      have hMb : N + M ≤ 1099511627776 := by omega
      have HS : Hid (cap f (k + 1) = N + M) := Lib.hid (by omega)
      have HZ := Lib.hid hze
      clear hs hM hNe ht hze
      go_wp2_with fail
      refine (size_any t _).mono ?_
      rw [← HZ.out]
      rintro e w1 ⟨rfl, hb⟩
      have HB1 : Hid (Below w.heap.size w w1) := Lib.hid ((HB.out.alloc HB.out.size _).trans (hb.mono (by have := HB.out.size; simp; omega)))
      clear hb
      go_wp2_with fail
      go_roundw
      case rel => exact ⟨k + 1, by omega, by go_num, by rw [HS.out]; go_num, HB1⟩
      case measure => simp [intOf]; omega
    · obtain rfl : k = len := by omega
      go_wp2_with fail
      go_ret
      exact ⟨rfl, HB.out⟩

end Go.Proofs.YtbjjkhlebdaoaaaGreatDoor.LzC
end

section
/-
  measure (on XTok0).
-/
namespace Go.Proofs.YtbjjkhlebdaoaaaGreatDoor.LzC
open Go.RowKit Go.My LzMath

/-- What a fault is, thrown. -/
def fault (c at_ : Int) : Value := .iface 145 (.agg #[.int .i64 c, .int .i64 at_])
/-- Token K is the first that may not stand there, or there is none. -/
structure EndsT (wide : Bool) (f : Nat → Tok) (len K : Nat) : Prop where
  le : K ≤ len
  good : GoodT wide f K
  bad : K < len → ¬ Ok wide f K
theorem ok_no {wide : Bool} {f : Nat → Tok} {k : Nat} (h : ¬ Ok wide f k) : decide (May wide (f k)) = false ∨ decide (May wide (f k)) = true ∧ (tot f k : Int) < (f k).dist := by
  by_cases hm : May wide (f k)
  · exact .inr ⟨by simpa using hm, by have : ¬ (f k).dist ≤ (tot f k : Int) := fun h2 => h ⟨hm, h2⟩
                                      omega⟩
  · exact .inl (by simpa using hm)

set_option maxRecDepth 100000 in
set_option maxHeartbeats 4000000 in
theorem measure_any (wide : Bool) (a : Option Addr) (len c : Nat) (f : Nat → Tok) (K : Nat) (w : World) (h : TokIn w a len c f) (hE : EndsT wide f len K) (ht : tot f len ≤ 1000000) :
    Calls Tryz.prog 76 #[.slice a len c, .bool wide] w fun e w' =>
      (K = len ∧ e = .returned (.int .i64 (tot f len : Int)) ∨ K < len ∧ e = .panicked [{ v := fault 2 (K : Int), recovered := false }]) ∧ Below w.heap.size w w' := by
  have H := Lib.hid h
  have hlc := h.le_cap
  have hcm := h.cap_le
  have HE := Lib.hid hE
  have hKl := hE.le
  clear h hE
  go_enter Tryz.func76, Tryz.ntmps76
  go_wp2_with fail
  go_loopw [5, 10] (fun n i wr => ∃ k : Nat, k ≤ K ∧ i = .int .i64 (k : Int) ∧ n = .int .i64 (tot f k : Int) ∧ Hid (Below w.heap.size w wr)) (fun _ i _ => len - (intOf i).toNat)
  case atStart => exact ⟨0, Nat.zero_le _, rfl, rfl, Lib.hid (Below.refl _ _)⟩
  case round =>
    obtain ⟨k, hk, rfl, rfl, HB⟩ := hrel
    by_cases hlt : k < len
    · obtain ⟨b, off, rfl, ho⟩ := (H.out.below (Nat.le_refl _) HB.out).get hlt
      obtain ⟨c0, c1, c2, hbl, wf⟩ := ho
      have hs : tot f (k + 1) = tot f k + sz (f k) := rfl
      have hm := tot_mono f (k + 1) len hlt
      have hok : k < K → decide (May wide (f k)) = true ∧ ¬ (tot f k : Int) < (f k).dist := fun h => by
        obtain ⟨h1, h2⟩ := HE.out.good k h
        exact ⟨by simpa using h1, by omega⟩
      have hno : ¬ k < K → decide (May wide (f k)) = false ∨ decide (May wide (f k)) = true ∧ (tot f k : Int) < (f k).dist := fun h => by
        obtain rfl : k = K := by omega
        exact ok_no (HE.out.bad hlt)
      obtain ⟨N, hNe⟩ : ∃ N, N = tot f k := ⟨_, rfl⟩
      obtain ⟨t, hte⟩ : ∃ t, t = f k := ⟨_, rfl⟩
      obtain ⟨z, hze⟩ : ∃ z, z = sz t := ⟨_, rfl⟩
      obtain ⟨X, hX⟩ : ∃ X, X = wr.alloc (.cells (tc t) 96) := ⟨_, rfl⟩
      have HBL : Hid (Blk X wr.heap.size 96 (tc t)) := Lib.hid (by rw [hX]; exact Blk.new wr _ _)
      have HBX : Hid (Below w.heap.size w X) := Lib.hid (by rw [hX]; exact HB.out.alloc HB.out.size _)
      rw [← hte] at hs hok hno c0 c1 c2 wf
      rw [← hze] at hs
      rw [← hNe] at hs hok hno ⊢
      have HS := Lib.hid hs
      have hN : N ≤ 1000000 := by omega
      have hz : z ≤ 1000000 := by omega
      have hNz : N + z ≤ 1000000 := by omega
      have HZ := Lib.hid hze
      clear hs hm hNe hte hze
      go_upto_region 5 with (fail)
      unfold tc at hX
      rw [← hX]
      clear hX c0 c1 c2 hbl
      generalize wr.heap.size = g at *
      have x0 : X.cell? ⟨g, 0, none⟩ = some (.int .i64 t.len) := HBL.out.cell 0
      have x1 : X.cell? ⟨g, 1, none⟩ = some (.int .i64 t.dist) := HBL.out.cell 1
      have x2 : X.cell? ⟨g, 2, none⟩ = some (.int .u8 (t.byte.toNat : Int)) := HBL.out.cell 2
      go_wp2_with fail
      refine (may_any wide t X).mono ?_
      rintro e w1 ⟨rfl, hb⟩
      have HB1 : Hid (Below w.heap.size w w1) := Lib.hid (HBX.out.trans (hb.mono HBX.out.size))
      have HL1 : Hid (Blk w1 g 96 (tc t)) := Lib.hid (HBL.out.same (hb.block g HBL.out.lt))
      clear hb x0 x1 x2 HBL HBX
      have x0 : w1.cell? ⟨g, 0, none⟩ = some (.int .i64 t.len) := HL1.out.cell 0
      have x1 : w1.cell? ⟨g, 1, none⟩ = some (.int .i64 t.dist) := HL1.out.cell 1
      have x2 : w1.cell? ⟨g, 2, none⟩ = some (.int .u8 (t.byte.toNat : Int)) := HL1.out.cell 2
      by_cases hkK : k < K
      · obtain ⟨hm, hd⟩ := hok hkK
        clear hno hok
        rw [hm]
        clear hm
        go_wp2_with fail
        refine (size_any t w1).mono ?_
        rw [← HZ.out]
        rintro e w2 ⟨rfl, hb⟩
        have HB2 : Hid (Below w.heap.size w w2) := Lib.hid (HB1.out.trans (hb.mono HB1.out.size))
        clear hb
        go_wp2_with fail
        go_roundw
        case rel => exact ⟨k + 1, by omega, by go_num, by rw [HS.out]; go_num, HB2⟩
        case measure => simp [intOf]; omega
      · obtain rfl : k = K := by omega
        have hno := hno hkK
        clear hok
        rcases hno with hm | ⟨hm, hd⟩
        · rw [hm]
          clear hm
          go_wp2_with fail
          exact ⟨rfl, .inr ⟨hlt, rfl⟩, HB1.out⟩
        · rw [hm]
          clear hm
          go_wp2_with fail
          exact ⟨rfl, .inr ⟨hlt, rfl⟩, HB1.out⟩
    · obtain rfl : k = len := by omega
      obtain rfl : K = k := by omega
      go_wp2_with fail
      go_ret
      exact ⟨rfl, HB.out⟩
end Go.Proofs.YtbjjkhlebdaoaaaGreatDoor.LzC
end

section
/-
  The tokens of some bytes. Plain mathematics.
-/
namespace MatMath
open LzMath (Tok)

/-- What is asked for. -/
structure Pl where
  store : Bool
  chain : Int
  lazy : Bool
  good : Int
  wide : Bool
def Pl.find (p : Pl) (s : List UInt8) (a : Nat) : Nat × Nat := MatMath.find s p.chain p.good p.wide a
/-- Is the byte there a literal? -/
def lit (p : Pl) (s : List UInt8) (a : Nat) : Bool :=
  p.store || (p.find s a).1 == 0 || p.lazy && (decide (((p.find s a).1 : Int) < p.good) && decide ((p.find s a).1 < (p.find s (a + 1)).1))
def tkAt (p : Pl) (s : List UInt8) (a : Nat) : Tok := if lit p s a then ⟨0, 0, at_ s a⟩ else ⟨((p.find s a).1 : Int), ((p.find s a).2 : Int), 0⟩
def stp (p : Pl) (s : List UInt8) (a : Nat) : Nat := if lit p s a then 1 else (p.find s a).1
def pos (p : Pl) (s : List UInt8) : Nat → Nat
  | 0 => 0
  | k + 1 => pos p s k + stp p s (pos p s k)
def tk (p : Pl) (s : List UInt8) (k : Nat) : Tok := tkAt p s (pos p s k)
/-- So many tokens. -/
def Many (p : Pl) (s : List UInt8) (K : Nat) : Prop := (∀ j, j < K → pos p s j < s.length) ∧ s.length ≤ pos p s K
section
variable {p : Pl} {s : List UInt8}
theorem lit_store (h : p.store = true) (a : Nat) : lit p s a = true := by simp [lit, h]
theorem not_lit {a : Nat} (h : lit p s a = false) : ∃ n d : Nat, p.find s a = (n, d) ∧ 3 ≤ n ∧ n ≤ long_ p.wide ∧ a + n ≤ s.length ∧ 1 ≤ d ∧ d ≤ far_ p.wide ∧ d ≤ a ∧ ∀ i, i < n → at_ s (a + i) = at_ s (a + i - d) := by
  obtain ⟨n, d, h1, h2⟩ := find_nums s p.chain p.good p.wide a
  have h1' : p.find s a = (n, d) := h1
  rcases h2 with ⟨rfl, _⟩ | h2
  · simp [lit, h1'] at h
  · exact ⟨n, d, h1', h2⟩
theorem stp_pos (a : Nat) : 1 ≤ stp p s a := by
  unfold stp
  split
  · exact Nat.le_refl _
  · next h =>
    obtain ⟨n, d, h1, h2, _⟩ := not_lit (p := p) (s := s) (a := a) (by simpa using h)
    rw [h1]; simp only; omega
theorem stp_le {a : Nat} (ha : a < s.length) : a + stp p s a ≤ s.length := by
  unfold stp
  split
  · omega
  · next h =>
    obtain ⟨n, d, h1, _, _, h4, _⟩ := not_lit (p := p) (s := s) (a := a) (by simpa using h)
    rw [h1]; exact h4
theorem pos_lt (k : Nat) : pos p s k < pos p s (k + 1) := by
  have := stp_pos (p := p) (s := s) (pos p s k)
  show _ < pos p s k + _
  omega
theorem pos_ge (k : Nat) : k ≤ pos p s k := by
  induction k with
  | zero => exact Nat.zero_le _
  | succ k ih => have := pos_lt (p := p) (s := s) k; omega
theorem many_one {K J : Nat} (h : Many p s K) (g : Many p s J) : K = J := by
  rcases Nat.lt_trichotomy K J with e | e | e
  · have := g.1 K e; have := h.2; omega
  · exact e
  · have := h.1 J e; have := g.2; omega
theorem many_end {K : Nat} (h : Many p s K) : pos p s K = s.length := by
  have h2 := h.2
  cases K with
  | zero => show 0 = _; have : pos p s 0 = 0 := rfl; omega
  | succ k =>
    have := stp_le (p := p) (s := s) (h.1 k (by omega))
    have e : pos p s (k + 1) = pos p s k + stp p s (pos p s k) := rfl
    omega
theorem many_le {K : Nat} (h : Many p s K) : K ≤ s.length := by rw [← many_end h]; exact pos_ge K
theorem pos_store (h : p.store = true) (k : Nat) : pos p s k = k := by
  induction k with
  | zero => rfl
  | succ k ih => show pos p s k + stp p s _ = _; unfold stp; rw [if_pos (lit_store h _), ih]
theorem many_store (h : p.store = true) : Many p s s.length := ⟨fun j hj => by rw [pos_store h]; exact hj, by rw [pos_store h]; exact Nat.le_refl _⟩

/-! ### they expand to the bytes -/
theorem at_take (k i : Nat) (h : i < k) : (s.take k).getD i 0 = at_ s i := by
  simp [at_, List.getD_eq_getElem?_getD, h]
theorem take_next (k : Nat) (h : k < s.length) : s.take (k + 1) = s.take k ++ [at_ s k] := by
  rw [List.take_succ_eq_append_getElem h]
  simp [at_, List.getD_eq_getElem?_getD, List.getElem?_eq_getElem h]
theorem grow_take (a d n : Nat) (hd : 1 ≤ d) (hda : d ≤ a) (h : a + n ≤ s.length) (hs : ∀ i, i < n → at_ s (a + i) = at_ s (a + i - d)) : WinMath.grow (s.take a) d n = s.take (a + n) := by
  induction n with
  | zero => rfl
  | succ n ih =>
    rw [WinMath.grow_succ, ih (by omega) (fun i hi => hs i (by omega)), show a + (n + 1) = a + n + 1 by omega, take_next (a + n) (by omega)]
    congr 2
    rw [hs n (by omega), List.length_take, Nat.min_eq_left (by omega), at_take _ _ (by omega)]
theorem tk_ok {K : Nat} (h : Many p s K) : ∀ k, k ≤ K → LzMath.tot (tk p s) k = pos p s k ∧ LzMath.ex (tk p s) k = s.take (pos p s k) := by
  intro k
  induction k with
  | zero => intro _; exact ⟨rfl, rfl⟩
  | succ k ih =>
    intro hk
    obtain ⟨h1, h2⟩ := ih (by omega)
    have hlt := h.1 k (by omega)
    show LzMath.tot (tk p s) k + LzMath.sz (tk p s k) = pos p s k + stp p s (pos p s k) ∧ LzMath.step (LzMath.ex (tk p s) k) (tk p s k) = s.take (pos p s k + stp p s (pos p s k))
    rw [h1, h2]
    unfold tk tkAt stp LzMath.sz LzMath.step
    cases hl : lit p s (pos p s k) with
    | true =>
      simp only [if_true]
      exact ⟨trivial, (take_next _ hlt).symm⟩
    | false =>
      obtain ⟨n, d, g1, g2, g3, g4, g5, g6, g7, g8⟩ := not_lit hl
      rw [g1]
      simp only [Bool.false_eq_true, if_false]
      rw [if_neg (by omega), if_neg (by omega)]
      exact ⟨by simp, by simpa using grow_take _ _ _ g5 g7 g4 g8⟩
theorem tk_good {K : Nat} (h : Many p s K) : LzMath.GoodT p.wide (tk p s) K := by
  intro k hk
  obtain ⟨h1, h2⟩ := tk_ok h k (by omega)
  unfold LzMath.Ok
  rw [h1]
  unfold tk tkAt
  cases hl : lit p s (pos p s k) with
  | true => simp only [if_true]; exact ⟨.inl ⟨rfl, rfl⟩, by omega⟩
  | false =>
    obtain ⟨n, d, g1, g2, g3, g4, g5, g6, g7, g8⟩ := not_lit hl
    rw [g1]
    simp only [Bool.false_eq_true, if_false]
    refine ⟨.inr ⟨rfl, by simp only; omega, ?_, by simp only; omega, ?_⟩, by omega⟩
    · show (n : Int) ≤ LzMath.ml p.wide
      unfold LzMath.ml
      unfold long_ at g3
      split <;> simp_all <;> omega
    · show (d : Int) ≤ (LzMath.md p.wide : Int)
      unfold LzMath.md
      unfold far_ at g6
      split <;> simp_all <;> omega
theorem tk_all {K : Nat} (h : Many p s K) : LzMath.tot (tk p s) K = s.length ∧ LzMath.ex (tk p s) K = s := by
  obtain ⟨h1, h2⟩ := tk_ok h K (Nat.le_refl _)
  rw [many_end h] at h1 h2
  exact ⟨h1, by rw [h2, List.take_length]⟩
theorem tk_wf (hs : s.length ≤ 1000000000) (k : Nat) : (-9223372036854775808 ≤ (tk p s k).len ∧ (tk p s k).len ≤ 9223372036854775807) ∧ -9223372036854775808 ≤ (tk p s k).dist ∧ (tk p s k).dist ≤ 9223372036854775807 := by
  unfold tk tkAt
  cases hl : lit p s (pos p s k) with
  | true => simp
  | false =>
    obtain ⟨n, d, g1, g2, g3, g4, g5, g6, g7, g8⟩ := not_lit hl
    rw [g1]
    simp only [Bool.false_eq_true, if_false]
    have := far_ge p.wide
    omega
end
end MatMath
end
