/-
  A row of tokens that the call makes by append.
-/
import Derived.Test.YtfjngfkehccigaaLzB
namespace Go.Proofs.Ytfjngfkehccigaa.LzC
open Go.RowKit Go.My LzMath

theorem infoT : (Try.prog.info? 26).map (fun i => (i.zero, i.size, i.bytes)) = some (some (.agg #[.int .i64 0, .int .i64 0, .int .u8 0]), 3, 24) := by kernel_rfl

/-- The cells of n tokens. -/
def toks (f : Nat → Tok) : Nat → List Value
  | 0 => []
  | k + 1 => toks f k ++ [.int .i64 (f k).len, .int .i64 (f k).dist, .int .u8 ((f k).byte.toNat : Int)]
theorem toks_len (f : Nat → Tok) (n : Nat) : (toks f n).length = n * 3 := by
  induction n with
  | zero => rfl
  | succ n ih => show (toks f n ++ _).length = _; rw [List.length_append, ih]; simp; omega
theorem toks_get (f : Nat → Tok) (n i : Nat) (hi : i < n) : (toks f n)[i * 3]? = some (.int .i64 (f i).len) ∧ (toks f n)[i * 3 + 1]? = some (.int .i64 (f i).dist) ∧ (toks f n)[i * 3 + 2]? = some (.int .u8 ((f i).byte.toNat : Int)) := by
  induction n with
  | zero => omega
  | succ n ih =>
    have hl := toks_len f n
    show (toks f n ++ _)[i * 3]? = _ ∧ (toks f n ++ _)[i * 3 + 1]? = _ ∧ (toks f n ++ _)[i * 3 + 2]? = _
    by_cases h : i < n
    · rw [List.getElem?_append_left (by omega), List.getElem?_append_left (by omega), List.getElem?_append_left (by omega)]
      exact ih h
    · obtain rfl : i = n := by omega
      rw [List.getElem?_append_right (by omega), List.getElem?_append_right (by omega), List.getElem?_append_right (by omega), hl]
      rw [show i * 3 - i * 3 = 0 from by omega, show i * 3 + 1 - i * 3 = 1 from by omega, show i * 3 + 2 - i * 3 = 2 from by omega]
      exact ⟨rfl, rfl, rfl⟩
theorem toks_congr (f g : Nat → Tok) (n : Nat) (h : ∀ i, i < n → f i = g i) : toks f n = toks g n := by
  induction n with
  | zero => rfl
  | succ n ih => show toks f n ++ _ = toks g n ++ _; rw [ih (fun i hi => h i (by omega)), h n (by omega)]
theorem toks_join (f g : Nat → Tok) (n m : Nat) : toks (LzMath.join f n g) (n + m) = toks f n ++ toks g m := by
  induction m with
  | zero => show toks _ n = _ ++ []; rw [List.append_nil]; exact toks_congr _ _ _ (fun i hi => join_left hi)
  | succ m ih => show toks _ (n + m) ++ [.int .i64 (LzMath.join f n g (n + m)).len, .int .i64 (LzMath.join f n g (n + m)).dist, .int .u8 ((LzMath.join f n g (n + m)).byte.toNat : Int)] = _ ++ (toks g m ++ _); rw [ih, join_right, List.append_assoc]
theorem toks_one (f : Nat → Tok) (n : Nat) : ∀ u ∈ toks f n, u.oneCell' = true := by
  induction n with
  | zero => intro u hu; cases hu
  | succ n ih =>
    intro u hu
    rcases List.mem_append.1 hu with h | h
    · exact ih u h
    · simp only [List.mem_cons, List.not_mem_nil, or_false] at h
      rcases h with rfl | rfl | rfl <;> rfl

/-- A value that is a slice of n tokens of the call's own. -/
def OwnT (base : Nat) (w : World) (v : Value) (n : Nat) (f : Nat → Tok) : Prop := w.ownsRow base 26 3 v n (toks f n)
theorem OwnT.empty {base : Nat} (w : World) (f : Nat → Tok) (hb : base ≤ w.heap.size) : OwnT base (w.alloc (.cells #[] 26)) (.slice (some ⟨w.heap.size, 0, none⟩) 0 0) 0 f :=
  World.ownsRow_lit w #[] 0 hb (by unfold maxLen; omega) rfl
theorem OwnT.toks {base n : Nat} {w : World} {v : Value} {f : Nat → Tok} (h : OwnT base w v n f) (hw : ∀ i, i < n → Wf (f i)) : ∃ a c, v = .slice a n c ∧ TokIn w a n c f := by
  rcases h.2 with ⟨rfl, rfl⟩ | ⟨g, cap, cur, rfl, hg, hh, hn, hm, hs, ht⟩
  · exact ⟨none, 0, rfl, Nat.le_refl _, by omega, fun _ => ⟨rfl, rfl⟩, .inl rfl⟩
  · unfold maxLen at hm
    refine ⟨_, cap, rfl, hn, hm, (fun h => by cases h), .inr ⟨g, 0, rfl, fun i hi => ?_⟩⟩
    have hlt : g < w.heap.size := by
      by_cases hlt : g < w.heap.size
      · exact hlt
      · rw [Array.getElem?_eq_none (by omega)] at hh; cases hh
    have hc : ∀ j, j < n * 3 → w.cell? ⟨g, j, none⟩ = (LzC.toks f n)[j]? := fun j hj => by
      rw [cell_of_row _ _ _ _ _ _ hh, ← ht, List.getElem?_take, if_pos hj, Array.getElem?_toList]
    obtain ⟨h1, h2, h3⟩ := toks_get f n i hi
    exact ⟨by rw [Nat.zero_add, hc _ (by omega)]; exact h1, by rw [Nat.zero_add, hc _ (by omega)]; exact h2, by rw [Nat.zero_add, hc _ (by omega)]; exact h3, hlt, hw i hi⟩
theorem OwnT.grown {base n : Nat} {w0 w w' : World} {v : Value} {f : Nat → Tok} (hown : OwnT base w v n f) (h : Below base w0 w) (hg : w.grownBy w' v.ownBlock) (hb : base ≤ w.heap.size) : Below base w0 w' :=
  h.grown hg hb fun k hk => (World.ownsRow.lt hown k hk).1

/-- append(v, x...) of tokens. -/
theorem wp_append_toks {w : World} {o : Oper} {a : Act} {K : Act → World → Prop} {Q : Exit → Act → World → Prop} (s x : Operand)
    (ho : o.op = .call { callee := .builtin .append, args := #[s, x], argTypes := #[22, 22] }) (base : Nat)
    (v : Value) (n : Nat) (f : Nat → Tok) (hs : a.eval s = v) (hown : OwnT base w v n f) (ad : Option Addr) (m c : Nat) (g : Nat → Tok) (hx : a.eval x = .slice ad m c) (hb : TokIn w ad m c g)
    (hlen : n + m ≤ 1000000) (hbase : base ≤ w.heap.size)
    (h : ∀ v' w', OwnT base w' v' (n + m) (LzMath.join f n g) → w.grownBy w' v.ownBlock → K (a.put o.dst v') w') : o.wp Try.prog a w K Q := by
  obtain ⟨i, hi, hz0, hz1, hz2⟩ := info_parts infoT
  cases ad with
  | none =>
    obtain ⟨rfl, rfl⟩ := hb.nil rfl
    have hrun := run_append_owned_none (P := Try.prog) (w := w) base 22 o.type 26 i 3 Try.underlying22 hi v n (toks f n) hown
    unfold Oper.wp
    simp [execOp, ho, resolve, invoke, builtin, hs, hx, hrun, Result.andThen]
    refine h v w ?_ ⟨rfl, rfl, rfl, Nat.le_refl _, fun _ _ _ => rfl⟩
    unfold OwnT
    rw [toks_join, show toks g 0 = [] from rfl, List.append_nil]
    exact hown
  | some ad =>
    refine wp_append_own w s x 22 ho base 26 i _ 3 24 Try.underlying22 hi hz0 hz1 hz2 rfl (by decide) v n (toks f n) hs hown ad m c (toks g m) hx (toks_len g m) ?_ (toks_one g m) (by unfold maxLen; omega) (by omega) hbase ?_
    · intro j u hu
      have hj : j < m * 3 := by have := (List.getElem?_eq_some_iff.1 hu).1; rw [toks_len] at this; exact this
      rcases hb.at_ with h0 | ⟨b, off, hab, hc⟩
      · omega
      · simp only [Option.some.injEq] at hab
        subst hab
        obtain ⟨h1, h2, h3⟩ := toks_get g m (j / 3) (by omega)
        have ht := hc (j / 3) (by omega)
        rw [addr_add]
        have hr : j % 3 = 0 ∨ j % 3 = 1 ∨ j % 3 = 2 := by omega
        rcases hr with hr | hr | hr
        · rw [show j = j / 3 * 3 from by omega] at hu ⊢
          rw [ht.len, ← h1]; exact hu
        · rw [show j = j / 3 * 3 + 1 from by omega] at hu ⊢
          rw [← Nat.add_assoc, ht.dist, ← h2]; exact hu
        · rw [show j = j / 3 * 3 + 2 from by omega] at hu ⊢
          rw [← Nat.add_assoc, ht.byte, ← h3]; exact hu
    · intro v' w' h1 h2 _
      refine h v' w' ?_ h2
      unfold OwnT
      rw [toks_join]
      exact h1
theorem wpList_append_toks {w : World} {ops : Array Oper} {rest : List Oper} {o : Oper} {a : Act} {Q : Exit → Act → World → Prop} (hw : Region.wanted o (yielded ops a.tmps) = true) (s x : Operand)
    (ho : o.op = .call { callee := .builtin .append, args := #[s, x], argTypes := #[22, 22] }) (base : Nat)
    (v : Value) (n : Nat) (f : Nat → Tok) (hs : a.eval s = v) (hown : OwnT base w v n f) (ad : Option Addr) (m c : Nat) (g : Nat → Tok) (hx : a.eval x = .slice ad m c) (hb : TokIn w ad m c g)
    (hlen : n + m ≤ 1000000) (hbase : base ≤ w.heap.size)
    (h : ∀ v' w', OwnT base w' v' (n + m) (LzMath.join f n g) → w.grownBy w' v.ownBlock → wpList Try.prog ops Q rest (a.put o.dst v') w') : wpList Try.prog ops Q (o :: rest) a w :=
  wpList_of_wp hw fun _ hK => wp_append_toks s x ho base v n f hs hown ad m c g hx hb hlen hbase fun v' w' h1 h2 => hK _ _ (h v' w' h1 h2)
end Go.Proofs.Ytfjngfkehccigaa.LzC
