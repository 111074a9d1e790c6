/-
  (*Table).link: the secondary tables.
-/
import Derived.Test.YtgmdbcmfncapdaaTabQ
import Derived.Test.YtgmdbcmfncapdaaCanE
import Derived.Laws.CopyOwn
namespace Go.Proofs.Ytgmdbcmfncapdaa.TabC
open Go.RowKit Go.My BitMath CanMath TabMath

/-! ### elements of three cells: make, copy -/
theorem info_el3 : (Try.prog.info? 54).map (fun i => (i.zero, i.size, i.bytes)) = some (some (.agg #[.int .u16 0, .int .u8 0, .int .u8 0]), 3, 4) := by kernel_rfl
theorem els_made (n : Nat) : Els (madeCells #[.int .u16 0, .int .u8 0, .int .u8 0] (n * 3)) n (fun _ => El.z) := by
  refine ⟨size_madeCells _ _, fun j hj => ?_, fun j hj => ?_, fun j hj => ?_⟩
  · unfold madeCells
    rw [Array.getElem?_map, Array.getElem?_range, if_pos (by omega)]
    simp [El.z]
  · unfold madeCells
    rw [Array.getElem?_map, Array.getElem?_range, if_pos (by omega)]
    simp [El.z, show (j * 3 + 1) % 3 = 1 from by omega]
  · unfold madeCells
    rw [Array.getElem?_map, Array.getElem?_range, if_pos (by omega)]
    simp [El.z, show (j * 3 + 2) % 3 = 2 from by omega]
theorem wpList_make_els (w : World) {ops : Array Oper} {rest : List Oper} {o : Oper} {a : Act} {Q : Exit → Act → World → Prop}
    (hg : o.guard = none) (l c : Operand) (hop : o.op = Op.makeSlice 46 l c) (kl kc : IntKind) (n : Nat) (hl : a.eval l = .int kl (n : Int)) (hc : a.eval c = .int kc (n : Int)) (hn : n ≤ 1000000)
    (hK : ∀ C, Els C n (fun _ => El.z) → wpList Try.prog ops Q rest (a.put o.dst (.slice (some ⟨w.heap.size, 0, none⟩) n n)) (w.alloc (.cells C 54))) : wpList Try.prog ops Q (o :: rest) a w := by
  obtain ⟨i, hi, hz0, hsz, hz3⟩ := info_parts info_el3
  refine wpList_plain hg fun K hK' => ?_
  have hrun := run_make (P := Try.prog) w 46 54 i _ Try.underlying46 hi hz0 kl kc (n : Int) (n : Int) (by omega) (Int.le_refl _) (by rw [hz3]; omega) (by omega)
  have h1 := hK' _ _ (hK _ (els_made n))
  unfold Oper.wp
  simp [execOp, hop, hl, hc, hrun, Result.andThen, hsz]
  exact h1
/-- copy(dst, src) of elements: src's are fewer. -/
theorem run_copy_els {P : Program} (w : World) (T ty elem : TypeId) (g dLen dCap : Nat) (a : Addr) (sLen sCap : Nat) (cur : Array Value) (t : TypeId) (cs : List Value)
    (hu : P.underlying T = some (.slice elem)) (hs : (P.info? elem).map (·.size) = some 3)
    (hg : w.heap[g]? = some (.cells cur t (0, 0))) (hle : sLen ≤ dLen) (hn : cs.length = sLen * 3)
    (hsrc : ∀ j v, cs[j]? = some v → w.cell? (a.add j) = some v) (hfit : cs.length ≤ cur.size) (h1 : ∀ v ∈ cs, v.oneCell' = true) :
    (Builtin.copy_ #[T, T] ty #[.slice (some ⟨g, 0, none⟩) dLen dCap, .slice (some a) sLen sCap]).run P w =
      .ok (goInt sLen) (w.setRow g (cs ++ cur.toList.drop cs.length).toArray) := by
  have hl := run_loadCells_list (P := P) w a cs hsrc
  have hst := run_storeCells_at P g 0 t cs 0 cur w hg (by simpa using hfit) h1
  have hm : Nat.min sLen dLen = sLen := Nat.min_eq_left hle
  cases hq : P.info? elem with
  | none => simp [hq] at hs
  | some i =>
    have hi : i.size = 3 := by simpa [hq] using hs
    simp [Builtin.copy_, run_underlying hu, Builtin.lenOf, Builtin.firstCells, sizeOf, typeInfo, hq, hi, hm, ← hn, hl, hst]
theorem wpList_copy_els (w : World) {ops : Array Oper} {rest : List Oper} {o : Oper} {a : Act} {Q : Exit → Act → World → Prop} (hgd : o.guard = none) (d s : Operand)
    (ho : o.op = .call { callee := .builtin .copy, args := #[d, s], argTypes := #[46, 46] })
    (g g2 n m dc sc : Nat) (T : Nat → El) (hd : a.eval d = .slice (some ⟨g, 0, none⟩) n dc) (hs : a.eval s = .slice (some ⟨g2, 0, none⟩) m sc) (hmn : m ≤ n)
    (hg : Row w g n (fun _ => El.z)) (hg2 : Row w g2 m T)
    (h : ∀ w', Row w' g n (fun j => if j < m then T j else El.z) → Only (fun k => k = g) w w' → wpList Try.prog ops Q rest (a.put o.dst (goInt m)) w') : wpList Try.prog ops Q (o :: rest) a w := by
  obtain ⟨C, hC, hE⟩ := hg
  obtain ⟨D, hD, hF⟩ := hg2
  refine wpList_plain hgd fun K hK => ?_
  have hsz : (Try.prog.info? 54).map (·.size) = some 3 := info_el
  have hlen : D.toList.length = m * 3 := by rw [Array.length_toList, hF.size]
  have hrun := run_copy_els (P := Try.prog) w 46 o.type 54 g n dc ⟨g2, 0, none⟩ m sc C _ D.toList Try.underlying46 hsz hC hmn hlen
    (fun j v hv => by
      have : (⟨g2, 0, none⟩ : Addr).add j = ⟨g2, 0 + j, none⟩ := addr_add ..
      rw [this, Nat.zero_add, hD.cell]
      simpa using hv) (by rw [hlen, hE.size]; omega)
    (fun v hv => by
      obtain ⟨i, hi, rfl⟩ := List.getElem_of_mem hv
      rw [hlen] at hi
      have h3 : i % 3 = 0 ∨ i % 3 = 1 ∨ i % 3 = 2 := by omega
      have e0 := hF.at0 (i / 3) (by omega)
      have e1 := hF.at1 (i / 3) (by omega)
      have e2 := hF.at2 (i / 3) (by omega)
      have hg : D.toList[i]? = D[i]? := by simp
      have key : ∀ u, D[i]? = some u → u.oneCell' = true → (D.toList[i]'(by rw [hlen]; exact hi)).oneCell' = true := by
        intro u hu h1
        rw [← hg, List.getElem?_eq_getElem (by rw [hlen]; exact hi)] at hu
        injection hu with hu
        rw [hu]; exact h1
      rcases h3 with h3 | h3 | h3
      · exact key _ (by rw [show i = i / 3 * 3 from by omega]; exact e0) rfl
      · exact key _ (by rw [show i = i / 3 * 3 + 1 from by omega]; exact e1) rfl
      · exact key _ (by rw [show i = i / 3 * 3 + 2 from by omega]; exact e2) rfl)
  have hEl : Els (D.toList ++ C.toList.drop D.toList.length).toArray n (fun j => if j < m then T j else El.z) := by
    have hget : ∀ k, k < n * 3 → (D.toList ++ C.toList.drop D.toList.length).toArray[k]? = if k < m * 3 then D[k]? else C[k]? := by
      intro k hk
      rw [List.getElem?_toArray, List.getElem?_append, hlen]
      split
      · simp
      · rw [List.getElem?_drop, show m * 3 + (k - m * 3) = k from by omega]; simp
    refine ⟨by simp [hE.size, hF.size]; omega, fun j hj => ?_, fun j hj => ?_, fun j hj => ?_⟩
    · rw [hget _ (by omega)]
      by_cases hjm : j < m
      · rw [if_pos (by omega), if_pos hjm]; exact hF.at0 j hjm
      · rw [if_neg (by omega), if_neg hjm]; exact hE.at0 j hj
    · rw [hget _ (by omega)]
      by_cases hjm : j < m
      · rw [if_pos (by omega), if_pos hjm]; exact hF.at1 j hjm
      · rw [if_neg (by omega), if_neg hjm]; exact hE.at1 j hj
    · rw [hget _ (by omega)]
      by_cases hjm : j < m
      · rw [if_pos (by omega), if_pos hjm]; exact hF.at2 j hjm
      · rw [if_neg (by omega), if_neg hjm]; exact hE.at2 j hj
  have h2 := h (w.setRow g (D.toList ++ C.toList.drop D.toList.length).toArray) ⟨_, hC.row _, hEl⟩
    ⟨rfl, rfl, rfl, by show _ ≤ (w.heap.modify g _).size; rw [Array.size_modify]; exact Nat.le_refl _, fun k hk hne => setRow_block w g _ k hne⟩
  unfold Oper.wp
  simp [execOp, ho, resolve, invoke, builtin, hd, hs, hrun, Result.andThen]
  exact hK _ _ (by simpa using h2)

theorem RowIn.only {S : Nat → Prop} {w w' : World} {a : Option Addr} {len cap : Nat} {vs : List Value} (h : RowIn w a len cap vs) (ho : Only S w w') (hS : ∀ b off, a = some ⟨b, off, none⟩ → ¬ S b) : RowIn w' a len cap vs := by
  refine ⟨h.1, h.2, h.3, h.4, h.5.imp_right ?_⟩
  rintro ⟨b, off, ha, hs, hc⟩
  exact ⟨b, off, ha, Nat.lt_of_lt_of_le hs ho.size, fun i hi => by rw [ho.cell (p := ⟨b, off + i, none⟩) hs (hS b off ha)]; exact hc i hi⟩
/-- The codes as they are read. -/
def wds (ls : List Nat) : List Value := (List.range ls.length).map fun i => CanC.uv (wd ls i)
theorem wds_len (ls : List Nat) : (wds ls).length = ls.length := by simp [wds]
theorem wds_get (ls : List Nat) (i : Nat) (h : i < ls.length) : (wds ls)[i]'(by rw [wds_len]; exact h) = CanC.uv (wd ls i) := by simp [wds]
theorem start_quiet (g f v nq : Nat) (u : Value) (w : World) (h : Blk w g 48 #[.int .u64 (f : Int), u]) (hf : f ≤ 15) (hv : v < 4294967296) :
    Calls Try.prog 26 #[.pointer (some ⟨g, 0, none⟩), .int .u32 (v : Int)] (w.drewN nq) fun e w' => e = .returned (.int .u32 ((v % 2 ^ f : Nat) : Int)) ∧ ∃ m, w' = w.drewN m :=
  (start_any g f v u (w.drewN nq) (h.same rfl) hf hv).mono fun _ _ ⟨he, hw⟩ => ⟨he, nq, hw.symm⟩
/-- One cell of an element turned. -/
theorem Row.set2 {w : World} {ge n : Nat} {T T' : Nat → El} (h : Row w ge n T) (j m : Nat) (hj : j < n) (hT : ∀ i, i < n → T' i = if i = j then ⟨(T j).v, (T j).l, m⟩ else T i) :
    Row (w.setCell ⟨ge, j * 3 + 2, none⟩ (.int .u8 ((m : Nat) : Int))) ge n T' := by
  obtain ⟨C, h4, h5⟩ := h
  have hs := h5.size
  refine ⟨_, h4.set_ _ _, by simp [hs], fun i hi => ?_, fun i hi => ?_, fun i hi => ?_⟩
  · rw [Array.getElem?_setIfInBounds, if_neg (by omega), hT i hi, h5.at0 i hi]
    by_cases he : i = j
    · subst he; rw [if_pos rfl]
    · rw [if_neg he]
  · rw [Array.getElem?_setIfInBounds, if_neg (by omega), hT i hi, h5.at1 i hi]
    by_cases he : i = j
    · subst he; rw [if_pos rfl]
    · rw [if_neg he]
  · rw [Array.getElem?_setIfInBounds, hT i hi]
    by_cases he : i = j
    · subst he; rw [if_pos rfl, if_pos (by rw [hs]; omega), if_pos rfl]
    · rw [if_neg (by omega), if_neg he, h5.at2 i hi]
theorem Row.set0 {w : World} {ge n : Nat} {T T' : Nat → El} (h : Row w ge n T) (j m : Nat) (hj : j < n) (hT : ∀ i, i < n → T' i = if i = j then ⟨m, (T j).l, (T j).m⟩ else T i) :
    Row (w.setCell ⟨ge, j * 3, none⟩ (.int .u16 ((m : Nat) : Int))) ge n T' := by
  obtain ⟨C, h4, h5⟩ := h
  have hs := h5.size
  refine ⟨_, h4.set_ _ _, by simp [hs], fun i hi => ?_, fun i hi => ?_, fun i hi => ?_⟩
  · rw [Array.getElem?_setIfInBounds, hT i hi]
    by_cases he : i = j
    · subst he; rw [if_pos rfl, if_pos (by rw [hs]; omega), if_pos rfl]
    · rw [if_neg (by omega), if_neg he, h5.at0 i hi]
  · rw [Array.getElem?_setIfInBounds, if_neg (by omega), hT i hi, h5.at1 i hi]
    by_cases he : i = j
    · subst he; rw [if_pos rfl]
    · rw [if_neg he]
  · rw [Array.getElem?_setIfInBounds, if_neg (by omega), hT i hi, h5.at2 i hi]
    by_cases he : i = j
    · subst he; rw [if_pos rfl]
    · rw [if_neg he]

/-- How far the first loop has come. -/
def L1 (ls : List Nat) (f k : Nat) (p : Nat) : El := ⟨0, 0, mo ls f k p⟩
/-- How far the second. -/
def L2 (ls : List Nat) (f k : Nat) (p : Nat) : El := ⟨if p < k ∧ 0 < M ls f p then S ls f p else 0, 0, M ls f p⟩
theorem L1_zero (ls : List Nat) (f : Nat) : L1 ls f 0 = fun _ => El.z := rfl
theorem L1_end (ls : List Nat) (f : Nat) : L1 ls f ls.length = L2 ls f 0 := by
  funext p; unfold L1 L2 M; rw [if_neg (by omega)]
theorem L1_skip (ls : List Nat) (f k : Nat) (h : ¬ f < ln ls k) : L1 ls f (k + 1) = L1 ls f k := by
  funext p; unfold L1; rw [mo, if_neg (fun hc => h hc.1)]
theorem L1_step (ls : List Nat) (f k p : Nat) (h : f < ln ls k) : L1 ls f (k + 1) p = if p = wd ls k % 2 ^ f then ⟨(L1 ls f k (wd ls k % 2 ^ f)).v, (L1 ls f k (wd ls k % 2 ^ f)).l, max (mo ls f k (wd ls k % 2 ^ f)) (ln ls k - f)⟩ else L1 ls f k p := by
  unfold L1; rw [mo]
  by_cases hp : p = wd ls k % 2 ^ f
  · rw [if_pos ⟨h, hp.symm⟩, if_pos hp, hp]
  · rw [if_neg (fun hc => hp hc.2.symm), if_neg hp]
theorem L2_step (ls : List Nat) (f k p : Nat) (h : 0 < M ls f k) : L2 ls f (k + 1) p = if p = k then ⟨S ls f k, (L2 ls f k k).l, (L2 ls f k k).m⟩ else L2 ls f k p := by
  unfold L2
  by_cases hp : p = k
  · subst hp; rw [if_pos ⟨by omega, h⟩, if_pos rfl]
  · rw [if_neg hp]
    have : (p < k + 1 ∧ 0 < M ls f p) ↔ (p < k ∧ 0 < M ls f p) := by omega
    simp only [this]
theorem L2_skip (ls : List Nat) (f k : Nat) (h : ¬ 0 < M ls f k) : L2 ls f (k + 1) = L2 ls f k := by
  funext p
  unfold L2
  by_cases hp : p = k
  · subst hp; rw [if_neg (fun hc => h hc.2), if_neg (fun hc => h hc.2)]
  · have : (p < k + 1 ∧ 0 < M ls f p) ↔ (p < k ∧ 0 < M ls f p) := by omega
    simp only [this]
theorem L2_end (ls : List Nat) (f : Nat) : (fun j => if j < 2 ^ f then L2 ls f (2 ^ f) j else El.z) = T0 ls f := by
  funext j
  unfold T0 L2
  by_cases hj : j < 2 ^ f
  · rw [if_pos hj, if_pos hj]
    simp only [hj, true_and]
  · rw [if_neg hj, if_neg hj]
theorem S_skip (ls : List Nat) (f k : Nat) (h : ¬ 0 < M ls f k) : S ls f (k + 1) = S ls f k := by rw [S, if_neg h]; rfl
end Go.Proofs.Ytgmdbcmfncapdaa.TabC
