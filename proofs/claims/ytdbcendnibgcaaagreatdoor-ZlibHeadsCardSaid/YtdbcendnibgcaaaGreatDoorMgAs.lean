import Derived.Test.YtdbcendnibgcaaaGreatDoorMgAq
import Derived.Test.YtdbcendnibgcaaaGreatDoorMgAr
import Derived.Laws.CopyOwn

section
/-
  (*Table).link: the secondary tables.
-/
namespace Go.Proofs.YtdbcendnibgcaaaGreatDoor.TabC
open Go.RowKit Go.My BitMath CanMath TabMath

/-! ### elements of three cells: make, copy -/
theorem info_el3 : (Tryz.prog.info? 168).map (fun i => (i.zero, i.size, i.bytes)) = some (some (.agg #[.int .u16 0, .int .u8 0, .int .u8 0]), 3, 4) := by kernel_rfl
theorem els_made (n : Nat) : Els (madeCells #[.int .u16 0, .int .u8 0, .int .u8 0] (n * 3)) n (fun _ => El.z) := by
  refine ⟨size_madeCells _ _, fun j hj => ?_, fun j hj => ?_, fun j hj => ?_⟩
  · unfold madeCells
    rw [Array.getElem?_map, Array.getElem?_range, if_pos (by omega)]
    simp [El.z]
  · unfold madeCells
    rw [Array.getElem?_map, Array.getElem?_range, if_pos (by omega)]
    simp [El.z, show (j * 3 + 1) % 3 = 1 from by omega]
  · unfold madeCells
    rw [Array.getElem?_map, Array.getElem?_range, if_pos (by omega)]
    simp [El.z, show (j * 3 + 2) % 3 = 2 from by omega]
theorem wpList_make_els (w : World) {ops : Array Oper} {rest : List Oper} {o : Oper} {a : Act} {Q : Exit → Act → World → Prop}
    (hg : o.guard = none) (l c : Operand) (hop : o.op = Op.makeSlice 162 l c) (kl kc : IntKind) (n : Nat) (hl : a.eval l = .int kl (n : Int)) (hc : a.eval c = .int kc (n : Int)) (hn : n ≤ 1000000)
    (hK : ∀ C, Els C n (fun _ => El.z) → wpList Tryz.prog ops Q rest (a.put o.dst (.slice (some ⟨w.heap.size, 0, none⟩) n n)) (w.alloc (.cells C 168))) : wpList Tryz.prog ops Q (o :: rest) a w := by
  obtain ⟨i, hi, hz0, hsz, hz3⟩ := info_parts info_el3
  refine wpList_plain hg fun K hK' => ?_
  have hrun := run_make (P := Tryz.prog) w 162 168 i _ Tryz.underlying162 hi hz0 kl kc (n : Int) (n : Int) (by omega) (Int.le_refl _) (by rw [hz3]; omega) (by omega)
  have h1 := hK' _ _ (hK _ (els_made n))
  unfold Oper.wp
  simp [execOp, hop, hl, hc, hrun, Result.andThen, hsz]
  exact h1
/-- copy(dst, src) of elements: src's are fewer. -/
theorem run_copy_els {P : Program} (w : World) (T ty elem : TypeId) (g dLen dCap : Nat) (a : Addr) (sLen sCap : Nat) (cur : Array Value) (t : TypeId) (cs : List Value)
    (hu : P.underlying T = some (.slice elem)) (hs : (P.info? elem).map (·.size) = some 3)
    (hg : w.heap[g]? = some (.cells cur t (0, 0))) (hle : sLen ≤ dLen) (hn : cs.length = sLen * 3)
    (hsrc : ∀ j v, cs[j]? = some v → w.cell? (a.add j) = some v) (hfit : cs.length ≤ cur.size) (h1 : ∀ v ∈ cs, v.oneCell' = true) :
    (Builtin.copy_ #[T, T] ty #[.slice (some ⟨g, 0, none⟩) dLen dCap, .slice (some a) sLen sCap]).run P w =
      .ok (goInt sLen) (w.setRow g (cs ++ cur.toList.drop cs.length).toArray) := by
  have hl := run_loadCells_list (P := P) w a cs hsrc
  have hst := run_storeCells_at P g 0 t cs 0 cur w hg (by simpa using hfit) h1
  have hm : Nat.min sLen dLen = sLen := Nat.min_eq_left hle
  cases hq : P.info? elem with
  | none => simp [hq] at hs
  | some i =>
    have hi : i.size = 3 := by simpa [hq] using hs
    simp [Builtin.copy_, run_underlying hu, Builtin.lenOf, Builtin.firstCells, sizeOf, typeInfo, hq, hi, hm, ← hn, hl, hst]
theorem wpList_copy_els (w : World) {ops : Array Oper} {rest : List Oper} {o : Oper} {a : Act} {Q : Exit → Act → World → Prop} (hgd : o.guard = none) (d s : Operand)
    (ho : o.op = .call { callee := .builtin .copy, args := #[d, s], argTypes := #[162, 162] })
    (g g2 n m dc sc : Nat) (T : Nat → El) (hd : a.eval d = .slice (some ⟨g, 0, none⟩) n dc) (hs : a.eval s = .slice (some ⟨g2, 0, none⟩) m sc) (hmn : m ≤ n)
    (hg : Row w g n (fun _ => El.z)) (hg2 : Row w g2 m T)
    (h : ∀ w', Row w' g n (fun j => if j < m then T j else El.z) → Only (fun k => k = g) w w' → wpList Tryz.prog ops Q rest (a.put o.dst (goInt m)) w') : wpList Tryz.prog ops Q (o :: rest) a w := by
  obtain ⟨C, hC, hE⟩ := hg
  obtain ⟨D, hD, hF⟩ := hg2
  refine wpList_plain hgd fun K hK => ?_
  have hsz : (Tryz.prog.info? 168).map (·.size) = some 3 := info_el
  have hlen : D.toList.length = m * 3 := by rw [Array.length_toList, hF.size]
  have hrun := run_copy_els (P := Tryz.prog) w 162 o.type 168 g n dc ⟨g2, 0, none⟩ m sc C _ D.toList Tryz.underlying162 hsz hC hmn hlen
    (fun j v hv => by
      have : (⟨g2, 0, none⟩ : Addr).add j = ⟨g2, 0 + j, none⟩ := addr_add ..
      rw [this, Nat.zero_add, hD.cell]
      simpa using hv) (by rw [hlen, hE.size]; omega)
    (fun v hv => by
      obtain ⟨i, hi, rfl⟩ := List.getElem_of_mem hv
      rw [hlen] at hi
      have h3 : i % 3 = 0 ∨ i % 3 = 1 ∨ i % 3 = 2 := by omega
      have e0 := hF.at0 (i / 3) (by omega)
      have e1 := hF.at1 (i / 3) (by omega)
      have e2 := hF.at2 (i / 3) (by omega)
      have hg : D.toList[i]? = D[i]? := by simp
      have key : ∀ u, D[i]? = some u → u.oneCell' = true → (D.toList[i]'(by rw [hlen]; exact hi)).oneCell' = true := by
        intro u hu h1
        rw [← hg, List.getElem?_eq_getElem (by rw [hlen]; exact hi)] at hu
        have hu := Option.some.inj hu
        rw [hu]; exact h1
      rcases h3 with h3 | h3 | h3
      · rw [show i / 3 * 3 = i from by omega] at e0; exact key _ e0 rfl
      · rw [show i / 3 * 3 + 1 = i from by omega] at e1; exact key _ e1 rfl
      · rw [show i / 3 * 3 + 2 = i from by omega] at e2; exact key _ e2 rfl)
  have hEl : Els (D.toList ++ C.toList.drop D.toList.length).toArray n (fun j => if j < m then T j else El.z) := by
    have hget : ∀ k, k < n * 3 → (D.toList ++ C.toList.drop D.toList.length).toArray[k]? = if k < m * 3 then D[k]? else C[k]? := by
      intro k hk
      rw [List.getElem?_toArray, List.getElem?_append, hlen]
      split
      · simp
      · rw [List.getElem?_drop, show m * 3 + (k - m * 3) = k from by omega]; simp
    refine ⟨by simp [hE.size, hF.size]; omega, fun j hj => ?_, fun j hj => ?_, fun j hj => ?_⟩
    · rw [hget _ (by omega)]
      by_cases hjm : j < m
      · rw [if_pos (by omega), if_pos hjm]; exact hF.at0 j hjm
      · rw [if_neg (by omega), if_neg hjm]; exact hE.at0 j hj
    · rw [hget _ (by omega)]
      by_cases hjm : j < m
      · rw [if_pos (by omega), if_pos hjm]; exact hF.at1 j hjm
      · rw [if_neg (by omega), if_neg hjm]; exact hE.at1 j hj
    · rw [hget _ (by omega)]
      by_cases hjm : j < m
      · rw [if_pos (by omega), if_pos hjm]; exact hF.at2 j hjm
      · rw [if_neg (by omega), if_neg hjm]; exact hE.at2 j hj
  have h2 := h (w.setRow g (D.toList ++ C.toList.drop D.toList.length).toArray) ⟨_, hC.row _, hEl⟩
    ⟨rfl, rfl, rfl, by show _ ≤ (w.heap.modify g _).size; rw [Array.size_modify]; exact Nat.le_refl _, fun k hk hne => setRow_block w g _ k hne⟩
  unfold Oper.wp
  simp [execOp, ho, resolve, invoke, builtin, hd, hs, hrun, Result.andThen]
  exact hK _ _ (by simpa using h2)

theorem RowIn.only {S : Nat → Prop} {w w' : World} {a : Option Addr} {len cap : Nat} {vs : List Value} (h : RowIn w a len cap vs) (ho : Only S w w') (hS : ∀ b off, a = some ⟨b, off, none⟩ → ¬ S b) : RowIn w' a len cap vs := by
  refine ⟨h.1, h.2, h.3, h.4, h.5.imp_right ?_⟩
  rintro ⟨b, off, ha, hs, hc⟩
  exact ⟨b, off, ha, Nat.lt_of_lt_of_le hs ho.size, fun i hi => by rw [ho.cell (p := ⟨b, off + i, none⟩) hs (hS b off ha)]; exact hc i hi⟩
/-- The codes as they are read. -/
def wds (ls : List Nat) : List Value := (List.range ls.length).map fun i => CanC.uv (wd ls i)
theorem wds_len (ls : List Nat) : (wds ls).length = ls.length := by simp [wds]
theorem wds_get (ls : List Nat) (i : Nat) (h : i < ls.length) : (wds ls)[i]'(by rw [wds_len]; exact h) = CanC.uv (wd ls i) := by simp [wds]
theorem start_quiet (g f v nq : Nat) (u : Value) (w : World) (h : Blk w g 164 #[.int .u64 (f : Int), u]) (hf : f ≤ 15) (hv : v < 4294967296) :
    Calls Tryz.prog 134 #[.pointer (some ⟨g, 0, none⟩), .int .u32 (v : Int)] (w.drewN nq) fun e w' => e = .returned (.int .u32 ((v % 2 ^ f : Nat) : Int)) ∧ ∃ m, w' = w.drewN m :=
  (start_any g f v u (w.drewN nq) (h.same rfl) hf hv).mono fun _ _ ⟨he, hw⟩ => ⟨he, nq, hw.symm⟩
/-- One cell of an element turned. -/
theorem Row.set2 {w : World} {ge n : Nat} {T T' : Nat → El} (h : Row w ge n T) (j m : Nat) (hj : j < n) (hT : ∀ i, i < n → T' i = if i = j then ⟨(T j).v, (T j).l, m⟩ else T i) :
    Row (w.setCell ⟨ge, j * 3 + 2, none⟩ (.int .u8 ((m : Nat) : Int))) ge n T' := by
  obtain ⟨C, h4, h5⟩ := h
  have hs := h5.size
  refine ⟨_, h4.set_ _ _, by simp [hs], fun i hi => ?_, fun i hi => ?_, fun i hi => ?_⟩
  · rw [Array.getElem?_setIfInBounds, if_neg (by omega), hT i hi, h5.at0 i hi]
    by_cases he : i = j
    · subst he; rw [if_pos rfl]
    · rw [if_neg he]
  · rw [Array.getElem?_setIfInBounds, if_neg (by omega), hT i hi, h5.at1 i hi]
    by_cases he : i = j
    · subst he; rw [if_pos rfl]
    · rw [if_neg he]
  · rw [Array.getElem?_setIfInBounds, hT i hi]
    by_cases he : i = j
    · subst he; rw [if_pos rfl, if_pos (by rw [hs]; omega), if_pos rfl]
    · rw [if_neg (by omega), if_neg he, h5.at2 i hi]
theorem Row.set0 {w : World} {ge n : Nat} {T T' : Nat → El} (h : Row w ge n T) (j m : Nat) (hj : j < n) (hT : ∀ i, i < n → T' i = if i = j then ⟨m, (T j).l, (T j).m⟩ else T i) :
    Row (w.setCell ⟨ge, j * 3, none⟩ (.int .u16 ((m : Nat) : Int))) ge n T' := by
  obtain ⟨C, h4, h5⟩ := h
  have hs := h5.size
  refine ⟨_, h4.set_ _ _, by simp [hs], fun i hi => ?_, fun i hi => ?_, fun i hi => ?_⟩
  · rw [Array.getElem?_setIfInBounds, hT i hi]
    by_cases he : i = j
    · subst he; rw [if_pos rfl, if_pos (by rw [hs]; omega), if_pos rfl]
    · rw [if_neg (by omega), if_neg he, h5.at0 i hi]
  · rw [Array.getElem?_setIfInBounds, if_neg (by omega), hT i hi, h5.at1 i hi]
    by_cases he : i = j
    · subst he; rw [if_pos rfl]
    · rw [if_neg he]
  · rw [Array.getElem?_setIfInBounds, if_neg (by omega), hT i hi, h5.at2 i hi]
    by_cases he : i = j
    · subst he; rw [if_pos rfl]
    · rw [if_neg he]

/-- How far the first loop has come. -/
def L1 (ls : List Nat) (f k : Nat) (p : Nat) : El := ⟨0, 0, mo ls f k p⟩
/-- How far the second. -/
def L2 (ls : List Nat) (f k : Nat) (p : Nat) : El := ⟨if p < k ∧ 0 < M ls f p then S ls f p else 0, 0, M ls f p⟩
theorem L1_zero (ls : List Nat) (f : Nat) : L1 ls f 0 = fun _ => El.z := rfl
theorem L1_end (ls : List Nat) (f : Nat) : L1 ls f ls.length = L2 ls f 0 := by
  funext p; unfold L1 L2 M; rw [if_neg (by omega)]
theorem L1_skip (ls : List Nat) (f k : Nat) (h : ¬ f < ln ls k) : L1 ls f (k + 1) = L1 ls f k := by
  funext p; unfold L1; rw [mo, if_neg (fun hc => h hc.1)]
theorem L1_step (ls : List Nat) (f k p : Nat) (h : f < ln ls k) : L1 ls f (k + 1) p = if p = wd ls k % 2 ^ f then ⟨(L1 ls f k (wd ls k % 2 ^ f)).v, (L1 ls f k (wd ls k % 2 ^ f)).l, max (mo ls f k (wd ls k % 2 ^ f)) (ln ls k - f)⟩ else L1 ls f k p := by
  unfold L1; rw [mo]
  by_cases hp : p = wd ls k % 2 ^ f
  · rw [if_pos ⟨h, hp.symm⟩, if_pos hp, hp]
  · rw [if_neg (fun hc => hp hc.2.symm), if_neg hp]
theorem L2_step (ls : List Nat) (f k p : Nat) (h : 0 < M ls f k) : L2 ls f (k + 1) p = if p = k then ⟨S ls f k, (L2 ls f k k).l, (L2 ls f k k).m⟩ else L2 ls f k p := by
  unfold L2
  by_cases hp : p = k
  · subst hp; rw [if_pos ⟨by omega, h⟩, if_pos rfl]
  · rw [if_neg hp]
    have : (p < k + 1 ∧ 0 < M ls f p) ↔ (p < k ∧ 0 < M ls f p) := by omega
    simp only [this]
theorem L2_skip (ls : List Nat) (f k : Nat) (h : ¬ 0 < M ls f k) : L2 ls f (k + 1) = L2 ls f k := by
  funext p
  unfold L2
  by_cases hp : p = k
  · subst hp; rw [if_neg (fun hc => h hc.2), if_neg (fun hc => h hc.2)]
  · have : (p < k + 1 ∧ 0 < M ls f p) ↔ (p < k ∧ 0 < M ls f p) := by omega
    simp only [this]
theorem L2_end (ls : List Nat) (f : Nat) : (fun j => if j < 2 ^ f then L2 ls f (2 ^ f) j else El.z) = T0 ls f := by
  funext j
  unfold T0 L2
  by_cases hj : j < 2 ^ f
  · rw [if_pos hj, if_pos hj]
    simp only [hj, true_and]
  · rw [if_neg hj, if_neg hj]
theorem S_skip (ls : List Nat) (f k : Nat) (h : ¬ 0 < M ls f k) : S ls f (k + 1) = S ls f k := by rw [S, if_neg h]; rfl
end Go.Proofs.YtdbcendnibgcaaaGreatDoor.TabC
end

section
/-
  (*Table).link, walked.
-/
namespace Go.Proofs.YtdbcendnibgcaaaGreatDoor.TabC
open Go.RowKit Go.My BitMath CanMath TabMath CanC

/-- What link's loops keep. -/
structure LinkAt (w wr : World) (g ge f n : Nat) (T : Nat → El) : Prop where
  tab : TabAt wr g ge f n T
  only : Only (fun k => k = ge) w wr

set_option maxRecDepth 100000 in
set_option maxHeartbeats 8000000 in
theorem link_any (g ge f gw len cap : Nat) (a : Option Addr) (zs : List Int) (w : World) (h : TabAt w g ge f (2 ^ f) (fun _ => El.z)) (hf1 : 1 ≤ f) (hf : f ≤ 15)
    (hw : RowIn w (some ⟨gw, 0, none⟩) len len (wds (nat zs))) (hz : RowIn w a len cap (zs.map iv)) (hg : CanC.Good zs)
    (hgw : gw ≠ ge ∧ gw ≠ g) (ha : 0 < len → ∀ b off, a = some ⟨b, off, none⟩ → b ≠ ge ∧ b ≠ g) :
    Calls Tryz.prog 127 #[.pointer (some ⟨g, 0, none⟩), .slice (some ⟨gw, 0, none⟩) len len, .slice a len cap] w fun e w' =>
      e = .returned (.tuple #[]) ∧ ∃ ge', TabAt w' g ge' f (S (nat zs) f (2 ^ f)) (T0 (nat zs) f) ∧ w.heap.size ≤ ge' ∧ Only (fun k => k = ge ∨ k = g) w w' := by
  have hzl : zs.length = len := by have := hz.len_eq; simpa using this
  have HZ := Lib.hid hzl
  have HLS : Hid ((nat zs).length = len) := Lib.hid (by rw [nat_len]; exact hzl)
  have hlen : len ≤ 65536 := by rw [← hzl]; exact hg.1
  have HT := Lib.hid h
  have HW := Lib.hid hw
  have HR := Lib.hid hz
  have HG := Lib.hid hg
  have HA := Lib.hid ha
  have HGW := Lib.hid hgw
  have hp := pow_le15 hf
  have h0 := Nat.two_pow_pos f
  have hc3 : IntKind.i64.wrap (f : Int) = (f : Int) := by rw [IntWalk.i64_in _ (by omega)]
  clear h hw hz hg ha hgw hzl
  obtain ⟨P, hPe⟩ : ∃ P, P = 2 ^ f := ⟨_, rfl⟩
  rw [← hPe] at HT hp h0
  have HP := Lib.hid hPe
  clear hPe
  go_enter Tryz.func127, Tryz.ntmps127
  go_wp2_with fail
  go_loopw [6, 7, 8, 9, 16] (fun _ _ _ _ x wr => ∃ k : Nat, k ≤ len ∧ x = .int .i64 (k : Int) ∧ Hid (LinkAt w wr g ge f P (L1 (nat zs) f k))) (fun _ _ _ _ x _ => len - (intOf x).toNat)
  case atStart => exact ⟨0, Nat.zero_le _, rfl, Lib.hid ⟨HT.out, Only.refl _ _⟩⟩
  case round =>
    obtain ⟨k, hk, rfl, HL⟩ := hrel
    by_cases hlt : k < len
    · obtain ⟨b, off, rfl⟩ := HR.out.some_ (by omega)
      have hkz : k < zs.length := by rw [HZ.out]; exact hlt
      have hkn : k < (nat zs).length := by rw [HLS.out]; exact hlt
      obtain ⟨n, hn⟩ : ∃ n : Nat, zs[k] = (n : Int) := ⟨zs[k].toNat, by have := HG.out.2 _ (List.getElem_mem hkz); omega⟩
      have hn2 : ln (nat zs) k = n := by rw [ln_eq _ _ hkn, nat_get zs k hkz, hn]; rfl
      have hn15 : n ≤ 15 := by rw [← hn2]; exact ln_le HG.out.all k
      have hcz : wr.cell? ⟨b, off + k, none⟩ = some (.int .i64 (n : Int)) := by
        rw [HL.out.only.cell (p := ⟨b, off + k, none⟩) (HR.out.lt (by omega)) (HA.out (by omega) b off rfl).1, HR.out.get k (by simpa using hkz)]
        simp [iv, hn]
      have hcw : wr.cell? ⟨gw, k, none⟩ = some (.int .u32 ((wd (nat zs) k : Nat) : Int)) := by
        have h1 := HW.out.get k (by rw [wds_len]; exact hkn)
        rw [wds_get _ k hkn, Nat.zero_add] at h1
        rw [HL.out.only.cell (p := ⟨gw, k, none⟩) (HW.out.lt (by omega)) HGW.out.1, h1]; rfl
      have hwl : wd (nat zs) k < 32768 := by have h1 := wd_lt (nat zs) k; have h2 := pow_le15 hn15; rw [hn2] at h1; omega
      have ht0 : wr.cell? ⟨g, 0, none⟩ = some (.int .u64 (f : Int)) := by rw [HL.out.tab.tab.cell]; rfl
      have ht1 : wr.cell? ⟨g, 1, none⟩ = some (.slice (some ⟨ge, 0, none⟩) P P) := by rw [HL.out.tab.tab.cell]; rfl
      have hc4 : IntKind.i64.wrap ((n : Int) - (f : Int)) = (n : Int) - (f : Int) := by rw [IntWalk.i64_in _ (by omega)]
      by_cases hmore : f < n
      · go_wp2_with fail
        obtain ⟨p, hpe⟩ : ∃ p, p = wd (nat zs) k % 2 ^ f := ⟨_, rfl⟩
        have hpl : p < P := by rw [hpe, HP.out]; exact Nat.mod_lt _ (Nat.two_pow_pos f)
        have HQ : Hid (∀ nq, Calls Tryz.prog 134 #[.pointer (some ⟨g, 0, none⟩), .int .u32 ((wd (nat zs) k : Nat) : Int)] (wr.drewN nq) fun e w' => e = .returned (.int .u32 ((p : Nat) : Int)) ∧ ∃ m, w' = wr.drewN m) := Lib.hid (fun nq => by rw [hpe]; exact start_quiet g f _ nq _ wr HL.out.tab.tab hf (by omega))
        obtain ⟨mx, hmx⟩ : ∃ mx, mx = max (mo (nat zs) f k p) (n - f) := ⟨_, rfl⟩
        have HS : Hid (∀ j, L1 (nat zs) f (k + 1) j = if j = p then ⟨(L1 (nat zs) f k p).v, (L1 (nat zs) f k p).l, mx⟩ else L1 (nat zs) f k j) := Lib.hid (fun j => by
          rw [hmx, hpe, ← hn2]; exact L1_step (nat zs) f k j (by rw [hn2]; exact hmore))
        obtain ⟨⟨_, _, c2⟩, hfz⟩ := HL.out.tab.row'.el p hpl
        have f2 := hfz (p * 3 + 2)
        have hmol := mo_le (nat zs) f HG.out.all k p
        have c2 : wr.cell? ⟨ge, p * 3 + 2, none⟩ = some (.int .u8 ((mo (nat zs) f k p : Nat) : Int)) := c2
        clear hfz hpe
        generalize mo (nat zs) f k p = mv at *
        have e1 : IntKind.u8.wrap ((n : Int) - (f : Int)) = ((n - f : Nat) : Int) := by rw [IntKind.wrap_u8]; omega
        have e2 : (if mv < n - f then ((n - f : Nat) : Int) else (mv : Int)) = (mx : Int) := by split <;> omega
        have hpi : (p : Int) < (P : Int) := by omega
        clear hmx
        generalize wd (nat zs) k = wv at *
        go_quiet ((go_at_call 134; exact HQ.out _))
        have hb := quiet_below wr nq
        have HL2 : Hid (LinkAt w (wr.drewN nq) g ge f P (L1 (nat zs) f k)) := Lib.hid ⟨HL.out.tab.below hb, HL.out.only.then_below hb⟩
        have c3 : (wr.drewN nq).cell? ⟨ge, p * 3 + 2, none⟩ = some (.int .u8 (mv : Int)) := c2
        have f3 : (wr.drewN nq).frozen? ⟨ge, p * 3 + 2, none⟩ = false := f2
        clear hb HL c2 f2 ht0 ht1 hcz hcw HQ
        generalize wr.drewN nq = w2 at *
        have HR2 : Hid (Row (w2.setCell ⟨ge, p * 3 + 2, none⟩ (.int .u8 (mx : Int))) ge P (L1 (nat zs) f (k + 1))) := Lib.hid (HL2.out.tab.row'.set2 p mx hpl (fun j _ => HS.out j))
        have HB2 : Hid (Blk (w2.setCell ⟨ge, p * 3 + 2, none⟩ (.int .u8 (mx : Int))) g 164 #[.int .u64 (f : Int), .slice (some ⟨ge, 0, none⟩) P P]) := Lib.hid (HL2.out.tab.tab.same (Below.heap_setCell _ _ _ _ HL2.out.tab.ne))
        have HO2 : Hid (Only (fun k => k = ge) w (w2.setCell ⟨ge, p * 3 + 2, none⟩ (.int .u8 (mx : Int)))) := Lib.hid (HL2.out.only.setCell (p := ⟨ge, p * 3 + 2, none⟩) (fun _ => rfl) _)
        clear HL2 HS
        go_wp2_with fail
        go_roundw
        case rel => exact ⟨k + 1, by omega, by go_num, Lib.hid ⟨⟨HB2.out, HR2.out⟩, HO2.out⟩⟩
        case measure => simp [intOf]; omega
      · have HL2 : Hid (LinkAt w wr g ge f P (L1 (nat zs) f (k + 1))) := Lib.hid (by rw [L1_skip _ _ _ (by rw [hn2]; exact hmore)]; exact HL.out)
        go_wp2_with fail
        go_roundw
        case rel => exact ⟨k + 1, by omega, by go_num, HL2⟩
        case measure => simp [intOf]; omega
    · obtain rfl : k = len := by omega
      have HL2 : Hid (LinkAt w wr g ge f P (L2 (nat zs) f 0)) := Lib.hid (by have h1 := HL.out; rw [← HLS.out, L1_end] at h1; exact h1)
      have ht1 : wr.cell? ⟨g, 1, none⟩ = some (.slice (some ⟨ge, 0, none⟩) P P) := by rw [HL2.out.tab.tab.cell]; rfl
      clear HL
      go_wp2_with fail
      clear ht1
      go_loopw [10, 11, 12, 62] (fun sz _ _ x wr => ∃ k : Nat, k ≤ P ∧ x = .int .i64 (k : Int) ∧ sz = .int .i64 ((S (nat zs) f k : Nat) : Int) ∧ Hid (LinkAt w wr g ge f P (L2 (nat zs) f k))) (fun _ _ _ x _ => P - (intOf x).toNat)
      case atStart => exact ⟨0, Nat.zero_le _, rfl, by rw [S, ← HP.out], HL2⟩
      case round =>
        clear HL2
        obtain ⟨q, hq, rfl, rfl, HL⟩ := hrel
        have hSl : S (nat zs) f q ≤ 65536 := by
          have h1 := S_top (nat zs) f hf HG.out.all
          have h2 := S_mono (nat zs) f (show q ≤ 2 ^ f by rw [← HP.out]; exact hq)
          have h3 := HP.out
          omega
        by_cases hqP : q < P
        · obtain ⟨⟨d0, d1, d2⟩, hfz⟩ := HL.out.tab.row'.el q hqP
          have f0 := hfz (q * 3)
          have c0 : wr.cell? ⟨ge, q * 3, none⟩ = some (.int .u16 0) := by rw [d0]; simp [L2]
          have c1 : wr.cell? ⟨ge, q * 3 + 1, none⟩ = some (.int .u8 0) := by rw [d1]; simp [L2]
          have c2 : wr.cell? ⟨ge, q * 3 + 2, none⟩ = some (.int .u8 ((M (nat zs) f q : Nat) : Int)) := d2
          clear hfz d0 d1 d2
          have hMl := M_le (nat zs) f HG.out.all q
          by_cases hM : 0 < M (nat zs) f q
          · have HSN : Hid (S (nat zs) f q + 2 ^ M (nat zs) f q = S (nat zs) f (q + 1)) := Lib.hid (S_next _ _ _ hM)
            have hSs : S (nat zs) f q < 65536 := S_small (nat zs) f q hf HG.out.all (by rw [← HP.out]; exact hqP) hM
            have HSE : Hid (∀ j, L2 (nat zs) f (q + 1) j = if j = q then ⟨S (nat zs) f q, (L2 (nat zs) f q q).l, (L2 (nat zs) f q q).m⟩ else L2 (nat zs) f q j) := Lib.hid (fun j => L2_step _ _ _ j hM)
            generalize M (nat zs) f q = m at *
            generalize S (nat zs) f q = s at *
            have g1 : ((m : Int) == 0) = false := by simp; omega
            have g2 : IntKind.u16.wrap (s : Int) = (s : Int) := by rw [IntKind.wrap_u16]; omega
            have hm2 : 2 ^ m ≤ 2 ^ 14 := Nat.pow_le_pow_right (by omega) (by omega)
            have hp2 : (2 : Int) ^ m = ((2 ^ m : Nat) : Int) := by push_cast; rfl
            generalize 2 ^ m = d at *
            have g3 : min m 64 = m := by omega
            have g4 : IntKind.i64.wrap (2 ^ m) = (d : Int) := by rw [hp2, IntWalk.i64_in _ (by omega)]
            have g5 : (1 : Int) * 2 ^ m = (d : Int) := by rw [hp2]; omega
            go_upto_region 12 with (fail)
            obtain ⟨w4, hw4⟩ : ∃ w4, w4 = wr.alloc (.cells #[.int .u16 0, .int .u8 0, .int .u8 (m : Int)] 168) := ⟨_, rfl⟩
            rw [← hw4]
            have HL4 : Hid (LinkAt w w4 g ge f P (L2 (nat zs) f q)) := Lib.hid (by rw [hw4]; exact ⟨HL.out.tab.alloc _, HL.out.only.alloc _⟩)
            have hx : Blk w4 wr.heap.size 168 #[.int .u16 0, .int .u8 0, .int .u8 (m : Int)] := by rw [hw4]; exact Blk.new wr _ _
            have x0 : w4.cell? ⟨wr.heap.size, 0, none⟩ = some (.int .u16 0) := by rw [hx.cell]; rfl
            have x1 : w4.cell? ⟨wr.heap.size, 1, none⟩ = some (.int .u8 0) := by rw [hx.cell]; rfl
            have x2 : w4.cell? ⟨wr.heap.size, 2, none⟩ = some (.int .u8 (m : Int)) := by rw [hx.cell]; rfl
            have hne : wr.heap.size ≠ ge := by have := HL.out.tab.lt.2; omega
            have x3 : (w4.setCell ⟨ge, q * 3, none⟩ (.int .u16 (s : Int))).cell? ⟨wr.heap.size, 2, none⟩ = some (.int .u8 (m : Int)) := by
              rw [(hx.same (Below.heap_setCell _ _ _ _ hne)).cell]; rfl
            have ht1 : w4.cell? ⟨g, 1, none⟩ = some (.slice (some ⟨ge, 0, none⟩) P P) := by rw [HL4.out.tab.tab.cell]; rfl
            obtain ⟨⟨d0, _, _⟩, hfz⟩ := HL4.out.tab.row'.el q hqP
            have k0 : w4.cell? ⟨ge, q * 3, none⟩ = some (.int .u16 0) := by rw [d0]; simp [L2]
            have k1 := hfz (q * 3)
            clear hw4 HL c0 c1 c2 f0 hx hne d0 hfz
            generalize wr.heap.size = g6 at *
            have HR5 : Hid (Row (w4.setCell ⟨ge, q * 3, none⟩ (.int .u16 (s : Int))) ge P (L2 (nat zs) f (q + 1))) := Lib.hid (HL4.out.tab.row'.set0 q s hqP (fun j _ => HSE.out j))
            have HB5 : Hid (Blk (w4.setCell ⟨ge, q * 3, none⟩ (.int .u16 (s : Int))) g 164 #[.int .u64 (f : Int), .slice (some ⟨ge, 0, none⟩) P P]) := Lib.hid (HL4.out.tab.tab.same (Below.heap_setCell _ _ _ _ HL4.out.tab.ne))
            have HO5 : Hid (Only (fun k => k = ge) w (w4.setCell ⟨ge, q * 3, none⟩ (.int .u16 (s : Int)))) := Lib.hid (HL4.out.only.setCell (p := ⟨ge, q * 3, none⟩) (fun _ => rfl) _)
            have hqi : (q : Int) < (P : Int) := by omega
            clear HL4 HSE
            go_wp2_with fail
            go_roundw
            case rel => exact ⟨q + 1, by omega, by go_num, by rw [← HSN.out]; go_num, Lib.hid ⟨⟨HB5.out, HR5.out⟩, HO5.out⟩⟩
            case measure => simp [intOf]; omega
          · have HSN : Hid (S (nat zs) f q = S (nat zs) f (q + 1)) := Lib.hid (S_skip _ _ _ hM).symm
            have HLE : Hid (L2 (nat zs) f (q + 1) = L2 (nat zs) f q) := Lib.hid (L2_skip _ _ _ hM)
            have hM0 : M (nat zs) f q = 0 := by omega
            rw [hM0] at c2
            clear hM hM0 hMl
            have HL3 : Hid (LinkAt w (wr.alloc (.cells #[.int .u16 0, .int .u8 0, .int .u8 0] 168)) g ge f P (L2 (nat zs) f (q + 1))) := Lib.hid (by rw [HLE.out]; exact ⟨HL.out.tab.alloc _, HL.out.only.alloc _⟩)
            clear HL
            rw [HSN.out]
            clear HSN hSl
            go_wp2_with fail
            go_roundw
            case rel => exact ⟨q + 1, by omega, by go_num, rfl, HL3⟩
            case measure => simp [intOf]; omega
        · obtain rfl : q = P := by omega
          have HSP : Hid (S (nat zs) f q = S (nat zs) f (2 ^ f)) := Lib.hid (by rw [← HP.out])
          have HLE : Hid ((fun j => if j < q then L2 (nat zs) f q j else El.z) = T0 (nat zs) f) := Lib.hid (by rw [HP.out]; exact L2_end _ _)
          have hqS : q ≤ S (nat zs) f q := by have h1 := S_ge (nat zs) f q; have h2 := HP.out; omega
          obtain ⟨s, hse⟩ : ∃ s, s = S (nat zs) f q := ⟨_, rfl⟩
          rw [← hse] at HSP hqS hSl ⊢
          clear hse
          go_wp2_with (at_make; refine wpList_make_els _ rfl (.tmp 85) (.tmp 85) rfl .i64 .i64 s rfl rfl (by omega) ?_)
          intro C hE
          obtain ⟨w5, hw5⟩ : ∃ w5, w5 = wr.alloc (.cells C 168) := ⟨_, rfl⟩
          rw [← hw5]
          have HL5 : Hid (LinkAt w w5 g ge f q (L2 (nat zs) f q)) := Lib.hid (by rw [hw5]; exact ⟨HL.out.tab.alloc _, HL.out.only.alloc _⟩)
          have HR5 : Hid (Row w5 wr.heap.size s (fun _ => El.z)) := Lib.hid (by rw [hw5]; exact ⟨C, Blk.new wr _ _, hE⟩)
          have HN5 : Hid (w.heap.size ≤ wr.heap.size ∧ g ≠ wr.heap.size ∧ ge ≠ wr.heap.size) := Lib.hid (by
            have h1 := HL.out.tab.lt
            exact ⟨HL.out.only.size, by omega, by omega⟩)
          have ht1 : w5.cell? ⟨g, 1, none⟩ = some (.slice (some ⟨ge, 0, none⟩) q q) := by rw [HL5.out.tab.tab.cell]; rfl
          clear hw5 hE HL
          generalize wr.heap.size = gn at *
          go_wp2_with (refine wpList_copy_els _ rfl (.tmp 87) (.tmp 91) rfl gn ge s q s q (L2 (nat zs) f q) rfl rfl hqS HR5.out HL5.out.tab.row' ?_)
          intro w6 hr6 ho6
          have HR6 : Hid (Row w6 gn s (T0 (nat zs) f)) := Lib.hid (by rw [← HLE.out]; exact hr6)
          have HB6 : Hid (Blk w6 g 164 #[.int .u64 (f : Int), .slice (some ⟨ge, 0, none⟩) q q]) := Lib.hid (ho6.blk HL5.out.tab.tab HN5.out.2.1)
          have HO6 : Hid (Only (fun k => k = ge ∨ k = g) w w6) := Lib.hid ((HL5.out.only.mono (fun _ _ h => .inl h)).trans ho6 (fun k hk h => by have := HN5.out.1; omega))
          have t1 : w6.cell? ⟨g, 1, none⟩ = some (.slice (some ⟨ge, 0, none⟩) q q) := by rw [HB6.out.cell]; rfl
          have t2 : w6.frozen? ⟨g, 1, none⟩ = false := HB6.out.frozen 1
          have HB7 : Hid (Blk (w6.setCell ⟨g, 1, none⟩ (.slice (some ⟨gn, 0, none⟩) s s)) g 164 #[.int .u64 (f : Int), .slice (some ⟨gn, 0, none⟩) s s]) := Lib.hid (HB6.out.set_ 1 _)
          have HR7 : Hid (Row (w6.setCell ⟨g, 1, none⟩ (.slice (some ⟨gn, 0, none⟩) s s)) gn s (T0 (nat zs) f)) := Lib.hid (HR6.out.same (Below.heap_setCell _ _ _ _ (fun h => HN5.out.2.1 h.symm)))
          have HO7 : Hid (Only (fun k => k = ge ∨ k = g) w (w6.setCell ⟨g, 1, none⟩ (.slice (some ⟨gn, 0, none⟩) s s))) := Lib.hid (HO6.out.setCell (p := ⟨g, 1, none⟩) (fun _ => .inr rfl) _)
          clear hr6 ho6 HL5 HR5 ht1 HB6 HR6 HO6
          go_wp2_with fail
          go_end0
          exact ⟨rfl, gn, by rw [← HSP.out]; exact ⟨HB7.out, HR7.out⟩, HN5.out.1, HO7.out⟩
end Go.Proofs.YtdbcendnibgcaaaGreatDoor.TabC
end

section
/-
  A table of lengths: its symbols placed; what is found in it.
-/
namespace Go.Proofs.YtdbcendnibgcaaaGreatDoor.TabC
open Go.RowKit Go.My BitMath CanMath TabMath CanC

section
variable {ls : List Nat} (hall : ∀ x ∈ ls, x ≤ 15) (hk : kr ls ≤ 32768) (hlen : ls.length ≤ 65536) (f : Nat) (hf1 : 1 ≤ f) (hf : f ≤ 15)
include hall hf in
theorem top_le : S ls f (2 ^ f) ≤ 65536 := by
  have h1 := S_top ls f hf hall
  have h2 := pow_le15 hf
  omega
include hall hk hlen hf1 hf in
theorem place_tab (g ge k : Nat) (w : World) (h : TabAt w g ge f (S ls f (2 ^ f)) (TT ls f k)) (hn : 1 ≤ ln ls k) :
    Calls Tryz.prog 128 #[.pointer (some ⟨g, 0, none⟩), .int .i64 (k : Int), .int .u32 ((wd ls k : Nat) : Int), .int .i64 ((ln ls k : Nat) : Int)] w fun r w' =>
      r = .returned (.tuple #[]) ∧ TabAt w' g ge f (S ls f (2 ^ f)) (TT ls f (k + 1)) ∧ Only (fun k => k = ge) w w' := by
  have hkl := ln_lt hn
  have htop := top_le hall f hf
  have h15 := ln_le hall k
  by_cases hs : ln ls k ≤ f
  · have e : TT ls f (k + 1) = fun j => if j < 2 ^ f ∧ j % 2 ^ ln ls k = wd ls k then ⟨k, ln ls k, 0⟩ else TT ls f k j := by
      rw [TT, put, if_neg (by omega), if_pos hs]
    rw [e]
    exact place_short g ge f _ k (ln ls k) (wd ls k) (TT ls f k) w h hf htop (by omega) hs (wd_lt ls k) (S_ge ls f _)
  · have hto := tt_to hall hk f k k (by omega)
    have e : TT ls f (k + 1) = fun j => if (TT ls f k (wd ls k % 2 ^ f)).v ≤ j ∧ j < (TT ls f k (wd ls k % 2 ^ f)).v + 2 ^ (TT ls f k (wd ls k % 2 ^ f)).m ∧ (j - (TT ls f k (wd ls k % 2 ^ f)).v) % 2 ^ (ln ls k - f) = wd ls k / 2 ^ f then ⟨k, ln ls k, 0⟩ else TT ls f k j := by
      rw [TT, put, if_neg (by omega), if_neg hs]
    rw [e]
    have hp2 : wd ls k % 2 ^ f < 2 ^ f := Nat.mod_lt _ (Nat.two_pow_pos f)
    have hge := S_ge ls f (2 ^ f)
    have hM := M_ge ls f k (by omega)
    refine place_long g ge f _ k (ln ls k) (wd ls k) (TT ls f k) w h hf1 htop (by omega) (by omega) h15 (wd_lt ls k) (by omega) ?_ ?_
    · rw [hto]; have := M_le ls f hall (wd ls k % 2 ^ f); dsimp only; omega
    · rw [hto]; exact S_in ls f _ hp2 (by omega)
include hall hk hlen hf1 hf in
theorem find_tab (g ge v : Nat) (n : Int) (w : World) (h : TabAt w g ge f (S ls f (2 ^ f)) (TT ls f ls.length)) (hv : v < 4294967296) :
    Calls Tryz.prog 117 #[.pointer (some ⟨g, 0, none⟩), .int .u32 (v : Int), .int .i64 n] w fun e w' => e = .returned (ansV (who ls (v % 2 ^ cl n)) (cl n)) ∧ Below w.heap.size w w' := by
  have hlook : ∀ u, lookT (TT ls f ls.length) f u = who ls u := fun u => (show lookT (TT ls f ls.length) f u = TabMath.look ls f u from rfl).trans (look_who hall hk f u)
  rw [← hlook]
  refine find_any g ge f _ v n _ w h hf hv fun u hu => ?_
  have hp : u % 2 ^ f < 2 ^ f := Nat.mod_lt _ (Nat.two_pow_pos f)
  have hge := S_ge ls f (2 ^ f)
  have hw : lookT (TT ls f ls.length) f u = El.z ∨ (0 < (lookT (TT ls f ls.length) f u).l ∧ (lookT (TT ls f ls.length) f u).l ≤ 15 ∧ (lookT (TT ls f ls.length) f u).v < 65536) := by
    rw [hlook]
    rcases who_cases hall hk u with ⟨i, hi, e⟩ | ⟨_, e⟩
    · right
      rw [e]
      have := ln_lt hi.1
      exact ⟨hi.1, ln_le hall i, by dsimp only; omega⟩
    · exact .inl e
  by_cases hM : 0 < M ls f (u % 2 ^ f)
  · have e := tt_keep hall hk f ls.length _ hp hM
    refine ⟨by omega, ?_, ?_, ?_, hw⟩
    · rw [e]; have := M_le ls f hall (u % 2 ^ f); dsimp only; omega
    · intro _
      rw [e]
      have h1 := S_in ls f _ hp hM
      have h2 := Nat.mod_lt (u / 2 ^ f) (Nat.two_pow_pos (M ls f (u % 2 ^ f)))
      dsimp only
      omega
    · rw [e]; exact S_small ls f _ hf hall hp hM
  · have h1 := tt_first hall hk f u (by omega) ls.length
    have e : TT ls f ls.length (u % 2 ^ f) = who ls u := by
      rcases who_cases hall hk u with ⟨i, hi, e⟩ | ⟨hn, e⟩
      · rw [e, h1.1 i (ln_lt hi.1) hi]
      · rw [e, h1.2 (fun i _ => hn i)]
    rw [e]
    rcases who_cases hall hk u with ⟨i, hi, e⟩ | ⟨_, e⟩
    · rw [e]
      have := ln_lt hi.1
      exact ⟨by omega, by dsimp only; omega, fun h => absurd h (by simp), by dsimp only; omega, hw⟩
    · rw [e]
      exact ⟨by omega, by simp [El.z], fun h => absurd h (by simp [El.z]), by simp [El.z], hw⟩
end

/-- The codes' words, the first k turned round. -/
def wk (ls : List Nat) (k : Nat) : List Value := (List.range ls.length).map fun i => CanC.uv (if i < k then wd ls i else codeW ls i)
theorem wk_len (ls : List Nat) (k : Nat) : (wk ls k).length = ls.length := by simp [wk]
theorem wk_get (ls : List Nat) (k i : Nat) (h : i < ls.length) : (wk ls k)[i]'(by rw [wk_len]; exact h) = CanC.uv (if i < k then wd ls i else codeW ls i) := by simp [wk]
theorem wk_zero (ls : List Nat) : wk ls 0 = allWords ls := by
  apply List.ext_getElem
  · rw [wk_len, allWords_len]
  · intro i h1 h2
    rw [wk_len] at h1
    rw [wk_get _ _ _ h1, allWords_get _ _ h1, if_neg (by omega)]
theorem wk_end (ls : List Nat) : wk ls ls.length = wds ls := by
  apply List.ext_getElem
  · rw [wk_len, wds_len]
  · intro i h1 h2
    rw [wk_len] at h1
    rw [wk_get _ _ _ h1, wds_get _ _ h1, if_pos h1]
theorem wk_set (ls : List Nat) (k : Nat) : (wk ls k).set k (CanC.uv (wd ls k)) = wk ls (k + 1) := by
  apply List.ext_getElem
  · simp [wk]
  · intro i h1 h2
    rw [List.getElem_set]
    rw [wk_len] at h2
    rw [wk_get _ _ _ h2, wk_get _ _ _ h2]
    by_cases h : k = i
    · subst h; rw [if_pos rfl, if_pos (by omega)]
    · rw [if_neg h]
      have : (i < k + 1) ↔ (i < k) := by omega
      simp only [this]
theorem rc_code (ls : List Nat) (hall : ∀ x ∈ ls, x ≤ 15) (hk : kr ls ≤ 32768) (i : Nat) (h : i < ls.length) : codeW ls i < 2 ^ ln ls i ∧ rc (ln ls i) (codeW ls i) = wd ls i := by
  rw [codeW_eq ls i h, ← ln_eq ls i h]
  by_cases h0 : ln ls i = 0
  · rw [if_pos h0]
    unfold wd
    rw [h0]
    exact ⟨by simp, rfl⟩
  · rw [if_neg h0]
    exact ⟨code_small hall hk i (by omega), rfl⟩

/-- A table of these lengths lies at g. -/
structure IsTab (B : Nat) (w : World) (g : Nat) (ls : List Nat) (f : Nat) : Prop where
  base : B ≤ g
  at_ : ∃ ge, B ≤ ge ∧ TabAt w g ge f (S ls f (2 ^ f)) (TT ls f ls.length)
theorem IsTab.below {B : Nat} {w w' : World} {g : Nat} {ls : List Nat} {f : Nat} (h : IsTab B w g ls f) (hb : Below w.heap.size w w') : IsTab B w' g ls f := by
  obtain ⟨h1, ge, h2, h3⟩ := h
  exact ⟨h1, ge, h2, h3.below hb⟩
theorem find_is {B : Nat} {g f v : Nat} {n : Int} {zs : List Int} {w : World} (h : IsTab B w g (nat zs) f) (hg : CanC.Good zs) (hk : kr (nat zs) ≤ 32768) (hf1 : 1 ≤ f) (hf : f ≤ 15) (hv : v < 4294967296) :
    Calls Tryz.prog 117 #[.pointer (some ⟨g, 0, none⟩), .int .u32 (v : Int), .int .i64 n] w fun e w' => e = .returned (ansV (who (nat zs) (v % 2 ^ cl n)) (cl n)) ∧ Below w.heap.size w w' := by
  obtain ⟨_, ge, _, h3⟩ := h
  exact find_tab hg.all hk (by rw [nat_len]; exact hg.1) f hf1 hf g ge v n w h3 hv
end Go.Proofs.YtdbcendnibgcaaaGreatDoor.TabC
end
