/-
  gzip.Put: every call.
-/
import Derived.Test.YtilfmmjjiiabgaaGzC
import Derived.Test.YtilfmmjjiiabgaaNumP
import Derived.Lib.AppendStr
import Derived.Deep.RegionLaw
namespace Go.Proofs.Ytilfmmjjiiabgaa.GzC
open Go.RowKit Go.My GzMath
open Go.My.NumMath (bytesOf)

theorem own_low {E : TypeId} {B B' : Nat} {w : World} {v : Value} {l : List UInt8} (h : Own E B w v l) (hB : B' ≤ B) : Own E B' w v l := by
  refine ⟨h.1, ?_⟩
  rcases h.2 with hn | ⟨g, cap, cur, h1, h2, rest⟩
  · exact .inl hn
  · exact .inr ⟨g, cap, cur, h1, Nat.le_trans hB h2, rest⟩
/-- A header that may not be put. -/
def badH (named : Bool) (name : List UInt8) : Bool := (!named && !name.isEmpty) || decide (65535 < name.length) || hasZ name
def flagB (named : Bool) : UInt8 := if named then 8 else 0
/-- A header's bytes. -/
def putH (named : Bool) (name : List UInt8) (u : Nat) : List UInt8 := [31, 139, 8, flagB named] ++ bytesOf false 4 u ++ [0, 255] ++ (if named then name ++ [0] else [])

theorem info5 : (Try.prog.info? 5).map (fun i => (i.zero, i.size, i.bytes)) = some (some (.int .u8 0), 1, 1) := NumC.info5
/-- A conversion of a row of bytes to its own type marks it. -/
theorem run_convert_mark (W : World) (g n c : Nat) (C : Array Value) (hg : W.heap[g]? = some (.cells C 5 (0, 0))) :
    (convert 22 22 (.slice (some ⟨g, 0, none⟩) n c)).run Try.prog W = .ok (.slice (some ⟨g, 0, none⟩) n c) (W.freeze ⟨g, C.size, none⟩ 1) := by
  have hsh : W.shape? g = some (5, C.size) := by unfold World.shape?; rw [hg]
  simp [convert, run_underlying Try.underlying22, run_underlying Try.underlying5, markStringish, hsh]
theorem mark_inner (w : World) (C D : Array Value) : ((w.alloc (.cells C 5)).alloc (.cells D 5)).freeze ⟨w.heap.size, C.size, none⟩ 1 = (w.alloc (.cells C 5 (C.size, C.size + 1))).alloc (.cells D 5) := by
  unfold World.freeze
  rw [if_neg (by decide)]
  have : ∀ (a : Array Obj) (x y : Obj) (f : Obj → Obj), ((a.push x).push y).modify a.size f = (a.push (f x)).push y := by
    intro a x y f
    apply Array.ext
    · simp
    · intro i h1 h2
      simp only [Array.getElem_modify, Array.getElem_push, Array.size_push]
      by_cases h : a.size = i
      · subst h; simp
      · by_cases h3 : i < a.size
        · simp [h, h3, Nat.lt_succ_of_lt h3]
        · simp [h, show ¬ i < a.size + 1 by omega]
  show ({ (w.alloc (.cells C 5)).alloc (.cells D 5) with heap := ((w.heap.push (.cells C 5)).push (.cells D 5)).modify w.heap.size _ } : World) = _
  rw [this]
  rfl
theorem mark_last (w : World) (C : Array Value) : (w.alloc (.cells C 5)).freeze ⟨w.heap.size, C.size, none⟩ 1 = w.alloc (.cells C 5 (C.size, C.size + 1)) := by
  unfold World.freeze
  rw [if_neg (by decide)]
  have : ∀ (a : Array Obj) (x : Obj) (f : Obj → Obj), (a.push x).modify a.size f = a.push (f x) := by
    intro a x f
    apply Array.ext
    · simp
    · intro i h1 h2
      simp only [Array.getElem_modify, Array.getElem_push]
      by_cases h : a.size = i
      · subst h; simp
      · have hi : i < a.size := by simp at h1; omega
        simp [h, hi]
  show ({ w.alloc (.cells C 5) with heap := (w.heap.push (.cells C 5)).modify w.heap.size _ } : World) = _
  rw [this]
  rfl
def m3 : Array Value := #[.int .u8 31, .int .u8 139, .int .u8 8]
/-- append of a byte onto the three first ones, wherever both lie. -/
theorem append_four (W : World) (g1 g3 : Nat) (c : UInt8) (ty : TypeId) (h1 : ∀ j v, m3.toList[j]? = some v → W.cell? ⟨g1, j, none⟩ = some v) (h3 : W.cell? ⟨g3, 0, none⟩ = some (.int .u8 (c.toNat : Int))) :
    ∃ cap W', (Builtin.append_ #[22, 22] ty #[.slice (some ⟨g1, 0, none⟩) 3 3, .slice (some ⟨g3, 0, none⟩) 1 1]).run Try.prog W = .ok (.slice (some ⟨W.heap.size, 0, none⟩) 4 cap) W' ∧
      Bytes W' (some ⟨W.heap.size, 0, none⟩) 4 cap [31, 139, 8, c] ∧ Below W.heap.size W W' := by
  obtain ⟨i, hi, hz, hsz, hby⟩ := info_parts info5
  have hr := run_append_grow (P := Try.prog) W 22 ty 5 i (.int .u8 0) Try.underlying22 hi hz ⟨g1, 0, none⟩ 3 3 m3.toList (by rw [hsz]; rfl) (fun j v hj => by rw [addr_add, Nat.zero_add]; exact h1 j v hj)
    ⟨g3, 0, none⟩ 1 1 [.int .u8 (c.toNat : Int)] (by rw [hsz]; rfl) (fun j v hj => by
      have h0 : j = 0 := by have := (List.getElem?_eq_some_iff.1 hj).1; simpa using this
      subst h0
      rw [addr_add, Nat.zero_add]
      simp at hj
      rw [← hj]; exact h3) (by omega) (by omega) (by rw [hby]; decide)
  refine ⟨_, _, hr, ⟨rfl, ?_, ?_, (fun h => by cases h), .inr ⟨W.heap.size, 0, rfl, by simp, fun j hj => ?_⟩⟩, ((Below.refl _ W).drew).alloc (by simp) _⟩
  · exact grownCap_ge W 4 3 5
  · have := grownCap_le_maxLen W 4 3 5 (by unfold maxLen; omega)
    unfold maxLen at this; exact this
  · have e : (W.drew.alloc (.cells (m3.toList.toArray ++ [Value.int .u8 (c.toNat : Int)].toArray ++ Builtin.zeroCells (Value.int .u8 0).cells (grownCap W 4 3 5 - 4)) 5)).heap[W.heap.size]? = some (.cells (m3.toList.toArray ++ [Value.int .u8 (c.toNat : Int)].toArray ++ Builtin.zeroCells (Value.int .u8 0).cells (grownCap W 4 3 5 - 4)) 5) := heap_alloc_new W.drew _
    rw [cell_of_row _ _ _ _ _ _ e]
    have : j = 0 ∨ j = 1 ∨ j = 2 ∨ j = 3 := by simp at hj; omega
    rcases this with rfl | rfl | rfl | rfl <;> (simp [m3]; rw [Array.getElem?_append_left (by simp)]; rfl)

/-- The bytes of a literal, marked or not. -/
theorem lit_cell (W : World) (g : Nat) (C : Array Value) (fr : Nat × Nat) (h : W.heap[g]? = some (.cells C 5 fr)) (j : Nat) (v : Value) (hj : C.toList[j]? = some v) : W.cell? ⟨g, j, none⟩ = some v := by
  rw [World.cell?]
  simp only [h]
  simpa using hj
theorem heap_two (w : World) (x y : Obj) : ((w.alloc x).alloc y).heap[w.heap.size]? = some x ∧ ((w.alloc x).alloc y).heap[w.heap.size + 1]? = some y := by
  constructor
  · show ((w.heap.push x).push y)[w.heap.size]? = _
    rw [Array.getElem?_push_lt (by simp)]; simp
  · show ((w.heap.push x).push y)[w.heap.size + 1]? = _
    have := Array.getElem?_push_size (xs := w.heap.push x) (x := y)
    rw [Array.size_push] at this
    exact this
theorem lit_two (E : TypeId) (w : World) : Bytes (w.alloc (.cells #[.int .u8 0, .int .u8 255] E)) (some ⟨w.heap.size, 0, none⟩) 2 2 [0, 255] := by
  refine ⟨rfl, Nat.le_refl _, by omega, (fun h => by cases h), .inr ⟨w.heap.size, 0, rfl, by simp, ?_⟩⟩
  intro i hi
  rw [cell_of_row _ _ _ _ _ _ (heap_alloc_new w _)]
  have : i = 0 ∨ i = 1 := by simp at hi; omega
  rcases this with rfl | rfl <;> rfl
theorem own_str {E : TypeId} {B : Nat} {w : World} {v : Value} {l name : List UInt8} (h : w.ownsRow B E 1 v (l.length + (⟨name.toArray⟩ : ByteArray).size) (l.map bv ++ Go.Lib.strCells ⟨name.toArray⟩)) : Own E B w v (l ++ name) := by
  unfold Own
  rw [List.length_append, List.map_append]
  have e1 : (⟨name.toArray⟩ : ByteArray).size = name.length := by simp [ByteArray.size]
  have e2 : Go.Lib.strCells ⟨name.toArray⟩ = name.map bv := by unfold Go.Lib.strCells bv; simp
  rw [e1, e2] at h
  exact h
/-- The first four bytes, in every order in which the two literals may be made. -/
structure Four (w1 : World) (c : UInt8) (q cap : Nat) (V W' : World) (g1 g3 : Nat) : Prop where
  run : ∀ ty, (Builtin.append_ #[22, 22] ty #[.slice (some ⟨g1, 0, none⟩) 3 3, .slice (some ⟨g3, 0, none⟩) 1 1]).run Try.prog V = .ok (.slice (some ⟨q, 0, none⟩) 4 cap) W'
  row : Bytes W' (some ⟨q, 0, none⟩) 4 cap [31, 139, 8, c]
  below : Below w1.heap.size w1 W'
theorem four_of (w1 V : World) (c : UInt8) (g1 g3 : Nat) (h1 : ∀ j v, m3.toList[j]? = some v → V.cell? ⟨g1, j, none⟩ = some v) (h3 : V.cell? ⟨g3, 0, none⟩ = some (.int .u8 (c.toNat : Int))) (hb : Below w1.heap.size w1 V) :
    ∃ q cap W', Four w1 c q cap V W' g1 g3 := by
  obtain ⟨i, hi, hz, hsz, hby⟩ := info_parts info5
  obtain ⟨cap, W', hr, hby, hbl⟩ := append_four V g1 g3 c 0 h1 h3
  refine ⟨V.heap.size, cap, W', ⟨fun ty => hr, hby, hb.trans (hbl.mono hb.size)⟩⟩
theorem four_1 (w1 : World) (c : UInt8) : ∃ q cap W', Four w1 c q cap ((w1.alloc (.cells #[.int .u8 31, .int .u8 139, .int .u8 8] 5 (3, 4))).alloc (.cells #[.int .u8 (c.toNat : Int)] 5)).drew W' w1.heap.size (w1.heap.size + 1) :=
  four_of _ _ c _ _ (lit_cell _ _ _ _ (heap_two w1 _ _).1) (lit_cell _ _ _ _ (heap_two w1 _ _).2 0 _ rfl) ((((Below.refl _ w1).alloc (Nat.le_refl _) _).alloc (by simp) _).drew)
theorem four_2 (w1 : World) (c : UInt8) : ∃ q cap W', Four w1 c q cap ((w1.alloc (.cells #[.int .u8 (c.toNat : Int)] 5)).alloc (.cells #[.int .u8 31, .int .u8 139, .int .u8 8] 5 (3, 4))).drew W' (w1.heap.size + 1) w1.heap.size :=
  four_of _ _ c _ _ (lit_cell _ _ _ _ (heap_two w1 _ _).2) (lit_cell _ _ _ _ (heap_two w1 _ _).1 0 _ rfl) ((((Below.refl _ w1).alloc (Nat.le_refl _) _).alloc (by simp) _).drew)
theorem Four.step {w1 V W' : World} {c : UInt8} {q cap g1 g3 : Nat} (F : Four w1 c q cap V W' g1 g3) {ops : Array Oper} {o : Oper} {a : Act} {K : Act → World → Prop} {Q : Exit → Act → World → Prop} {Fl : Prop} (hgd : o.guard = none) (s x : Operand)
    (ho : o.op = .call { callee := .builtin .append, args := #[s, x], argTypes := #[22, 22] }) (hs : a.eval s = .slice (some ⟨g1, 0, none⟩) 3 3) (hx : a.eval x = .slice (some ⟨g3, 0, none⟩) 1 1)
    (h : K (a.put o.dst (.slice (some ⟨q, 0, none⟩) 4 cap)) W') : if Region.wanted o (yielded ops a.tmps) = true then Oper.wp Try.prog o a V K Q else Fl := by
  have hw : Region.wanted o (yielded ops a.tmps) = true := by simp [Region.wanted, hgd]
  rw [if_pos hw]
  unfold Oper.wp execOp
  simp only [ho, resolve, invoke, builtin, Sem.run_bind, Sem.run_pure, Result.andThen_ok, List.map_toArray, List.map_cons, List.map_nil, hs, hx, F.run o.type]
  exact h
theorem kc_1 (w1 : World) : (convert 22 22 (.slice (some ⟨w1.heap.size, 0, none⟩) 3 3)).run Try.prog (w1.alloc (.cells #[.int .u8 31, .int .u8 139, .int .u8 8] 5)).drew = .ok (.slice (some ⟨w1.heap.size, 0, none⟩) 3 3) (w1.alloc (.cells #[.int .u8 31, .int .u8 139, .int .u8 8] 5 (3, 4))).drew := by
  have := run_convert_mark (w1.drew.alloc (.cells m3 5)) w1.heap.size 3 3 m3 (heap_alloc_new w1.drew _)
  rw [show w1.heap.size = w1.drew.heap.size from rfl, mark_last] at this
  exact this
theorem kc_2 (w1 : World) (D : Array Value) : (convert 22 22 (.slice (some ⟨w1.heap.size, 0, none⟩) 3 3)).run Try.prog ((w1.alloc (.cells #[.int .u8 31, .int .u8 139, .int .u8 8] 5)).alloc (.cells D 5)).drew = .ok (.slice (some ⟨w1.heap.size, 0, none⟩) 3 3) ((w1.alloc (.cells #[.int .u8 31, .int .u8 139, .int .u8 8] 5 (3, 4))).alloc (.cells D 5)).drew := by
  have := run_convert_mark ((w1.drew.alloc (.cells m3 5)).alloc (.cells D 5)) w1.heap.size 3 3 m3 (heap_two w1.drew _ _).1
  rw [show w1.heap.size = w1.drew.heap.size from rfl, mark_inner] at this
  exact this
theorem kc_3 (w1 : World) (D : Array Value) : (convert 22 22 (.slice (some ⟨w1.heap.size + 1, 0, none⟩) 3 3)).run Try.prog ((w1.alloc (.cells D 5)).alloc (.cells #[.int .u8 31, .int .u8 139, .int .u8 8] 5)).drew = .ok (.slice (some ⟨w1.heap.size + 1, 0, none⟩) 3 3) ((w1.alloc (.cells D 5)).alloc (.cells #[.int .u8 31, .int .u8 139, .int .u8 8] 5 (3, 4))).drew := by
  have := run_convert_mark ((w1.drew.alloc (.cells D 5)).alloc (.cells m3 5)) (w1.heap.size + 1) 3 3 m3 (heap_two w1.drew _ _).2
  have e : w1.heap.size + 1 = (w1.drew.alloc (.cells D 5)).heap.size := by simp
  rw [e, mark_last] at this
  rw [← e] at this
  exact this
set_option maxRecDepth 100000 in
set_option maxHeartbeats 4000000 in
theorem put_ok (named : Bool) (name : List UInt8) (t : Nat) (w : World) (hb : badH named name = false) (hl : name.length ≤ 65535) (u : Nat) (hu : ClkC.unixT t = (u : Int)) (hu4 : u ≤ 4294967295) :
    Calls Try.prog 9 #[.agg #[.bool named, .string ⟨name.toArray⟩, .float .f64 t]] w fun e w' => ∃ v, e = .returned (.tuple #[v, .int .i64 0]) ∧ Own 5 w.heap.size w' v (putH named name u) ∧ Below w.heap.size w w' := by
  have HZ : Hid (hasZ (⟨name.toArray⟩ : ByteArray).data.toList = false) := Lib.hid (by
    unfold badH at hb
    simp only [Bool.or_eq_false_iff] at hb
    exact hb.2)
  have HC := Lib.hid (fun w => contains_zero ⟨name.toArray⟩ w)
  rw [HZ.out] at HC
  have HUX := Lib.hid (fun w => ClkC.unix_any t w)
  simp only [hu] at HUX
  have hsz : (⟨name.toArray⟩ : ByteArray).size = name.length := by simp [ByteArray.size]
  obtain ⟨g, hg⟩ : ∃ g, g = w.heap.size := ⟨_, rfl⟩
  obtain ⟨w1, hw1⟩ : ∃ w1, w1 = w.alloc (.cells #[.bool named, .string ⟨name.toArray⟩, .float .f64 t] 27) := ⟨_, rfl⟩
  have hk : Blk w1 g 27 #[.bool named, .string ⟨name.toArray⟩, .float .f64 t] := by rw [hw1, hg]; exact Blk.new _ _ _
  have HB1 : Hid (Below w.heap.size w w1) := Lib.hid (by rw [hw1]; exact (Below.refl _ _).alloc (Nat.le_refl _) _)
  have HK := Lib.hid hk
  have c0 : w1.cell? ⟨g, 0, none⟩ = some (.bool named) := hk.cell 0
  have c1 : w1.cell? ⟨g, 1, none⟩ = some (.string ⟨name.toArray⟩) := hk.cell 1
  have HN : Hid (named = false → name = []) := Lib.hid (fun hn => by
    subst hn
    unfold badH at hb
    simp only [Bool.or_eq_false_iff] at hb
    simpa using hb.1.1)
  clear hb hk HZ hu
  go_enter Try.func9, Try.ntmps9
  go_upto_region 1 with (fail)
  rw [← hw1, ← hg]
  cases named
  · obtain rfl := HN.out rfl
    have hw2 := Lib.hid (And.intro hw1 hg)
    clear hw1 hg hsz
    go_wp2_with fail
    refine (HC.out _).mono ?_
    rintro e w2 ⟨rfl, rfl⟩
    go_upto_region 6 with (fail)
    obtain ⟨hw1, hg⟩ := hw2.out
    have HWA := Lib.hid hg
    have HW2 := Lib.hid hw1
    clear hg hw1 hw2
    go_cut [5] (fun v wr => Hid (Own 5 w1.heap.size wr v ([31, 139, 8, 0] ++ bytesOf false 4 u)) ∧ Hid (Below w1.heap.size w1 wr))
    case first =>
      have k1 := kc_1 w1
      have k2 := kc_2 w1 #[.int .u8 0]
      have k3 := kc_3 w1 #[.int .u8 0]
      obtain ⟨q1, cap1, W1, F1⟩ := four_1 w1 0
      obtain ⟨q2, cap2, W2, F2⟩ := four_2 w1 0
      have d0 : w1.cell? ⟨g, 2, none⟩ = some (.float .f64 t) := HK.out.cell 2
      have d1 : W1.cell? ⟨g, 2, none⟩ = some (.float .f64 t) := (F1.below.cell (p := ⟨g, 2, none⟩) HK.out.lt).trans d0
      have d2 : W2.cell? ⟨g, 2, none⟩ = some (.float .f64 t) := (F2.below.cell (p := ⟨g, 2, none⟩) HK.out.lt).trans d0
      have e1 : ∀ o, (w1.alloc o).cell? ⟨g, 2, none⟩ = some (.float .f64 t) := fun o => Go.Lib.cell?_alloc_marked o d0
      have e2 : ∀ o o', ((w1.alloc o).alloc o').cell? ⟨g, 2, none⟩ = some (.float .f64 t) := fun o o' => Go.Lib.cell?_alloc_marked o' (Go.Lib.cell?_alloc_marked o d0)
      have wu : IntKind.u64.wrap (u : Int) = (u : Int) := IntWalk.u64_in _ (by omega)
      have P1 : Hid (Calls Try.prog 24 #[.slice (some ⟨q1, 0, none⟩) 4 cap1, .int .u64 (u : Int), .int .i64 4] W1 fun e w' => ∃ v, e = .returned v ∧ Hid (Own 5 w1.heap.size w' v ([31, 139, 8, 0] ++ bytesOf false 4 u)) ∧ Hid (Below w1.heap.size w1 w')) := Lib.hid ((NumC.putlittle_any _ 4 cap1 _ u 4 W1 F1.row (by simp) (by omega) (by omega)).mono fun e w' ⟨v, h1, h2, h3⟩ => ⟨v, h1, Lib.hid (own_low h2 F1.below.size), Lib.hid (F1.below.trans (h3.mono F1.below.size))⟩)
      have P2 : Hid (Calls Try.prog 24 #[.slice (some ⟨q2, 0, none⟩) 4 cap2, .int .u64 (u : Int), .int .i64 4] W2 fun e w' => ∃ v, e = .returned v ∧ Hid (Own 5 w1.heap.size w' v ([31, 139, 8, 0] ++ bytesOf false 4 u)) ∧ Hid (Below w1.heap.size w1 w')) := Lib.hid ((NumC.putlittle_any _ 4 cap2 _ u 4 W2 F2.row (by simp) (by omega) (by omega)).mono fun e w' ⟨v, h1, h2, h3⟩ => ⟨v, h1, Lib.hid (own_low h2 F2.below.size), Lib.hid (F2.below.trans (h3.mono F2.below.size))⟩)
      go_region_law (first
        | (refine F1.step (by rfl) _ _ (by rfl) (by rfl) (by rfl) ?_)
        | (refine F2.step (by rfl) _ _ (by rfl) (by rfl) (by rfl) ?_)
        | (go_simp; go_at_call 25; refine (HUX.out _).mono ?_; rintro e wx ⟨rfl, rfl⟩)
        | (go_simp; go_at_call 24; first
          | (with_reducible refine P1.out.mono ?_; rintro e wx ⟨v, rfl, ho, hbx⟩)
          | (with_reducible refine P2.out.mono ?_; rintro e wx ⟨v, rfl, ho, hbx⟩)))
      all_goals
        go_wp2_with fail
        go_meet
        case rel => exact ⟨ho, hbx⟩
    obtain ⟨HO, HBC⟩ := hcut
    clear c0 c1
    have c0 : wc.cell? ⟨g, 0, none⟩ = some (.bool false) := (HBC.out.cell (p := ⟨g, 0, none⟩) HK.out.lt).trans (HK.out.cell 0)
    have hs0 := HBC.out.size
    have hbl0 : Below w1.heap.size w1 (wc.alloc (.cells #[.int .u8 0, .int .u8 255] 5)) := HBC.out.alloc hs0 _
    go_wp2_with (at_builtin; refine wpList_append_bytes rfl (.tmp 37) (.tmp 38) 22 rfl w1.heap.size 5 Try.underlying22 info5 _ ([31, 139, 8, 0] ++ bytesOf false 4 u) rfl (HO.out.below (Nat.le_refl _) ((Below.refl _ _).alloc (Nat.le_refl _) _)) (some ⟨wc.heap.size, 0, none⟩) 2 2 [0, 255] rfl (lit_two _ _) (by simp [Go.My.NumMath.bytesOf_len]) (by simp; omega) ?_)
    intro v2 w3 ho2 hg2
    have hb2 := grown_below (HO.out.below (Nat.le_refl _) ((Below.refl _ _).alloc (Nat.le_refl _) _)) hbl0 hg2 (by simp; omega)
    have HO2 := Lib.hid ho2
    have HB2 := Lib.hid hb2
    clear ho2 hg2 hbl0 hb2 HO
    have c0 : w3.cell? ⟨g, 0, none⟩ = some (.bool false) := (HB2.out.cell (p := ⟨g, 0, none⟩) HK.out.lt).trans (HK.out.cell 0)
    go_wp2_with fail
    go_ret2
    refine ⟨v2, rfl, own_low (l := putH false [] u) ?_ HB1.out.size, HB1.out.trans (HB2.out.mono HB1.out.size)⟩
    have := HO2.out
    unfold putH flagB
    simpa [List.append_assoc] using this
  · have hgt : decide ((name.length : Int) > 65535) = false := by simp; omega
    have hw2 := Lib.hid (And.intro hw1 hg)
    clear hw1 hg
    go_wp2_with fail
    refine (HC.out _).mono ?_
    rintro e w2 ⟨rfl, rfl⟩
    go_upto_region 6 with (fail)
    obtain ⟨hw1, hg⟩ := hw2.out
    have HWA := Lib.hid hg
    have HW2 := Lib.hid hw1
    clear hg hw1 hw2
    go_cut [5] (fun v wr => Hid (Own 5 w1.heap.size wr v ([31, 139, 8, 8] ++ bytesOf false 4 u)) ∧ Hid (Below w1.heap.size w1 wr))
    case first =>
      have k1 := kc_1 w1
      have k2 := kc_2 w1 #[.int .u8 8]
      have k3 := kc_3 w1 #[.int .u8 8]
      obtain ⟨q1, cap1, W1, F1⟩ := four_1 w1 8
      obtain ⟨q2, cap2, W2, F2⟩ := four_2 w1 8
      have d0 : w1.cell? ⟨g, 2, none⟩ = some (.float .f64 t) := HK.out.cell 2
      have d1 : W1.cell? ⟨g, 2, none⟩ = some (.float .f64 t) := (F1.below.cell (p := ⟨g, 2, none⟩) HK.out.lt).trans d0
      have d2 : W2.cell? ⟨g, 2, none⟩ = some (.float .f64 t) := (F2.below.cell (p := ⟨g, 2, none⟩) HK.out.lt).trans d0
      have e1 : ∀ o, (w1.alloc o).cell? ⟨g, 2, none⟩ = some (.float .f64 t) := fun o => Go.Lib.cell?_alloc_marked o d0
      have e2 : ∀ o o', ((w1.alloc o).alloc o').cell? ⟨g, 2, none⟩ = some (.float .f64 t) := fun o o' => Go.Lib.cell?_alloc_marked o' (Go.Lib.cell?_alloc_marked o d0)
      have wu : IntKind.u64.wrap (u : Int) = (u : Int) := IntWalk.u64_in _ (by omega)
      have P1 : Hid (Calls Try.prog 24 #[.slice (some ⟨q1, 0, none⟩) 4 cap1, .int .u64 (u : Int), .int .i64 4] W1 fun e w' => ∃ v, e = .returned v ∧ Hid (Own 5 w1.heap.size w' v ([31, 139, 8, 8] ++ bytesOf false 4 u)) ∧ Hid (Below w1.heap.size w1 w')) := Lib.hid ((NumC.putlittle_any _ 4 cap1 _ u 4 W1 F1.row (by simp) (by omega) (by omega)).mono fun e w' ⟨v, h1, h2, h3⟩ => ⟨v, h1, Lib.hid (own_low h2 F1.below.size), Lib.hid (F1.below.trans (h3.mono F1.below.size))⟩)
      have P2 : Hid (Calls Try.prog 24 #[.slice (some ⟨q2, 0, none⟩) 4 cap2, .int .u64 (u : Int), .int .i64 4] W2 fun e w' => ∃ v, e = .returned v ∧ Hid (Own 5 w1.heap.size w' v ([31, 139, 8, 8] ++ bytesOf false 4 u)) ∧ Hid (Below w1.heap.size w1 w')) := Lib.hid ((NumC.putlittle_any _ 4 cap2 _ u 4 W2 F2.row (by simp) (by omega) (by omega)).mono fun e w' ⟨v, h1, h2, h3⟩ => ⟨v, h1, Lib.hid (own_low h2 F2.below.size), Lib.hid (F2.below.trans (h3.mono F2.below.size))⟩)
      go_region_law (first
        | (refine F1.step (by rfl) _ _ (by rfl) (by rfl) (by rfl) ?_)
        | (refine F2.step (by rfl) _ _ (by rfl) (by rfl) (by rfl) ?_)
        | (go_simp; go_at_call 25; refine (HUX.out _).mono ?_; rintro e wx ⟨rfl, rfl⟩)
        | (go_simp; go_at_call 24; first
          | (with_reducible refine P1.out.mono ?_; rintro e wx ⟨v, rfl, ho, hbx⟩)
          | (with_reducible refine P2.out.mono ?_; rintro e wx ⟨v, rfl, ho, hbx⟩)))
      all_goals
        go_wp2_with fail
        go_meet
        case rel => exact ⟨ho, hbx⟩
    obtain ⟨HO, HBC⟩ := hcut
    clear hgt c0 c1
    have c0 : wc.cell? ⟨g, 0, none⟩ = some (.bool true) := (HBC.out.cell (p := ⟨g, 0, none⟩) HK.out.lt).trans (HK.out.cell 0)
    have c1 : wc.cell? ⟨g, 1, none⟩ = some (.string ⟨name.toArray⟩) := (HBC.out.cell (p := ⟨g, 1, none⟩) HK.out.lt).trans (HK.out.cell 1)
    have hs0 := HBC.out.size
    have hbl0 : Below w1.heap.size w1 (wc.alloc (.cells #[.int .u8 0, .int .u8 255] 5)) := HBC.out.alloc hs0 _
    go_wp2_with (at_builtin; refine wpList_append_bytes rfl (.tmp 37) (.tmp 38) 22 rfl w1.heap.size 5 Try.underlying22 info5 _ ([31, 139, 8, 8] ++ bytesOf false 4 u) rfl (HO.out.below (Nat.le_refl _) ((Below.refl _ _).alloc (Nat.le_refl _) _)) (some ⟨wc.heap.size, 0, none⟩) 2 2 [0, 255] rfl (lit_two _ _) (by simp [Go.My.NumMath.bytesOf_len]) (by simp; omega) ?_)
    intro v2 w3 ho2 hg2
    have hb2 := grown_below (HO.out.below (Nat.le_refl _) ((Below.refl _ _).alloc (Nat.le_refl _) _)) hbl0 hg2 (by simp; omega)
    have HO2 := Lib.hid ho2
    have HB2 := Lib.hid hb2
    clear ho2 hg2 hbl0 hb2 HO
    have c0 : w3.cell? ⟨g, 0, none⟩ = some (.bool true) := (HB2.out.cell (p := ⟨g, 0, none⟩) HK.out.lt).trans (HK.out.cell 0)
    have c1 : w3.cell? ⟨g, 1, none⟩ = some (.string ⟨name.toArray⟩) := (HB2.out.cell (p := ⟨g, 1, none⟩) HK.out.lt).trans (HK.out.cell 1)
    obtain ⟨i5, hi5, hz5, hsz5, hby5⟩ := info_parts info5
    have hm1 : ([31, 139, 8, 8] ++ bytesOf false 4 u ++ [0, 255]).length + (⟨name.toArray⟩ : ByteArray).size ≤ 140737488355328 := by rw [hsz]; simp [Go.My.NumMath.bytesOf_len]; omega
    have hm2 : ([31, 139, 8, 8] ++ bytesOf false 4 u ++ [0, 255]).length + (⟨name.toArray⟩ : ByteArray).size ≤ maxLen := by unfold maxLen; omega
    go_wp2_with (at_builtin; go_loud (refine Go.Lib.wpList_append_own_string _ rfl (.tmp 42) (.tmp 44) 22 9 rfl w1.heap.size 5 i5 Try.underlying22 Try.underlying9 hi5 hz5 hsz5 hby5 v2 _ _ rfl HO2.out ⟨name.toArray⟩ rfl hm2 hm1 HB2.out.size ?_))
    intro v3 w4 ho3 hg3 _
    have HO3 : Hid (Own 5 w1.heap.size w4 v3 (([31, 139, 8, 8] ++ bytesOf false 4 u ++ [0, 255]) ++ name)) := Lib.hid (own_str ho3)
    have HB3 := Lib.hid (grown_below HO2.out HB2.out hg3 HB2.out.size)
    clear ho3 hg3 HO2
    have hs3 := HB3.out.size
    have hbl3 : Below w1.heap.size w1 (w4.alloc (.cells #[.int .u8 0] 5)) := HB3.out.alloc hs3 _
    go_wp2_with (at_builtin; refine wpList_append_bytes rfl (.tmp 45) (.tmp 46) 22 rfl w1.heap.size 5 Try.underlying22 info5 _ (([31, 139, 8, 8] ++ bytesOf false 4 u ++ [0, 255]) ++ name) rfl (HO3.out.below (Nat.le_refl _) ((Below.refl _ _).alloc (Nat.le_refl _) _)) (some ⟨w4.heap.size, 0, none⟩) 1 1 [0] rfl (one_bytes _ _ 0) (by simp [Go.My.NumMath.bytesOf_len]; omega) (by simp; omega) ?_)
    intro v4 w5 ho4 hg4
    have hb4 := grown_below (HO3.out.below (Nat.le_refl _) ((Below.refl _ _).alloc (Nat.le_refl _) _)) hbl3 hg4 (by simp; omega)
    have HO4 := Lib.hid ho4
    have HB4 := Lib.hid hb4
    clear ho4 hg4 hbl3 hb4
    go_wp2_with fail
    go_ret2
    refine ⟨v4, rfl, own_low (l := putH true name u) ?_ HB1.out.size, HB1.out.trans (HB4.out.mono HB1.out.size)⟩
    have := HO4.out
    unfold putH flagB
    simpa [List.append_assoc] using this
end Go.Proofs.Ytilfmmjjiiabgaa.GzC
