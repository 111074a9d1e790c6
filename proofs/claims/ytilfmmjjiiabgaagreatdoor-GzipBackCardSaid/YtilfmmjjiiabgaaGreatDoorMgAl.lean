import Derived.Test.YtilfmmjjiiabgaaGreatDoorMgAk
import Derived.Lib.AppendStr
import Derived.Deep.RegionLaw
import Derived.Test.YtilfmmjjiiabgaaGreatDoorMgAd
import Derived.Laws.Rows
import Derived.Laws.Tables
import Derived.Lib.AppendZerosOnto

section
/-
  gzip.Put: every call.
-/
namespace Go.Proofs.YtilfmmjjiiabgaaGreatDoor.GzC
open Go.RowKit Go.My GzMath
open Go.My.NumMath (bytesOf)

theorem own_low {E : TypeId} {B B' : Nat} {w : World} {v : Value} {l : List UInt8} (h : Own E B w v l) (hB : B' ≤ B) : Own E B' w v l := by
  refine ⟨h.1, ?_⟩
  rcases h.2 with hn | ⟨g, cap, cur, h1, h2, rest⟩
  · exact .inl hn
  · exact .inr ⟨g, cap, cur, h1, Nat.le_trans hB h2, rest⟩
/-- A header that may not be put. -/
def badH (named : Bool) (name : List UInt8) : Bool := (!named && !name.isEmpty) || decide (65535 < name.length) || hasZ name
def flagB (named : Bool) : UInt8 := if named then 8 else 0
/-- A header's bytes. -/
def putH (named : Bool) (name : List UInt8) (u : Nat) : List UInt8 := [31, 139, 8, flagB named] ++ bytesOf false 4 u ++ [0, 255] ++ (if named then name ++ [0] else [])

theorem info5 : (Tryz.prog.info? 5).map (fun i => (i.zero, i.size, i.bytes)) = some (some (.int .u8 0), 1, 1) := NumC.info5
/-- A conversion of a row of bytes to its own type marks it. -/
theorem run_convert_mark (W : World) (g n c : Nat) (C : Array Value) (hg : W.heap[g]? = some (.cells C 5 (0, 0))) :
    (convert 25 25 (.slice (some ⟨g, 0, none⟩) n c)).run Tryz.prog W = .ok (.slice (some ⟨g, 0, none⟩) n c) (W.freeze ⟨g, C.size, none⟩ 1) := by
  have hsh : W.shape? g = some (5, C.size) := by unfold World.shape?; rw [hg]
  simp [convert, run_underlying Tryz.underlying25, run_underlying Tryz.underlying5, markStringish, hsh]
theorem mark_inner (w : World) (C D : Array Value) : ((w.alloc (.cells C 5)).alloc (.cells D 5)).freeze ⟨w.heap.size, C.size, none⟩ 1 = (w.alloc (.cells C 5 (C.size, C.size + 1))).alloc (.cells D 5) := by
  unfold World.freeze
  rw [if_neg (by decide)]
  have : ∀ (a : Array Obj) (x y : Obj) (f : Obj → Obj), ((a.push x).push y).modify a.size f = (a.push (f x)).push y := by
    intro a x y f
    apply Array.ext
    · simp
    · intro i h1 h2
      simp only [Array.getElem_modify, Array.getElem_push, Array.size_push]
      by_cases h : a.size = i
      · subst h; simp
      · by_cases h3 : i < a.size
        · simp [h, h3, Nat.lt_succ_of_lt h3]
        · simp [h, show ¬ i < a.size + 1 by omega]
  show ({ (w.alloc (.cells C 5)).alloc (.cells D 5) with heap := ((w.heap.push (.cells C 5)).push (.cells D 5)).modify w.heap.size _ } : World) = _
  rw [this]
  rfl
theorem mark_last (w : World) (C : Array Value) : (w.alloc (.cells C 5)).freeze ⟨w.heap.size, C.size, none⟩ 1 = w.alloc (.cells C 5 (C.size, C.size + 1)) := by
  unfold World.freeze
  rw [if_neg (by decide)]
  have : ∀ (a : Array Obj) (x : Obj) (f : Obj → Obj), (a.push x).modify a.size f = a.push (f x) := by
    intro a x f
    apply Array.ext
    · simp
    · intro i h1 h2
      simp only [Array.getElem_modify, Array.getElem_push]
      by_cases h : a.size = i
      · subst h; simp
      · have hi : i < a.size := by simp at h1; omega
        simp [h, hi]
  show ({ w.alloc (.cells C 5) with heap := (w.heap.push (.cells C 5)).modify w.heap.size _ } : World) = _
  rw [this]
  rfl
def m3 : Array Value := #[.int .u8 31, .int .u8 139, .int .u8 8]
/-- append of a byte onto the three first ones, wherever both lie. -/
theorem append_four (W : World) (g1 g3 : Nat) (c : UInt8) (ty : TypeId) (h1 : ∀ j v, m3.toList[j]? = some v → W.cell? ⟨g1, j, none⟩ = some v) (h3 : W.cell? ⟨g3, 0, none⟩ = some (.int .u8 (c.toNat : Int))) :
    ∃ cap W', (Builtin.append_ #[25, 25] ty #[.slice (some ⟨g1, 0, none⟩) 3 3, .slice (some ⟨g3, 0, none⟩) 1 1]).run Tryz.prog W = .ok (.slice (some ⟨W.heap.size, 0, none⟩) 4 cap) W' ∧
      Bytes W' (some ⟨W.heap.size, 0, none⟩) 4 cap [31, 139, 8, c] ∧ Below W.heap.size W W' := by
  obtain ⟨i, hi, hz, hsz, hby⟩ := info_parts info5
  have hr := run_append_grow (P := Tryz.prog) W 25 ty 5 i (.int .u8 0) Tryz.underlying25 hi hz ⟨g1, 0, none⟩ 3 3 m3.toList (by rw [hsz]; rfl) (fun j v hj => by rw [addr_add, Nat.zero_add]; exact h1 j v hj)
    ⟨g3, 0, none⟩ 1 1 [.int .u8 (c.toNat : Int)] (by rw [hsz]; rfl) (fun j v hj => by
      have h0 : j = 0 := by have := (List.getElem?_eq_some_iff.1 hj).1; simpa using this
      subst h0
      rw [addr_add, Nat.zero_add]
      simp at hj
      rw [← hj]; exact h3) (by omega) (by omega) (by rw [hby]; decide)
  refine ⟨_, _, hr, ⟨rfl, ?_, ?_, (fun h => by cases h), .inr ⟨W.heap.size, 0, rfl, by simp, fun j hj => ?_⟩⟩, ((Below.refl _ W).drew).alloc (by simp) _⟩
  · exact grownCap_ge W 4 3 5
  · have := grownCap_le_maxLen W 4 3 5 (by unfold maxLen; omega)
    unfold maxLen at this; exact this
  · have e : (W.drew.alloc (.cells (m3.toList.toArray ++ [Value.int .u8 (c.toNat : Int)].toArray ++ Builtin.zeroCells (Value.int .u8 0).cells (grownCap W 4 3 5 - 4)) 5)).heap[W.heap.size]? = some (.cells (m3.toList.toArray ++ [Value.int .u8 (c.toNat : Int)].toArray ++ Builtin.zeroCells (Value.int .u8 0).cells (grownCap W 4 3 5 - 4)) 5) := heap_alloc_new W.drew _
    rw [cell_of_row _ _ _ _ _ _ e]
    have : j = 0 ∨ j = 1 ∨ j = 2 ∨ j = 3 := by simp at hj; omega
    rcases this with rfl | rfl | rfl | rfl <;> (simp [m3]; rw [Array.getElem?_append_left (by simp)]; rfl)

/-- The bytes of a literal, marked or not. -/
theorem lit_cell (W : World) (g : Nat) (C : Array Value) (fr : Nat × Nat) (h : W.heap[g]? = some (.cells C 5 fr)) (j : Nat) (v : Value) (hj : C.toList[j]? = some v) : W.cell? ⟨g, j, none⟩ = some v := by
  rw [World.cell?]
  simp only [h]
  simpa using hj
theorem heap_two (w : World) (x y : Obj) : ((w.alloc x).alloc y).heap[w.heap.size]? = some x ∧ ((w.alloc x).alloc y).heap[w.heap.size + 1]? = some y := by
  constructor
  · show ((w.heap.push x).push y)[w.heap.size]? = _
    rw [Array.getElem?_push_lt (by simp)]; simp
  · show ((w.heap.push x).push y)[w.heap.size + 1]? = _
    have := Array.getElem?_push_size (xs := w.heap.push x) (x := y)
    rw [Array.size_push] at this
    exact this
theorem lit_two (E : TypeId) (w : World) : Bytes (w.alloc (.cells #[.int .u8 0, .int .u8 255] E)) (some ⟨w.heap.size, 0, none⟩) 2 2 [0, 255] := by
  refine ⟨rfl, Nat.le_refl _, by omega, (fun h => by cases h), .inr ⟨w.heap.size, 0, rfl, by simp, ?_⟩⟩
  intro i hi
  rw [cell_of_row _ _ _ _ _ _ (heap_alloc_new w _)]
  have : i = 0 ∨ i = 1 := by simp at hi; omega
  rcases this with rfl | rfl <;> rfl
theorem own_str {E : TypeId} {B : Nat} {w : World} {v : Value} {l name : List UInt8} (h : w.ownsRow B E 1 v (l.length + (⟨name.toArray⟩ : ByteArray).size) (l.map bv ++ Go.Lib.strCells ⟨name.toArray⟩)) : Own E B w v (l ++ name) := by
  unfold Own
  rw [List.length_append, List.map_append]
  have e1 : (⟨name.toArray⟩ : ByteArray).size = name.length := by simp [ByteArray.size]
  have e2 : Go.Lib.strCells ⟨name.toArray⟩ = name.map bv := by unfold Go.Lib.strCells bv; simp
  rw [e1, e2] at h
  exact h
/-- The first four bytes, in every order in which the two literals may be made. -/
structure Four (w1 : World) (c : UInt8) (q cap : Nat) (V W' : World) (g1 g3 : Nat) : Prop where
  run : ∀ ty, (Builtin.append_ #[25, 25] ty #[.slice (some ⟨g1, 0, none⟩) 3 3, .slice (some ⟨g3, 0, none⟩) 1 1]).run Tryz.prog V = .ok (.slice (some ⟨q, 0, none⟩) 4 cap) W'
  row : Bytes W' (some ⟨q, 0, none⟩) 4 cap [31, 139, 8, c]
  below : Below w1.heap.size w1 W'
theorem four_of (w1 V : World) (c : UInt8) (g1 g3 : Nat) (h1 : ∀ j v, m3.toList[j]? = some v → V.cell? ⟨g1, j, none⟩ = some v) (h3 : V.cell? ⟨g3, 0, none⟩ = some (.int .u8 (c.toNat : Int))) (hb : Below w1.heap.size w1 V) :
    ∃ q cap W', Four w1 c q cap V W' g1 g3 := by
  obtain ⟨i, hi, hz, hsz, hby⟩ := info_parts info5
  obtain ⟨cap, W', hr, hby, hbl⟩ := append_four V g1 g3 c 0 h1 h3
  refine ⟨V.heap.size, cap, W', ⟨fun ty => hr, hby, hb.trans (hbl.mono hb.size)⟩⟩
theorem four_1 (w1 : World) (c : UInt8) : ∃ q cap W', Four w1 c q cap ((w1.alloc (.cells #[.int .u8 31, .int .u8 139, .int .u8 8] 5 (3, 4))).alloc (.cells #[.int .u8 (c.toNat : Int)] 5)).drew W' w1.heap.size (w1.heap.size + 1) :=
  four_of _ _ c _ _ (lit_cell _ _ _ _ (heap_two w1 _ _).1) (lit_cell _ _ _ _ (heap_two w1 _ _).2 0 _ rfl) ((((Below.refl _ w1).alloc (Nat.le_refl _) _).alloc (by simp) _).drew)
theorem four_2 (w1 : World) (c : UInt8) : ∃ q cap W', Four w1 c q cap ((w1.alloc (.cells #[.int .u8 (c.toNat : Int)] 5)).alloc (.cells #[.int .u8 31, .int .u8 139, .int .u8 8] 5 (3, 4))).drew W' (w1.heap.size + 1) w1.heap.size :=
  four_of _ _ c _ _ (lit_cell _ _ _ _ (heap_two w1 _ _).2) (lit_cell _ _ _ _ (heap_two w1 _ _).1 0 _ rfl) ((((Below.refl _ w1).alloc (Nat.le_refl _) _).alloc (by simp) _).drew)
theorem Four.step {w1 V W' : World} {c : UInt8} {q cap g1 g3 : Nat} (F : Four w1 c q cap V W' g1 g3) {ops : Array Oper} {o : Oper} {a : Act} {K : Act → World → Prop} {Q : Exit → Act → World → Prop} {Fl : Prop} (hgd : o.guard = none) (s x : Operand)
    (ho : o.op = .call { callee := .builtin .append, args := #[s, x], argTypes := #[25, 25] }) (hs : a.eval s = .slice (some ⟨g1, 0, none⟩) 3 3) (hx : a.eval x = .slice (some ⟨g3, 0, none⟩) 1 1)
    (h : K (a.put o.dst (.slice (some ⟨q, 0, none⟩) 4 cap)) W') : if Region.wanted o (yielded ops a.tmps) = true then Oper.wp Tryz.prog o a V K Q else Fl := by
  have hw : Region.wanted o (yielded ops a.tmps) = true := by simp [Region.wanted, hgd]
  rw [if_pos hw]
  unfold Oper.wp execOp
  simp only [ho, resolve, invoke, builtin, Sem.run_bind, Sem.run_pure, Result.andThen_ok, List.map_toArray, List.map_cons, List.map_nil, hs, hx, F.run o.type]
  exact h
theorem kc_1 (w1 : World) : (convert 25 25 (.slice (some ⟨w1.heap.size, 0, none⟩) 3 3)).run Tryz.prog (w1.alloc (.cells #[.int .u8 31, .int .u8 139, .int .u8 8] 5)).drew = .ok (.slice (some ⟨w1.heap.size, 0, none⟩) 3 3) (w1.alloc (.cells #[.int .u8 31, .int .u8 139, .int .u8 8] 5 (3, 4))).drew := by
  have := run_convert_mark (w1.drew.alloc (.cells m3 5)) w1.heap.size 3 3 m3 (heap_alloc_new w1.drew _)
  rw [show w1.heap.size = w1.drew.heap.size from rfl, mark_last] at this
  exact this
theorem kc_2 (w1 : World) (D : Array Value) : (convert 25 25 (.slice (some ⟨w1.heap.size, 0, none⟩) 3 3)).run Tryz.prog ((w1.alloc (.cells #[.int .u8 31, .int .u8 139, .int .u8 8] 5)).alloc (.cells D 5)).drew = .ok (.slice (some ⟨w1.heap.size, 0, none⟩) 3 3) ((w1.alloc (.cells #[.int .u8 31, .int .u8 139, .int .u8 8] 5 (3, 4))).alloc (.cells D 5)).drew := by
  have := run_convert_mark ((w1.drew.alloc (.cells m3 5)).alloc (.cells D 5)) w1.heap.size 3 3 m3 (heap_two w1.drew _ _).1
  rw [show w1.heap.size = w1.drew.heap.size from rfl, mark_inner] at this
  exact this
theorem kc_3 (w1 : World) (D : Array Value) : (convert 25 25 (.slice (some ⟨w1.heap.size + 1, 0, none⟩) 3 3)).run Tryz.prog ((w1.alloc (.cells D 5)).alloc (.cells #[.int .u8 31, .int .u8 139, .int .u8 8] 5)).drew = .ok (.slice (some ⟨w1.heap.size + 1, 0, none⟩) 3 3) ((w1.alloc (.cells D 5)).alloc (.cells #[.int .u8 31, .int .u8 139, .int .u8 8] 5 (3, 4))).drew := by
  have := run_convert_mark ((w1.drew.alloc (.cells D 5)).alloc (.cells m3 5)) (w1.heap.size + 1) 3 3 m3 (heap_two w1.drew _ _).2
  have e : w1.heap.size + 1 = (w1.drew.alloc (.cells D 5)).heap.size := by simp
  rw [e, mark_last] at this
  rw [← e] at this
  exact this
set_option maxRecDepth 100000 in
set_option maxHeartbeats 4000000 in
theorem put_ok (named : Bool) (name : List UInt8) (t : Nat) (w : World) (hb : badH named name = false) (hl : name.length ≤ 65535) (u : Nat) (hu : ClkC.unixT t = (u : Int)) (hu4 : u ≤ 4294967295) :
    Calls Tryz.prog 16 #[.agg #[.bool named, .string ⟨name.toArray⟩, .float .f64 t]] w fun e w' => ∃ v, e = .returned (.tuple #[v, .int .i64 0]) ∧ Own 5 w.heap.size w' v (putH named name u) ∧ Below w.heap.size w w' := by
  have HZ : Hid (hasZ (⟨name.toArray⟩ : ByteArray).data.toList = false) := Lib.hid (by
    unfold badH at hb
    simp only [Bool.or_eq_false_iff] at hb
    exact hb.2)
  have HC := Lib.hid (fun w => contains_zero ⟨name.toArray⟩ w)
  rw [HZ.out] at HC
  have HUX := Lib.hid (fun w => ClkC.unix_any t w)
  simp only [hu] at HUX
  have hsz : (⟨name.toArray⟩ : ByteArray).size = name.length := by simp [ByteArray.size]
  obtain ⟨g, hg⟩ : ∃ g, g = w.heap.size := ⟨_, rfl⟩
  obtain ⟨w1, hw1⟩ : ∃ w1, w1 = w.alloc (.cells #[.bool named, .string ⟨name.toArray⟩, .float .f64 t] 27) := ⟨_, rfl⟩
  have hk : Blk w1 g 27 #[.bool named, .string ⟨name.toArray⟩, .float .f64 t] := by rw [hw1, hg]; exact Blk.new _ _ _
  have HB1 : Hid (Below w.heap.size w w1) := Lib.hid (by rw [hw1]; exact (Below.refl _ _).alloc (Nat.le_refl _) _)
  have HK := Lib.hid hk
  have c0 : w1.cell? ⟨g, 0, none⟩ = some (.bool named) := hk.cell 0
  have c1 : w1.cell? ⟨g, 1, none⟩ = some (.string ⟨name.toArray⟩) := hk.cell 1
  have HN : Hid (named = false → name = []) := Lib.hid (fun hn => by
    subst hn
    unfold badH at hb
    simp only [Bool.or_eq_false_iff] at hb
    simpa using hb.1.1)
  clear hb hk HZ hu
  go_enter Tryz.func16, Tryz.ntmps16
  go_upto_region 1 with (fail)
  rw [← hw1, ← hg]
  cases named
  · obtain rfl := HN.out rfl
    have hw2 := Lib.hid (And.intro hw1 hg)
    clear hw1 hg hsz
    go_wp2_with fail
    refine (HC.out _).mono ?_
    rintro e w2 ⟨rfl, rfl⟩
    go_upto_region 6 with (fail)
    obtain ⟨hw1, hg⟩ := hw2.out
    have HWA := Lib.hid hg
    have HW2 := Lib.hid hw1
    clear hg hw1 hw2
    go_cut [5] (fun v wr => Hid (Own 5 w1.heap.size wr v ([31, 139, 8, 0] ++ bytesOf false 4 u)) ∧ Hid (Below w1.heap.size w1 wr))
    case first =>
      have k1 := kc_1 w1
      have k2 := kc_2 w1 #[.int .u8 0]
      have k3 := kc_3 w1 #[.int .u8 0]
      obtain ⟨q1, cap1, W1, F1⟩ := four_1 w1 0
      obtain ⟨q2, cap2, W2, F2⟩ := four_2 w1 0
      have d0 : w1.cell? ⟨g, 2, none⟩ = some (.float .f64 t) := HK.out.cell 2
      have d1 : W1.cell? ⟨g, 2, none⟩ = some (.float .f64 t) := (F1.below.cell (p := ⟨g, 2, none⟩) HK.out.lt).trans d0
      have d2 : W2.cell? ⟨g, 2, none⟩ = some (.float .f64 t) := (F2.below.cell (p := ⟨g, 2, none⟩) HK.out.lt).trans d0
      have e1 : ∀ o, (w1.alloc o).cell? ⟨g, 2, none⟩ = some (.float .f64 t) := fun o => Go.Lib.cell?_alloc_marked o d0
      have e2 : ∀ o o', ((w1.alloc o).alloc o').cell? ⟨g, 2, none⟩ = some (.float .f64 t) := fun o o' => Go.Lib.cell?_alloc_marked o' (Go.Lib.cell?_alloc_marked o d0)
      have wu : IntKind.u64.wrap (u : Int) = (u : Int) := IntWalk.u64_in _ (by omega)
      have P1 : Hid (Calls Tryz.prog 24 #[.slice (some ⟨q1, 0, none⟩) 4 cap1, .int .u64 (u : Int), .int .i64 4] W1 fun e w' => ∃ v, e = .returned v ∧ Hid (Own 5 w1.heap.size w' v ([31, 139, 8, 0] ++ bytesOf false 4 u)) ∧ Hid (Below w1.heap.size w1 w')) := Lib.hid ((NumC.putlittle_any _ 4 cap1 _ u 4 W1 F1.row (by simp) (by omega) (by omega)).mono fun e w' ⟨v, h1, h2, h3⟩ => ⟨v, h1, Lib.hid (own_low h2 F1.below.size), Lib.hid (F1.below.trans (h3.mono F1.below.size))⟩)
      have P2 : Hid (Calls Tryz.prog 24 #[.slice (some ⟨q2, 0, none⟩) 4 cap2, .int .u64 (u : Int), .int .i64 4] W2 fun e w' => ∃ v, e = .returned v ∧ Hid (Own 5 w1.heap.size w' v ([31, 139, 8, 0] ++ bytesOf false 4 u)) ∧ Hid (Below w1.heap.size w1 w')) := Lib.hid ((NumC.putlittle_any _ 4 cap2 _ u 4 W2 F2.row (by simp) (by omega) (by omega)).mono fun e w' ⟨v, h1, h2, h3⟩ => ⟨v, h1, Lib.hid (own_low h2 F2.below.size), Lib.hid (F2.below.trans (h3.mono F2.below.size))⟩)
      go_region_law (first
        | (refine F1.step (by rfl) _ _ (by rfl) (by rfl) (by rfl) ?_)
        | (refine F2.step (by rfl) _ _ (by rfl) (by rfl) (by rfl) ?_)
        | (go_simp; go_at_call 25; refine (HUX.out _).mono ?_; rintro e wx ⟨rfl, rfl⟩)
        | (go_simp; go_at_call 24; first
          | (with_reducible refine P1.out.mono ?_; rintro e wx ⟨v, rfl, ho, hbx⟩)
          | (with_reducible refine P2.out.mono ?_; rintro e wx ⟨v, rfl, ho, hbx⟩)))
      all_goals
        go_wp2_with fail
        go_meet
        case rel => exact ⟨ho, hbx⟩
    obtain ⟨HO, HBC⟩ := hcut
    clear c0 c1
    have c0 : wc.cell? ⟨g, 0, none⟩ = some (.bool false) := (HBC.out.cell (p := ⟨g, 0, none⟩) HK.out.lt).trans (HK.out.cell 0)
    have hs0 := HBC.out.size
    have hbl0 : Below w1.heap.size w1 (wc.alloc (.cells #[.int .u8 0, .int .u8 255] 5)) := HBC.out.alloc hs0 _
    go_wp2_with (at_builtin; refine wpList_append_bytes rfl (.tmp 37) (.tmp 38) 25 rfl w1.heap.size 5 Tryz.underlying25 info5 _ ([31, 139, 8, 0] ++ bytesOf false 4 u) rfl (HO.out.below (Nat.le_refl _) ((Below.refl _ _).alloc (Nat.le_refl _) _)) (some ⟨wc.heap.size, 0, none⟩) 2 2 [0, 255] rfl (lit_two _ _) (by simp [Go.My.NumMath.bytesOf_len]) (by simp; omega) ?_)
    intro v2 w3 ho2 hg2
    have hb2 := grown_below (HO.out.below (Nat.le_refl _) ((Below.refl _ _).alloc (Nat.le_refl _) _)) hbl0 hg2 (by simp; omega)
    have HO2 := Lib.hid ho2
    have HB2 := Lib.hid hb2
    clear ho2 hg2 hbl0 hb2 HO
    have c0 : w3.cell? ⟨g, 0, none⟩ = some (.bool false) := (HB2.out.cell (p := ⟨g, 0, none⟩) HK.out.lt).trans (HK.out.cell 0)
    go_wp2_with fail
    go_ret2
    refine ⟨v2, rfl, own_low (l := putH false [] u) ?_ HB1.out.size, HB1.out.trans (HB2.out.mono HB1.out.size)⟩
    have := HO2.out
    unfold putH flagB
    simpa [List.append_assoc] using this
  · have hgt : decide ((name.length : Int) > 65535) = false := by simp; omega
    have hw2 := Lib.hid (And.intro hw1 hg)
    clear hw1 hg
    go_wp2_with fail
    refine (HC.out _).mono ?_
    rintro e w2 ⟨rfl, rfl⟩
    go_upto_region 6 with (fail)
    obtain ⟨hw1, hg⟩ := hw2.out
    have HWA := Lib.hid hg
    have HW2 := Lib.hid hw1
    clear hg hw1 hw2
    go_cut [5] (fun v wr => Hid (Own 5 w1.heap.size wr v ([31, 139, 8, 8] ++ bytesOf false 4 u)) ∧ Hid (Below w1.heap.size w1 wr))
    case first =>
      have k1 := kc_1 w1
      have k2 := kc_2 w1 #[.int .u8 8]
      have k3 := kc_3 w1 #[.int .u8 8]
      obtain ⟨q1, cap1, W1, F1⟩ := four_1 w1 8
      obtain ⟨q2, cap2, W2, F2⟩ := four_2 w1 8
      have d0 : w1.cell? ⟨g, 2, none⟩ = some (.float .f64 t) := HK.out.cell 2
      have d1 : W1.cell? ⟨g, 2, none⟩ = some (.float .f64 t) := (F1.below.cell (p := ⟨g, 2, none⟩) HK.out.lt).trans d0
      have d2 : W2.cell? ⟨g, 2, none⟩ = some (.float .f64 t) := (F2.below.cell (p := ⟨g, 2, none⟩) HK.out.lt).trans d0
      have e1 : ∀ o, (w1.alloc o).cell? ⟨g, 2, none⟩ = some (.float .f64 t) := fun o => Go.Lib.cell?_alloc_marked o d0
      have e2 : ∀ o o', ((w1.alloc o).alloc o').cell? ⟨g, 2, none⟩ = some (.float .f64 t) := fun o o' => Go.Lib.cell?_alloc_marked o' (Go.Lib.cell?_alloc_marked o d0)
      have wu : IntKind.u64.wrap (u : Int) = (u : Int) := IntWalk.u64_in _ (by omega)
      have P1 : Hid (Calls Tryz.prog 24 #[.slice (some ⟨q1, 0, none⟩) 4 cap1, .int .u64 (u : Int), .int .i64 4] W1 fun e w' => ∃ v, e = .returned v ∧ Hid (Own 5 w1.heap.size w' v ([31, 139, 8, 8] ++ bytesOf false 4 u)) ∧ Hid (Below w1.heap.size w1 w')) := Lib.hid ((NumC.putlittle_any _ 4 cap1 _ u 4 W1 F1.row (by simp) (by omega) (by omega)).mono fun e w' ⟨v, h1, h2, h3⟩ => ⟨v, h1, Lib.hid (own_low h2 F1.below.size), Lib.hid (F1.below.trans (h3.mono F1.below.size))⟩)
      have P2 : Hid (Calls Tryz.prog 24 #[.slice (some ⟨q2, 0, none⟩) 4 cap2, .int .u64 (u : Int), .int .i64 4] W2 fun e w' => ∃ v, e = .returned v ∧ Hid (Own 5 w1.heap.size w' v ([31, 139, 8, 8] ++ bytesOf false 4 u)) ∧ Hid (Below w1.heap.size w1 w')) := Lib.hid ((NumC.putlittle_any _ 4 cap2 _ u 4 W2 F2.row (by simp) (by omega) (by omega)).mono fun e w' ⟨v, h1, h2, h3⟩ => ⟨v, h1, Lib.hid (own_low h2 F2.below.size), Lib.hid (F2.below.trans (h3.mono F2.below.size))⟩)
      go_region_law (first
        | (refine F1.step (by rfl) _ _ (by rfl) (by rfl) (by rfl) ?_)
        | (refine F2.step (by rfl) _ _ (by rfl) (by rfl) (by rfl) ?_)
        | (go_simp; go_at_call 25; refine (HUX.out _).mono ?_; rintro e wx ⟨rfl, rfl⟩)
        | (go_simp; go_at_call 24; first
          | (with_reducible refine P1.out.mono ?_; rintro e wx ⟨v, rfl, ho, hbx⟩)
          | (with_reducible refine P2.out.mono ?_; rintro e wx ⟨v, rfl, ho, hbx⟩)))
      all_goals
        go_wp2_with fail
        go_meet
        case rel => exact ⟨ho, hbx⟩
    obtain ⟨HO, HBC⟩ := hcut
    clear hgt c0 c1
    have c0 : wc.cell? ⟨g, 0, none⟩ = some (.bool true) := (HBC.out.cell (p := ⟨g, 0, none⟩) HK.out.lt).trans (HK.out.cell 0)
    have c1 : wc.cell? ⟨g, 1, none⟩ = some (.string ⟨name.toArray⟩) := (HBC.out.cell (p := ⟨g, 1, none⟩) HK.out.lt).trans (HK.out.cell 1)
    have hs0 := HBC.out.size
    have hbl0 : Below w1.heap.size w1 (wc.alloc (.cells #[.int .u8 0, .int .u8 255] 5)) := HBC.out.alloc hs0 _
    go_wp2_with (at_builtin; refine wpList_append_bytes rfl (.tmp 37) (.tmp 38) 25 rfl w1.heap.size 5 Tryz.underlying25 info5 _ ([31, 139, 8, 8] ++ bytesOf false 4 u) rfl (HO.out.below (Nat.le_refl _) ((Below.refl _ _).alloc (Nat.le_refl _) _)) (some ⟨wc.heap.size, 0, none⟩) 2 2 [0, 255] rfl (lit_two _ _) (by simp [Go.My.NumMath.bytesOf_len]) (by simp; omega) ?_)
    intro v2 w3 ho2 hg2
    have hb2 := grown_below (HO.out.below (Nat.le_refl _) ((Below.refl _ _).alloc (Nat.le_refl _) _)) hbl0 hg2 (by simp; omega)
    have HO2 := Lib.hid ho2
    have HB2 := Lib.hid hb2
    clear ho2 hg2 hbl0 hb2 HO
    have c0 : w3.cell? ⟨g, 0, none⟩ = some (.bool true) := (HB2.out.cell (p := ⟨g, 0, none⟩) HK.out.lt).trans (HK.out.cell 0)
    have c1 : w3.cell? ⟨g, 1, none⟩ = some (.string ⟨name.toArray⟩) := (HB2.out.cell (p := ⟨g, 1, none⟩) HK.out.lt).trans (HK.out.cell 1)
    obtain ⟨i5, hi5, hz5, hsz5, hby5⟩ := info_parts info5
    have hm1 : ([31, 139, 8, 8] ++ bytesOf false 4 u ++ [0, 255]).length + (⟨name.toArray⟩ : ByteArray).size ≤ 140737488355328 := by rw [hsz]; simp [Go.My.NumMath.bytesOf_len]; omega
    have hm2 : ([31, 139, 8, 8] ++ bytesOf false 4 u ++ [0, 255]).length + (⟨name.toArray⟩ : ByteArray).size ≤ maxLen := by unfold maxLen; omega
    go_wp2_with (at_builtin; go_loud (refine Go.Lib.wpList_append_own_string _ rfl (.tmp 42) (.tmp 44) 25 9 rfl w1.heap.size 5 i5 Tryz.underlying25 Tryz.underlying9 hi5 hz5 hsz5 hby5 v2 _ _ rfl HO2.out ⟨name.toArray⟩ rfl hm2 hm1 HB2.out.size ?_))
    intro v3 w4 ho3 hg3 _
    have HO3 : Hid (Own 5 w1.heap.size w4 v3 (([31, 139, 8, 8] ++ bytesOf false 4 u ++ [0, 255]) ++ name)) := Lib.hid (own_str ho3)
    have HB3 := Lib.hid (grown_below HO2.out HB2.out hg3 HB2.out.size)
    clear ho3 hg3 HO2
    have hs3 := HB3.out.size
    have hbl3 : Below w1.heap.size w1 (w4.alloc (.cells #[.int .u8 0] 5)) := HB3.out.alloc hs3 _
    go_wp2_with (at_builtin; refine wpList_append_bytes rfl (.tmp 45) (.tmp 46) 25 rfl w1.heap.size 5 Tryz.underlying25 info5 _ (([31, 139, 8, 8] ++ bytesOf false 4 u ++ [0, 255]) ++ name) rfl (HO3.out.below (Nat.le_refl _) ((Below.refl _ _).alloc (Nat.le_refl _) _)) (some ⟨w4.heap.size, 0, none⟩) 1 1 [0] rfl (one_bytes _ _ 0) (by simp [Go.My.NumMath.bytesOf_len]; omega) (by simp; omega) ?_)
    intro v4 w5 ho4 hg4
    have hb4 := grown_below (HO3.out.below (Nat.le_refl _) ((Below.refl _ _).alloc (Nat.le_refl _) _)) hbl3 hg4 (by simp; omega)
    have HO4 := Lib.hid ho4
    have HB4 := Lib.hid hb4
    clear ho4 hg4 hbl3 hb4
    go_wp2_with fail
    go_ret2
    refine ⟨v4, rfl, own_low (l := putH true name u) ?_ HB1.out.size, HB1.out.trans (HB4.out.mono HB1.out.size)⟩
    have := HO4.out
    unfold putH flagB
    simpa [List.append_assoc] using this
end Go.Proofs.YtilfmmjjiiabgaaGreatDoor.GzC
end

section
/-
  Slices of values of one cell (ints, words, texts): what came in, what a call made of its own; make, append. No program, no dump.
-/
namespace Go.My
open Go.RowKit

/-- A slice (address, length, capacity) that reads as a list of values. -/
structure RowIn (w : World) (a : Option Addr) (len cap : Nat) (vs : List Value) : Prop where
  len_eq : vs.length = len
  le_cap : len ≤ cap
  cap_le : cap ≤ 9223372036854775807
  nil : a = none → len = 0 ∧ cap = 0
  at_ : len = 0 ∨ ∃ b off, a = some ⟨b, off, none⟩ ∧ b < w.heap.size ∧ ∀ i (h : i < vs.length), w.cell? ⟨b, off + i, none⟩ = some vs[i]
theorem RowIn.none_ (w : World) : RowIn w none 0 0 [] := ⟨rfl, Nat.le_refl _, by omega, fun _ => ⟨rfl, rfl⟩, .inl rfl⟩
theorem RowIn.below {w w' : World} {a : Option Addr} {len cap : Nat} {vs : List Value} (h : RowIn w a len cap vs) {B : Nat} (hB : w.heap.size ≤ B) (hb : Below B w w') : RowIn w' a len cap vs := by
  refine ⟨h.1, h.2, h.3, h.4, h.5.imp_right ?_⟩
  rintro ⟨b, off, ha, hs, hc⟩
  exact ⟨b, off, ha, Nat.lt_of_lt_of_le hs hb.size, fun i hi => by rw [hb.cell (p := ⟨b, off + i, none⟩) (Nat.lt_of_lt_of_le hs hB)]; exact hc i hi⟩
theorem RowIn.some_ {w : World} {a : Option Addr} {len cap : Nat} {vs : List Value} (h : RowIn w a len cap vs) (h0 : 0 < len) : ∃ b off, a = some ⟨b, off, none⟩ := by
  rcases h.at_ with h5 | ⟨b, off, ha, hs, hc⟩
  · omega
  · exact ⟨b, off, ha⟩
theorem RowIn.get {w : World} {b off len cap : Nat} {vs : List Value} (h : RowIn w (some ⟨b, off, none⟩) len cap vs) (i : Nat) (hi : i < vs.length) : w.cell? ⟨b, off + i, none⟩ = some vs[i] := by
  rcases h.at_ with h5 | ⟨b', off', ha, hs, hc⟩
  · have := h.len_eq; omega
  · cases ha; exact hc i hi
theorem RowIn.lt {w : World} {b off len cap : Nat} {vs : List Value} (h : RowIn w (some ⟨b, off, none⟩) len cap vs) (h0 : 0 < len) : b < w.heap.size := by
  rcases h.at_ with h5 | ⟨b', off', ha, hs, hc⟩
  · omega
  · cases ha; exact hs

/-- A value that is a slice of the call's own (block base or later), all of it. -/
def OwnV (E : TypeId) (base : Nat) (w : World) (v : Value) (vs : List Value) : Prop := w.ownsRow base E 1 v vs.length vs
theorem OwnV.row {E : TypeId} {base : Nat} {w : World} {v : Value} {vs : List Value} (h : OwnV E base w v vs) : ∃ a c, v = .slice a vs.length c ∧ RowIn w a vs.length c vs := by
  rcases h.2 with ⟨rfl, h0⟩ | ⟨g, cap, cur, rfl, hg, hh, hn, hm, hs, ht⟩
  · have : vs = [] := List.length_eq_zero_iff.1 h0
    subst this
    exact ⟨none, 0, rfl, RowIn.none_ w⟩
  · unfold maxLen at hm
    refine ⟨_, cap, rfl, rfl, hn, hm, (fun h => by cases h), .inr ⟨g, 0, rfl, ?_, fun i hi => ?_⟩⟩
    · by_cases hlt : g < w.heap.size
      · exact hlt
      · rw [Array.getElem?_eq_none (by omega)] at hh; cases hh
    · rw [cell_of_row _ _ _ _ _ _ hh, Nat.zero_add, ← Array.getElem?_toList]
      have : (cur.toList.take (vs.length * 1))[i]? = vs[i]? := by rw [ht]
      rw [List.getElem?_take, if_pos (by omega)] at this
      rw [this, List.getElem?_eq_getElem hi]
theorem OwnV.below {E : TypeId} {base : Nat} {w w' : World} {v : Value} {vs : List Value} (h : OwnV E base w v vs) {B : Nat} (hB : w.heap.size ≤ B) (hb : Below B w w') : OwnV E base w' v vs := by
  refine World.ownsRow.kept h (row := none) ⟨hb.os, hb.tape, hb.output, hb.size, fun k hk _ => hb.block k (by omega)⟩ ?_
  by_cases hv : v.ownBlock = none
  · exact .inl hv
  · exact .inr hv
theorem OwnV.only {S : Nat → Prop} {E : TypeId} {base : Nat} {w w' : World} {v : Value} {vs : List Value} (ho : OwnV E base w v vs) (h : Only S w w') (hv : ∀ k, v.ownBlock = some k → ¬ S k) : OwnV E base w' v vs := by
  refine ⟨ho.1, ?_⟩
  rcases ho.2 with hn | ⟨g, cap, cur, rfl, hb, hgg, rest⟩
  · exact .inl hn
  · refine .inr ⟨g, cap, cur, rfl, hb, ?_, rest⟩
    rw [h.block g (Array.getElem?_eq_some_iff.1 hgg).1 (hv g rfl)]
    exact hgg
theorem OwnV.kept {E : TypeId} {base : Nat} {w w' : World} {v : Value} {vs : List Value} {row : Option Nat} (h : OwnV E base w v vs) (hg : w.grownBy w' row) (hr : v.ownBlock = none ∨ v.ownBlock ≠ row) : OwnV E base w' v vs := World.ownsRow.kept h hg hr
theorem OwnV.rowIn {E : TypeId} {base : Nat} {w : World} {a : Option Addr} {n c : Nat} {vs : List Value} (h : OwnV E base w (.slice a n c) vs) (hn : vs.length = n) : RowIn w a n c vs := by
  subst hn
  obtain ⟨a', c', h1, h2⟩ := h.row
  simp only [Value.slice.injEq, true_and] at h1
  obtain ⟨rfl, rfl⟩ := h1
  exact h2
theorem OwnV.nil (E : TypeId) (base : Nat) (w : World) : OwnV E base w (.slice none 0 0) [] := World.ownsRow_nil _ _ _ _
theorem OwnV.lit {base : Nat} (E : TypeId) (w : World) (cs : Array Value) (hb : base ≤ w.heap.size) (hm : cs.size ≤ 1000000) : OwnV E base (w.alloc (.cells cs E)) (.slice (some ⟨w.heap.size, 0, none⟩) cs.size cs.size) cs.toList :=
  by
    have := World.ownsRow_lit (e := E) (size := 1) w cs cs.size hb (by unfold maxLen; omega) (by omega)
    unfold OwnV
    exact this
theorem OwnV.base {E : TypeId} {base : Nat} {w : World} {v : Value} {vs : List Value} (h : OwnV E base w v vs) (k : Nat) (hk : v.ownBlock = some k) : base ≤ k := (World.ownsRow.lt h k hk).1
theorem OwnV.lt {E : TypeId} {base : Nat} {w : World} {v : Value} {vs : List Value} (h : OwnV E base w v vs) (k : Nat) (hk : v.ownBlock = some k) : k < w.heap.size := (World.ownsRow.lt h k hk).2
theorem OwnV.grown {base : Nat} {w0 w w' : World} {v : Value} {E : TypeId} {vs : List Value} (hown : OwnV E base w v vs) (h : Below base w0 w) (hg : w.grownBy w' v.ownBlock) (hb : base ≤ w.heap.size) : Below base w0 w' :=
  h.grown hg hb fun k hk => (World.ownsRow.lt hown k hk).1
theorem OwnV.store {E : TypeId} {base : Nat} {w : World} {g n c : Nat} {vs : List Value} (h : OwnV E base w (.slice (some ⟨g, 0, none⟩) n c) vs) (hn : vs.length = n) (i : Nat) (u : Value) :
    OwnV E base (w.setCell ⟨g, i, none⟩ u) (.slice (some ⟨g, 0, none⟩) n c) (vs.set i u) := by
  subst hn
  have := (World.ownsRow.stored h i u).1
  unfold OwnV
  rw [List.length_set]
  exact this
theorem OwnV.cell {E : TypeId} {base : Nat} {w : World} {g n c : Nat} {vs : List Value} (h : OwnV E base w (.slice (some ⟨g, 0, none⟩) n c) vs) (hn : vs.length = n) (i : Nat) (hi : i < vs.length) : w.cell? ⟨g, i, none⟩ = some vs[i] := by
  subst hn
  have hcell := World.ownsRow.cellAt h i (by simpa using hi)
  rw [hcell, List.getElem?_eq_getElem hi]
theorem OwnV.free {E : TypeId} {base : Nat} {w : World} {g n c : Nat} {vs : List Value} (h : OwnV E base w (.slice (some ⟨g, 0, none⟩) n c) vs) (hn : vs.length = n) (i : Nat) : w.frozen? ⟨g, i, none⟩ = false := by
  subst hn
  exact World.ownsRow.frozenAt h i

/-- append(v, x...) of values of one cell; where the new row lies. -/
theorem wp_append_row {P : Program} {w : World} {o : Oper} {a : Act} {K : Act → World → Prop} {Q : Exit → Act → World → Prop} (s x : Operand) (t : TypeId)
    (ho : o.op = .call { callee := .builtin .append, args := #[s, x], argTypes := #[t, t] }) (base : Nat) (E : TypeId) (z : Value) (by_ : Nat) (ht : P.underlying t = some (.slice E))
    (hi : (P.info? E).map (fun i => (i.zero, i.size, i.bytes)) = some (some z, 1, by_)) (hz1 : z.cells.size = 1)
    (v : Value) (l : List Value) (hs : a.eval s = v) (hown : OwnV E base w v l) (ad : Option Addr) (m c : Nat) (l2 : List Value) (hx : a.eval x = .slice ad m c) (hb : RowIn w ad m c l2) (hone : ∀ u ∈ l2, u.oneCell' = true)
    (hlen : (l.length + m) * by_ ≤ 140737488355328) (hlen2 : l.length + m ≤ 140737488355328) (hbase : base ≤ w.heap.size)
    (h : ∀ v' w', OwnV E base w' v' (l ++ l2) → w.grownBy w' v.ownBlock → Nxt v.ownBlock w.heap.size v'.ownBlock → K (a.put o.dst v') w') : o.wp P a w K Q := by
  obtain ⟨i, hi, hz0, hsz, hz2⟩ := info_parts hi
  by_cases h0 : m = 0
  · subst h0
    have hl2 : l2 = [] := List.length_eq_zero_iff.1 hb.len_eq
    subst hl2
    obtain ⟨v', w', hr, h2, h3, _, h5⟩ : ∃ v' w', (Builtin.append_ #[t, t] o.type #[v, .slice ad 0 c]).run P w = .ok v' w' ∧ OwnV E base w' v' l ∧ w.grownBy w' v.ownBlock ∧ True ∧ (v'.ownBlock = v.ownBlock ∨ v'.ownBlock = some w.heap.size) := by
      cases ad with
      | none =>
        obtain ⟨_, rfl⟩ := hb.nil rfl
        have hrun := run_append_owned_none (P := P) (w := w) base t o.type E i 1 ht hi v l.length l hown
        exact ⟨v, w, hrun, hown, ⟨rfl, rfl, rfl, Nat.le_refl _, fun _ _ _ => rfl⟩, trivial, .inl rfl⟩
      | some ad =>
        obtain ⟨v', w', hr, h2, h3, _, h5⟩ := run_append_own_at (P := P) w base t o.type E i z 1 by_ ht hi hz0 hsz hz2 hz1 (by decide) v l.length l hown ad 0 c [] rfl (fun j u hu => by simp at hu) (fun u hu => by simp at hu) (by unfold maxLen; omega) hlen hbase
        refine ⟨v', w', hr, ?_, h3, trivial, h5⟩
        unfold OwnV
        rw [List.append_nil] at h2
        exact h2
    unfold Oper.wp execOp
    simp only [ho, resolve, invoke, builtin, Sem.run_bind, Sem.run_pure, Result.andThen_ok, List.map_toArray, List.map_cons, List.map_nil, hs, hx, hr]
    refine h v' w' (by rw [List.append_nil]; exact h2) h3 ?_
    rcases h5 with h5 | h5
    · exact .inl h5
    · exact .inr ⟨_, h5, Nat.le_refl _⟩
  · rcases hb.at_ with h1 | ⟨b, off, hab, hbs, hc⟩
    · omega
    subst hab
    refine wp_append_lies w s x t ho base E i z 1 by_ ht hi hz0 hsz hz2 hz1 (by decide) v l.length l hs hown ⟨b, off, none⟩ m c l2 hx (by simp [hb.len_eq]) ?_ hone (by omega) (by unfold maxLen; omega) hlen hbase _ rfl ?_
    · intro j u hu
      have hj : j < l2.length := (List.getElem?_eq_some_iff.1 hu).1
      rw [addr_add, hc j hj]
      rw [List.getElem?_eq_getElem hj] at hu
      exact hu
    · intro g cap w' h1 h2 h3 _
      refine h _ w' ?_ h2 ?_
      · unfold OwnV
        rw [List.length_append, hb.len_eq]
        exact h1
      · rcases h3 with h3 | rfl
        · exact .inl h3.symm
        · exact .inr ⟨_, rfl, Nat.le_refl _⟩
theorem wpList_append_row {P : Program} {w : World} {ops : Array Oper} {rest : List Oper} {o : Oper} {a : Act} {Q : Exit → Act → World → Prop} (hw : Region.wanted o (yielded ops a.tmps) = true) (s x : Operand) (t : TypeId)
    (ho : o.op = .call { callee := .builtin .append, args := #[s, x], argTypes := #[t, t] }) (base : Nat) (E : TypeId) (z : Value) (by_ : Nat) (ht : P.underlying t = some (.slice E))
    (hi : (P.info? E).map (fun i => (i.zero, i.size, i.bytes)) = some (some z, 1, by_)) (hz1 : z.cells.size = 1)
    (v : Value) (l : List Value) (hs : a.eval s = v) (hown : OwnV E base w v l) (ad : Option Addr) (m c : Nat) (l2 : List Value) (hx : a.eval x = .slice ad m c) (hb : RowIn w ad m c l2) (hone : ∀ u ∈ l2, u.oneCell' = true)
    (hlen : (l.length + m) * by_ ≤ 140737488355328) (hlen2 : l.length + m ≤ 140737488355328) (hbase : base ≤ w.heap.size)
    (h : ∀ a' c' w', OwnV E base w' (.slice a' (l.length + m) c') (l ++ l2) → w.grownBy w' v.ownBlock → Nxt v.ownBlock w.heap.size (Value.ownBlock (.slice a' (l.length + m) c')) → wpList P ops Q rest (a.put o.dst (.slice a' (l.length + m) c')) w') : wpList P ops Q (o :: rest) a w :=
  wpList_of_wp hw fun _ hK => wp_append_row s x t ho base E z by_ ht hi hz1 v l hs hown ad m c l2 hx hb hone hlen hlen2 hbase fun v' w' h1 h2 h3 => by
    obtain ⟨a', c', rfl, _⟩ := h1.row
    rw [List.length_append, hb.len_eq] at *
    exact hK _ _ (h a' c' w' h1 h2 h3)
/-- make([]T, k) -/
theorem wpList_make_row {P : Program} (w : World) {ops : Array Oper} {rest : List Oper} {o : Oper} {a : Act} {Q : Exit → Act → World → Prop}
    (hg : o.guard = none) (l c : Operand) (t : TypeId) (hop : o.op = Op.makeSlice t l c) (base : Nat) (E : TypeId) (z : Value) (by_ : Nat) (ht : P.underlying t = some (.slice E))
    (hi : (P.info? E).map (fun i => (i.zero, i.size, i.bytes)) = some (some z, 1, by_)) (hz1 : z.cells = #[z]) (kl kc : IntKind) (k : Nat) (hl : a.eval l = .int kl (k : Int)) (hc : a.eval c = .int kc (k : Int))
    (hk : k * by_ ≤ 281474976710656) (hk2 : k ≤ 281474976710656) (hb : base ≤ w.heap.size)
    (hK : ∀ w', OwnV E base w' (.slice (some ⟨w.heap.size, 0, none⟩) k k) (List.replicate k z) → w.grownBy w' none → wpList P ops Q rest (a.put o.dst (.slice (some ⟨w.heap.size, 0, none⟩) k k)) w') : wpList P ops Q (o :: rest) a w := by
  obtain ⟨i, hi, hz0, hz2, hz3⟩ := info_parts hi
  refine wpList_make_full w hg l c t hop base E i z 1 ht hi hz0 hz2 kl kc _ _ k hl hc rfl rfl (by rw [hz3]; have := Nat.mul_comm k by_; omega) (by unfold maxLen; omega) hb fun w' h1 h2 => hK w' ?_ h2
  unfold OwnV
  rw [List.length_replicate]
  have e : (madeCells z.cells (k * 1)).toList = List.replicate k z := by rw [hz1, Nat.mul_one]; exact toList_madeCells_one _ _
  rw [e] at h1
  exact h1

/-! ### a block of cells stored at once -/
theorem Blk.row {w : World} {g : Nat} {t : TypeId} {cs : Array Value} (h : Blk w g t cs) (new : Array Value) : Blk (w.setRow g new) g t new := setRow_heap w g cs new t _ h
theorem setRow_block (w : World) (g : Nat) (cs : Array Value) (k : Nat) (h : k ≠ g) : (w.setRow g cs).heap[k]? = w.heap[k]? := by
  show (w.heap.modify g _)[k]? = _
  rw [Array.getElem?_modify, if_neg (fun e => h e.symm)]
theorem below_row {B : Nat} {w0 w : World} (h : Below B w0 w) {g : Nat} (hg : B ≤ g) (cs : Array Value) : Below B w0 (w.setRow g cs) := by
  refine ⟨h.os, h.tape, h.output, ?_, fun k hk => ?_⟩
  · show w0.heap.size ≤ (w.heap.modify g _).size
    rw [Array.size_modify]; exact h.size
  · rw [setRow_block w g cs k (by omega)]; exact h.block k hk
end Go.My
end

section
/-
  gzip.Put of a header that may not be put; tail, Wrap; Go's own slices.Concat of rows of bytes.
-/
namespace Go.Proofs.YtilfmmjjiiabgaaGreatDoor.GzC
open Go.RowKit Go.My GzMath
open Go.My.NumMath (bytesOf)
set_option maxHeartbeats 1000000 in
theorem tail_any (sum size : Nat) (w : World) (h1 : sum < 4294967296) (h2 : size < 9223372036854775808) :
    Calls Tryz.prog 19 #[.int .u32 (sum : Int), .int .i64 (size : Int)] w fun e w' => OwnRet 5 w (bytesOf false 4 sum ++ bytesOf false 4 size) e w' := by
  have w1 : IntKind.u64.wrap (sum : Int) = (sum : Int) := IntWalk.u64_in _ (by omega)
  have w2 : IntKind.u64.wrap (size : Int) = (size : Int) := IntWalk.u64_in _ (by omega)
  go_enter Tryz.func19, Tryz.ntmps19
  go_wp2_with fail
  refine (NumC.putlittle_any none 0 0 [] sum 4 w (nil_bytes w) (by simp) (by omega) (by omega)).mono ?_
  rintro e w1 ⟨v1, rfl, ho, hb⟩
  obtain ⟨a1, c1, rfl, hby⟩ := ho.bytes
  have HBY := Lib.hid hby
  have HB := Lib.hid hb
  have hl : ([] ++ bytesOf false 4 sum).length = 4 := by simp [Go.My.NumMath.bytesOf_len]
  clear ho hby hb
  go_wp2_with fail
  refine (NumC.putlittle_any a1 _ c1 _ size 4 w1 HBY.out (by omega) (by omega) (by omega)).mono ?_
  rintro e w2 ⟨v2, rfl, ho2, hb2⟩
  have HO2 := Lib.hid ho2
  have HB2 := Lib.hid hb2
  clear ho2 hb2
  go_wp2_with fail
  go_ret
  exact ⟨_, rfl, by have := own_low HO2.out HB.out.size; simpa using this, HB.out.trans (HB2.out.mono HB.out.size)⟩
end Go.Proofs.YtilfmmjjiiabgaaGreatDoor.GzC
end
