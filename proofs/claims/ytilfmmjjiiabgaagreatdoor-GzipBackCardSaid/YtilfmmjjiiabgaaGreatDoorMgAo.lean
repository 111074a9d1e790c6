import Derived.Test.YtilfmmjjiiabgaaGreatDoorRows
import Derived.Test.YtilfmmjjiiabgaaGreatDoorMgAn
import Derived.Deep.DeepCutAuto
import Derived.Deep.CutBlock
import Derived.Test.YtilfmmjjiiabgaaGreatDoorMgAm
import Derived.Test.YtilfmmjjiiabgaaGreatDoorMgAd
import Derived.Laws.CopyOwn
import Derived.Deep.RegionLaw

section
/-
  bytes.Equal; how many bytes are alike at the beginning of two slices.
-/
namespace Go.Proofs.YtilfmmjjiiabgaaGreatDoor.MatC
open Go.RowKit Go.My MatMath

theorem quiet_below (w : World) (n : Nat) : Below w.heap.size w (w.drewN n) := ⟨rfl, rfl, rfl, Nat.le_refl _, fun _ _ => rfl⟩
theorem equal_any {a1 a2 : Option Addr} {n1 n2 c1 c2 : Nat} {l1 l2 : List UInt8} (w : World) (h1 : Bytes w a1 n1 c1 l1) (h2 : Bytes w a2 n2 c2 l2) (K : Bool) (hK : (l1 == l2) = K) :
    Calls Tryz.prog 47 #[.slice a1 n1 c1, .slice a2 n2 c2] w fun e w' => e = .returned (.bool K) ∧ w' = w := by
  have k1 := run_string_bytes (P := Tryz.prog) w 25 9 5 Tryz.underlying25 Tryz.underlying5 Tryz.underlying9 h1
  have k2 := run_string_bytes (P := Tryz.prog) w 25 9 5 Tryz.underlying25 Tryz.underlying5 Tryz.underlying9 h2
  clear h1 h2
  go_enter Tryz.func47, Tryz.ntmps47
  go_wp2_with fail
  go_ret
  exact ⟨rfl, rfl⟩

/-- How many bytes at the beginning of both are the same. -/
def pre : List UInt8 → List UInt8 → Nat
  | [], _ => 0
  | _ :: _, [] => 0
  | x :: xs, y :: ys => if x = y then pre xs ys + 1 else 0
/-- Only the draws have gone on. -/
def Drew (w w' : World) : Prop := ∃ m, w' = w.drewN m
theorem Drew.refl (w : World) : Drew w w := ⟨0, rfl⟩
theorem Drew.more {w w' : World} (h : Drew w w') (n : Nat) : Drew w (w'.drewN n) := by
  obtain ⟨m, rfl⟩ := h
  exact ⟨m + n, by rw [World.drewN_drewN]⟩
theorem Drew.below {w w' : World} (h : Drew w w') : Below w.heap.size w w' := by
  obtain ⟨m, rfl⟩ := h
  exact quiet_below w m
theorem Drew.bytes {w w' : World} {a : Option Addr} {len cap : Nat} {l : List UInt8} (h : Drew w w') (hb : Bytes w a len cap l) : Bytes w' a len cap l := hb.below (Nat.le_refl _) h.below

end Go.Proofs.YtilfmmjjiiabgaaGreatDoor.MatC
end

section
/-
  gzip's members: whole, over; bytes.HasPrefix.
-/
namespace Go.Proofs.YtilfmmjjiiabgaaGreatDoor.GzC
open Go.RowKit Go.My GzMath Flt
open Go.My.NumMath (bytesOf)

theorem whole_any (c : Nat) (w : World) :
    Calls Tryz.prog 30 #[.int .i64 (c : Int)] w fun e w' => e = .returned (.int .i64 ((if c = 5 then 2 else c : Nat) : Int)) ∧ w' = w := by
  by_cases h : c = 5
  · subst h
    go_enter Tryz.func30, Tryz.ntmps30
    go_wp2_with fail
    go_ret
    exact ⟨rfl, rfl⟩
  · rw [if_neg h]
    have h5 : ((c : Int) == 5) = false := by simp; omega
    go_enter Tryz.func30, Tryz.ntmps30
    go_wp2_with fail
    go_ret
    exact ⟨rfl, rfl⟩
theorem mul_any (x y : Nat) (w : World) : ∃ r W, (binOp .mul 23 (.float .f64 x) (.float .f64 y)).run Tryz.prog w = .ok (.float .f64 r) W ∧ Below w.heap.size w W ∧ (FloatKind.f64.format.mul x y = some r ∨ (FloatKind.f64.format.mul x y = none ∧ isNaN r = true)) := by
  cases h : FloatKind.f64.format.mul x y with
  | some r => exact ⟨r, w, run_float_arith w .mul _ .f64 x y r h, Below.refl _ _, .inl rfl⟩
  | none =>
    refine ⟨_, w.drew, ?_, (Below.refl _ _).drew, .inr ⟨rfl, ClkC.nan_cut (w.tape w.drawn (.nanBits .f64 x y))⟩⟩
    simp [binOp, Op.floatArith, h, Question.forced, Question.cut]
/-- Are n bytes more than ratio times the used ones? -/
noncomputable def ovr (n used ratio : Nat) : Bool := match FloatKind.f64.format.mul ratio (floatOfInt .f64 (used : Int)) with
  | some r => FloatKind.f64.format.order (floatOfInt .f64 (n : Int)) r == some .gt
  | none => false
theorem ovr_of {n used ratio r : Nat} (h : FloatKind.f64.format.mul ratio (floatOfInt .f64 (used : Int)) = some r ∨ (FloatKind.f64.format.mul ratio (floatOfInt .f64 (used : Int)) = none ∧ isNaN r = true)) :
    (FloatKind.f64.format.order (floatOfInt .f64 (n : Int)) r == some .gt) = ovr n used ratio := by
  unfold ovr
  rcases h with h | ⟨h, hn⟩
  · rw [h]
  · rw [h, ClkC.f_gt, hn]; simp
theorem over_any (n used : Nat) (ratio : Nat) (w : World) :
    Calls Tryz.prog 32 #[.int .i64 (n : Int), .int .i64 (used : Int), .float .f64 ratio] w fun e w' => e = .returned (.bool (ovr n used ratio)) ∧ Below w.heap.size w w' := by
  obtain ⟨r, W, hm, hb, ho⟩ := mul_any ratio (floatOfInt .f64 (used : Int)) w
  have e := ovr_of (n := n) ho
  have HB := Lib.hid hb
  clear hb ho
  generalize ovr n used ratio = K at *
  go_enter Tryz.func32, Tryz.ntmps32
  go_wp2_with fail
  go_ret
  exact ⟨rfl, HB.out⟩
theorem prefix_any {a1 a2 : Option Addr} {n1 n2 c1 c2 : Nat} {l1 l2 : List UInt8} (w : World) (h1 : Bytes w a1 n1 c1 l1) (h2 : Bytes w a2 n2 c2 l2) (K : Bool) (hK : (decide (n2 ≤ n1) && (l1.take n2 == l2)) = K) :
    Calls Tryz.prog 34 #[.slice a1 n1 c1, .slice a2 n2 c2] w fun e w' => e = .returned (.bool K) ∧ w' = w := by
  have hc := h1.le_cap
  by_cases h : n2 ≤ n1
  · have ht := h1.take n2 h
    have hq := Lib.hid (MatC.equal_any w ht h2 K (by rw [← hK, decide_eq_true h]; rfl))
    have hd : decide ((n1 : Int) ≥ (n2 : Int)) = true := by simp; omega
    have h3 : (n2 : Int) ≤ (c1 : Int) := by omega
    clear hK ht h1 h2 hc
    go_enter Tryz.func34, Tryz.ntmps34
    go_wp2_with fail
    refine hq.out.mono ?_
    rintro e w' ⟨rfl, rfl⟩
    go_wp2_with fail
    go_ret
    exact ⟨rfl, rfl⟩
  · have hd : decide ((n1 : Int) ≥ (n2 : Int)) = false := by simp; omega
    obtain rfl : false = K := by rw [← hK, decide_eq_false h]; rfl
    clear hK h1 h2 hc
    go_enter Tryz.func34, Tryz.ntmps34
    go_wp2_with fail
    go_ret
    exact ⟨rfl, rfl⟩
end Go.Proofs.YtilfmmjjiiabgaaGreatDoor.GzC
end

section
namespace Go.Proofs.YtilfmmjjiiabgaaGreatDoor.FeedC
open Go.RowKit Go.My BitMath

/-- copy(row, row[m:]): what a row of bytes of the call's own is behind it. -/
theorem wp_copy_front {P : Program} {w : World} {o : Oper} {a : Act} {K : Act → World → Prop} {Q : Exit → Act → World → Prop} (d s : Operand) (T : TypeId)
    (ho : o.op = .call { callee := .builtin .copy, args := #[d, s], argTypes := #[T, T] }) (E : TypeId) (hu : P.underlying T = some (.slice E)) (hsz : (P.info? E).map (·.size) = some 1)
    (B g c L : Nat) (l : List UInt8) (hown : Own E B w (.slice (some ⟨g, 0, none⟩) L c) l) (hL : l.length = L) (m : Nat) (hm : m ≤ L) (sp : Option Addr) (n sc : Nat) (hn : n = L - m)
    (hd : a.eval d = .slice (some ⟨g, 0, none⟩) L c) (hs : a.eval s = .slice sp n sc) (hsp : 0 < n → sp = some ⟨g, m, none⟩)
    (h : ∀ w', Only (fun k => g = k) w w' → Own E B w' (.slice (some ⟨g, 0, none⟩) n c) (l.drop m) → K (a.put o.dst (.int .i64 (n : Int))) w') : o.wp P a w K Q := by
  subst hL
  obtain ⟨h1, h2 | ⟨g', c', cur, hv, hb, hg, hnc, hcm, hcs, hx⟩⟩ := hown
  · simp at h2
  · simp only [Value.slice.injEq, Option.some.injEq, Addr.mk.injEq, and_true, true_and] at hv
    obtain ⟨rfl, rfl⟩ := hv
    by_cases h0 : n = 0
    · subst h0
      have hrun := run_copy_none (P := P) w T T o.type E (some ⟨g, 0, none⟩) sp l.length c 0 sc hu hsz (by simp)
      unfold Oper.wp execOp
      simp only [ho, resolve, invoke, builtin, Sem.run_bind, Sem.run_pure, Result.andThen_ok, List.map_toArray, List.map_cons, List.map_nil, hd, hs, hrun]
      refine h w (Only.refl _ _) ?_
      rw [List.drop_of_length_le (by omega)]
      exact ⟨rfl, .inr ⟨g, c, cur, rfl, hb, hg, Nat.zero_le _, hcm, hcs, by simp⟩⟩
    · have hsp := hsp (by omega)
      subst hsp
      have hlen : ((l.drop m).map bv).length = n := by simp; omega
      have hrun := run_copy_row (P := P) w T T o.type E g 0 l.length c ⟨g, m, none⟩ n sc cur E ((l.drop m).map bv) hu hsz hg (by rw [hlen]; show n = min n l.length; omega) ?_ (by rw [hlen]; omega) ?_
      · rw [hlen] at hrun
        unfold Oper.wp execOp
        simp only [ho, resolve, invoke, builtin, Sem.run_bind, Sem.run_pure, Result.andThen_ok, List.map_toArray, List.map_cons, List.map_nil, hd, hs, hrun]
        refine h _ ⟨rfl, rfl, rfl, by simp, fun k _ hk => setRow_other w g k _ (fun e => hk e.symm)⟩ ?_
        unfold Own
        rw [show (l.drop m).length = n from by simp; omega]
        refine ⟨by rw [hlen]; omega, .inr ⟨g, c, _, rfl, hb, setRow_heap w g _ _ E _ hg, by omega, hcm, ?_, ?_⟩⟩
        · have hz : cur.toList.length = c * 1 := by rw [Array.length_toList, hcs]
          simp; omega
        · rw [List.take_zero, List.nil_append, List.toList_toArray, Nat.mul_one, List.take_append_of_le_length (by rw [hlen]; omega), List.take_of_length_le (by rw [hlen]; omega)]
      · intro j v hv
        have hj : j < n := by rw [← hlen]; exact (List.getElem?_eq_some_iff.1 hv).1
        rw [addr_add, cell_of_row _ _ _ _ _ _ hg, ← Array.getElem?_toList]
        rw [List.getElem?_map, List.getElem?_drop] at hv
        have e : (cur.toList.take (l.length * 1))[m + j]? = (l.map bv)[m + j]? := by rw [hx]
        rw [List.getElem?_take, if_pos (by omega)] at e
        rw [e, List.getElem?_map]
        exact hv
      · intro v hv
        obtain ⟨b, _, rfl⟩ := List.mem_map.1 hv
        rfl
theorem step_copy_front {P : Program} {w : World} {ops : Array Oper} {o : Oper} {a : Act} {K : Act → World → Prop} {Q : Exit → Act → World → Prop} {F : Prop} (hgd : o.guard = none) (d s : Operand) (T : TypeId)
    (ho : o.op = .call { callee := .builtin .copy, args := #[d, s], argTypes := #[T, T] }) (E : TypeId) (hu : P.underlying T = some (.slice E)) (hsz : (P.info? E).map (·.size) = some 1)
    (B g c L : Nat) (l : List UInt8) (hown : Own E B w (.slice (some ⟨g, 0, none⟩) L c) l) (hL : l.length = L) (m : Nat) (hm : m ≤ L) (sp : Option Addr) (n sc : Nat) (hn : n = L - m) (N : Nat) (hN : n = N)
    (hd : a.eval d = .slice (some ⟨g, 0, none⟩) L c) (hs : a.eval s = .slice sp n sc) (hsp : 0 < n → sp = some ⟨g, m, none⟩)
    (h : ∀ w', Only (fun k => g = k) w w' → Own E B w' (.slice (some ⟨g, 0, none⟩) N c) (l.drop m) → K (a.put o.dst (.int .i64 (N : Int))) w') :
    if Region.wanted o (yielded ops a.tmps) = true then Oper.wp P o a w K Q else F := by
  subst hN
  have hw : Region.wanted o (yielded ops a.tmps) = true := by simp [Region.wanted, hgd]
  rw [if_pos hw]
  exact wp_copy_front d s T ho E hu hsz B g c L l hown hL m hm sp n sc hn hd hs hsp h

/-- A piece: its own block, its row's, the row's room, its bytes. -/
structure Pc where
  g : Nat
  d : Nat
  c : Nat
  l : List UInt8

/-- Where a list of pieces begins, nx behind it. -/
def hd : List Pc → Option Addr → Option Addr
  | [], nx => nx
  | p :: _, _ => some ⟨p.g, 0, none⟩

structure PcAt (B : Nat) (w : World) (p : Pc) (nx : Option Addr) : Prop where
  blk : Blk w p.g 124 #[.slice (some ⟨p.d, 0, none⟩) p.l.length p.c, .pointer nx]
  own : Own 5 B w (.slice (some ⟨p.d, 0, none⟩) p.l.length p.c) p.l
  base : B ≤ p.g
  most : p.l.length ≤ 64

def Chain (B : Nat) (w : World) : List Pc → Option Addr → Prop
  | [], _ => True
  | p :: t, nx => PcAt B w p (hd t nx) ∧ Chain B w t nx

def cat (ps : List Pc) : List UInt8 := ps.flatMap (·.l)
theorem cat_nil : cat [] = [] := rfl
theorem cat_cons (p : Pc) (t : List Pc) : cat (p :: t) = p.l ++ cat t := rfl
theorem cat_append (a b : List Pc) : cat (a ++ b) = cat a ++ cat b := by unfold cat; simp
theorem cat_one (p : Pc) : cat [p] = p.l := by simp [cat]
theorem hd_append (a b : List Pc) (nx : Option Addr) : hd (a ++ b) nx = hd a (hd b nx) := by cases a <;> rfl

/-- The blocks of a list of pieces. -/
def Foot (ps : List Pc) : Nat → Prop := fun k => ∃ p ∈ ps, k = p.g ∨ k = p.d

theorem PcAt.only {B : Nat} {w w' : World} {p : Pc} {nx : Option Addr} {S : Nat → Prop} (h : PcAt B w p nx) (hk : Only S w w') (h1 : ¬ S p.g) (h2 : ¬ S p.d) : PcAt B w' p nx :=
  ⟨hk.blk h.blk h1, hk.own h.own (fun k e => by simp [Value.ownBlock] at e; subst e; exact h2), h.base, h.most⟩
theorem PcAt.dlt {B : Nat} {w : World} {p : Pc} {nx : Option Addr} (h : PcAt B w p nx) : B ≤ p.d ∧ p.d < w.heap.size := World.ownsRow.lt h.own p.d rfl
theorem PcAt.far {B : Nat} {w : World} {p : Pc} {nx : Option Addr} (h : PcAt B w p nx) {g : Nat} {t : TypeId} {cs : Array Value} (hb : Blk w g t cs) (ht : t ≠ 5) : p.d ≠ g := by
  have := own_len_ne h.own hb ht
  intro e; subst e; exact this rfl
theorem Blk.ne {w : World} {g1 g2 : Nat} {t1 t2 : TypeId} {c1 c2 : Array Value} (h1 : Blk w g1 t1 c1) (h2 : Blk w g2 t2 c2) (ht : t1 ≠ t2) : g1 ≠ g2 := by
  intro e; subst e
  unfold Blk at h1 h2
  rw [h1] at h2
  injection h2 with h2
  injection h2 with _ h2
  exact ht h2

theorem Chain.only {B : Nat} {w w' : World} {S : Nat → Prop} (hk : Only S w w') : ∀ {ps : List Pc} {nx : Option Addr}, Chain B w ps nx → (∀ k, Foot ps k → ¬ S k) → Chain B w' ps nx
  | [], _, _, _ => trivial
  | p :: t, nx, h, hs => ⟨h.1.only hk (hs _ ⟨p, by simp, .inl rfl⟩) (hs _ ⟨p, by simp, .inr rfl⟩), Chain.only hk h.2 (fun k ⟨q, hq, hk⟩ => hs k ⟨q, by simp [hq], hk⟩)⟩
theorem Chain.append {B : Nat} {w : World} : ∀ {a b : List Pc} {nx : Option Addr}, Chain B w (a ++ b) nx ↔ Chain B w a (hd b nx) ∧ Chain B w b nx
  | [], b, nx => by simp [Chain]
  | p :: t, b, nx => by
    rw [List.cons_append, Chain, Chain, hd_append, Chain.append, and_assoc]
theorem Chain.lt {B : Nat} {w : World} : ∀ {ps : List Pc} {nx : Option Addr}, Chain B w ps nx → ∀ k, Foot ps k → B ≤ k ∧ k < w.heap.size
  | [], _, _, k, ⟨p, hp, _⟩ => by simp at hp
  | p :: t, nx, h, k, ⟨q, hq, hk⟩ => by
    rcases List.mem_cons.1 hq with rfl | hq
    · rcases hk with rfl | rfl
      · exact ⟨h.1.base, h.1.blk.lt⟩
      · exact h.1.dlt
    · exact Chain.lt h.2 k ⟨q, hq, hk⟩
theorem Chain.far {B : Nat} {w : World} {g : Nat} {t : TypeId} {cs : Array Value} (hb : Blk w g t cs) (ht : t ≠ 5) (ht2 : t ≠ 124) : ∀ {ps : List Pc} {nx : Option Addr}, Chain B w ps nx → ¬ Foot ps g
  | [], _, _, ⟨p, hp, _⟩ => by simp at hp
  | p :: t, nx, h, ⟨q, hq, hk⟩ => by
    rcases List.mem_cons.1 hq with rfl | hq
    · rcases hk with rfl | rfl
      · exact Blk.ne hb h.1.blk ht2 rfl
      · exact h.1.far hb ht rfl
    · exact Chain.far hb ht ht2 h.2 ⟨q, hq, hk⟩
theorem Chain.at_ {B : Nat} {w : World} : ∀ {ps : List Pc} {nx : Option Addr}, Chain B w ps nx → ∀ p ∈ ps, ∃ nx', PcAt B w p nx'
  | p :: t, nx, h, q, hq => by
    rcases List.mem_cons.1 hq with rfl | hq
    · exact ⟨_, h.1⟩
    · exact Chain.at_ h.2 q hq

/-- All blocks apart. -/
def Apart (ps : List Pc) : Prop := (ps.map (·.g)).Nodup ∧ (ps.map (·.d)).Nodup
/-- Every piece but the last one holds something. -/
def Full (ps : List Pc) : Prop := ∀ p ∈ ps.dropLast, p.l ≠ []

/-- A queue: its block, its pieces; n is the number that it bears. -/
structure QAt (B : Nat) (w : World) (q : Nat) (ps : List Pc) (n : Nat) : Prop where
  blk : Blk w q 113 #[.pointer (hd ps none), .pointer (ps.getLast?.map fun p => ⟨p.g, 0, none⟩), .int .i64 (n : Int)]
  chain : Chain B w ps none
  apart : Apart ps
  full : Full ps
  base : B ≤ q

theorem QAt.far {B : Nat} {w : World} {q n : Nat} {ps : List Pc} (h : QAt B w q ps n) : ¬ Foot ps q := Chain.far h.blk (by decide) (by decide) h.chain
theorem QAt.only {B : Nat} {w w' : World} {q n : Nat} {ps : List Pc} {S : Nat → Prop} (h : QAt B w q ps n) (hk : Only S w w') (hq : ¬ S q) (hs : ∀ k, Foot ps k → ¬ S k) : QAt B w' q ps n :=
  ⟨hk.blk h.blk hq, Chain.only hk h.chain hs, h.apart, h.full, h.base⟩
theorem QAt.below {B : Nat} {w w' : World} {q n : Nat} {ps : List Pc} (h : QAt B w q ps n) (hk : Below w.heap.size w w') : QAt B w' q ps n :=
  h.only (Only.of_below hk (fun _ => False)) (fun h => h) (fun _ _ h => h)
/-- The queue's own and its pieces' blocks. -/
def QFoot (q : Nat) (ps : List Pc) : Nat → Prop := fun k => k = q ∨ Foot ps k
theorem QAt.lt {B : Nat} {w : World} {q n : Nat} {ps : List Pc} (h : QAt B w q ps n) : ∀ k, QFoot q ps k → B ≤ k ∧ k < w.heap.size := by
  rintro k (rfl | hk)
  · exact ⟨h.base, h.blk.lt⟩
  · exact Chain.lt h.chain k hk

/-! ### one piece turned -/
theorem mid_g {B : Nat} {w : World} {xs ys : List Pc} {z : Pc} {nx : Option Addr} (h : Chain B w (xs ++ z :: ys) nx) (ha : Apart (xs ++ z :: ys)) : ¬ Foot (xs ++ ys) z.g := by
  rintro ⟨p, hp, e⟩
  have hz := (Chain.append.1 h).2.1
  obtain ⟨nx', hpa⟩ := Chain.at_ h p (by simp at hp ⊢; rcases hp with h | h <;> simp [h])
  rcases e with e | e
  · have hn := ha.1
    simp only [List.map_append, List.map_cons] at hn
    rw [List.nodup_append, List.nodup_cons] at hn
    rcases List.mem_append.1 hp with hp | hp
    · exact hn.2.2 _ (List.mem_map_of_mem hp) _ (by simp) e.symm
    · exact hn.2.1.1 (by rw [e]; exact List.mem_map_of_mem hp)
  · exact hpa.far hz.blk (by decide) e.symm
theorem mid_d {B : Nat} {w : World} {xs ys : List Pc} {z : Pc} {nx : Option Addr} (h : Chain B w (xs ++ z :: ys) nx) (ha : Apart (xs ++ z :: ys)) : ¬ Foot (xs ++ ys) z.d := by
  rintro ⟨p, hp, e⟩
  have hz := (Chain.append.1 h).2.1
  obtain ⟨nx', hpa⟩ := Chain.at_ h p (by simp at hp ⊢; rcases hp with h | h <;> simp [h])
  rcases e with e | e
  · exact hz.far hpa.blk (by decide) e
  · have hn := ha.2
    simp only [List.map_append, List.map_cons] at hn
    rw [List.nodup_append, List.nodup_cons] at hn
    rcases List.mem_append.1 hp with hp | hp
    · exact hn.2.2 _ (List.mem_map_of_mem hp) _ (by simp) e.symm
    · exact hn.2.1.1 (by rw [e]; exact List.mem_map_of_mem hp)

/-- What a call may turn when it turns piece z. -/
def Turns (q : Nat) (z : Pc) : Nat → Prop := fun k => k = q ∨ k = z.g ∨ k = z.d
theorem Foot.left {xs ys : List Pc} {k : Nat} (h : Foot xs k) : Foot (xs ++ ys) k := let ⟨p, hp, e⟩ := h; ⟨p, by simp [hp], e⟩
theorem Foot.right {xs ys : List Pc} {k : Nat} (h : Foot ys k) : Foot (xs ++ ys) k := let ⟨p, hp, e⟩ := h; ⟨p, by simp [hp], e⟩
theorem QAt.turned {B : Nat} {w w' : World} {q n n' : Nat} {xs ys : List Pc} {z z' : Pc} (h : QAt B w q (xs ++ z :: ys) n) (hk : Only (Turns q z) w w') (hz : PcAt B w' z' (hd ys none)) (hg : z'.g = z.g) (hd' : z'.d = z.d ∨ w.heap.size ≤ z'.d)
    (hb : Blk w' q 113 #[.pointer (hd (xs ++ z :: ys) none), .pointer ((xs ++ z :: ys).getLast?.map fun p => ⟨p.g, 0, none⟩), .int .i64 (n' : Int)]) (hf : ys ≠ [] → z'.l ≠ []) :
    QAt B w' q (xs ++ z' :: ys) n' := by
  have hmg := mid_g h.chain h.apart
  have hmd := mid_d h.chain h.apart
  have hq := h.far
  have hc := Chain.append.1 h.chain
  have hS : ∀ k, Foot (xs ++ ys) k → ¬ Turns q z k := by
    intro k hfo hT
    rcases hT with rfl | rfl | rfl
    · refine hq ?_
      obtain ⟨p, hp, e⟩ := hfo
      exact ⟨p, by simp at hp ⊢; rcases hp with h | h <;> simp [h], e⟩
    · exact hmg hfo
    · exact hmd hfo
  refine ⟨?_, Chain.append.2 ⟨?_, hz, Chain.only hk hc.2.2 (fun k hk => hS k hk.right)⟩, ⟨?_, ?_⟩, ?_, h.base⟩
  · have e1 : hd (xs ++ z' :: ys) none = hd (xs ++ z :: ys) none := by cases xs <;> simp [hd, hg]
    have e2 : ((xs ++ z' :: ys).getLast?.map fun p => (⟨p.g, 0, none⟩ : Addr)) = ((xs ++ z :: ys).getLast?.map fun p => ⟨p.g, 0, none⟩) := by
      cases ys with
      | nil => simp [hg]
      | cons y t => simp
    rw [e1, e2]; exact hb
  · have := Chain.only hk hc.1 (fun k hk => hS k hk.left)
    simp only [hd] at this ⊢
    rw [hg]; exact this
  · have := h.apart.1
    simpa [hg] using this
  · have hn := h.apart.2
    simp only [List.map_append, List.map_cons] at hn ⊢
    rcases hd' with hd' | hd'
    · rw [hd']; exact hn
    · rw [List.nodup_append, List.nodup_cons] at hn ⊢
      have hlt : ∀ p ∈ xs ++ ys, p.d < w.heap.size := fun p hp => by
        obtain ⟨nx', hpa⟩ := Chain.at_ h.chain p (by simp at hp ⊢; rcases hp with h | h <;> simp [h])
        exact hpa.dlt.2
      refine ⟨hn.1, ⟨?_, hn.2.1.2⟩, ?_⟩
      · intro hm
        obtain ⟨p, hp, e⟩ := List.mem_map.1 hm
        have := hlt p (by simp [hp]); omega
      · intro a ha b hb e
        subst e
        rcases List.mem_cons.1 hb with rfl | hb
        · obtain ⟨p, hp, e⟩ := List.mem_map.1 ha
          have := hlt p (by simp [hp]); omega
        · exact hn.2.2 a ha a (by simp [hb]) rfl
  · intro p hp
    have hfu := h.full
    unfold Full at hfu
    rw [List.dropLast_append_of_ne_nil (by simp)] at hp hfu
    rcases List.mem_append.1 hp with hp | hp
    · exact hfu p (by simp [hp])
    · cases ys with
      | nil => simp at hp
      | cons y t =>
        rw [List.dropLast_cons_cons] at hp hfu
        rcases List.mem_cons.1 hp with rfl | hp
        · exact hf (by simp)
        · exact hfu p (by simp [hp])
end Go.Proofs.YtilfmmjjiiabgaaGreatDoor.FeedC
end
