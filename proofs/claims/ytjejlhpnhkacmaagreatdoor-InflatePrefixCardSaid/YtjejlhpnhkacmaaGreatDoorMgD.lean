import Derived.Test.YtjejlhpnhkacmaaGreatDoorMgA
import Derived.Laws.CopyOwn
import Derived.Deep.RegionLaw
import Derived.Laws.MakeOwn
import Derived.StillTailTactics
import Derived.Deep.DeepCutAuto
import Derived.Deep.CutBlock

section
namespace Go.Proofs.YtjejlhpnhkacmaaGreatDoor.FeedC
open Go.RowKit Go.My BitMath

/-- copy(row, row[m:]): what a row of bytes of the call's own is behind it. -/
theorem wp_copy_front {P : Program} {w : World} {o : Oper} {a : Act} {K : Act → World → Prop} {Q : Exit → Act → World → Prop} (d s : Operand) (T : TypeId)
    (ho : o.op = .call { callee := .builtin .copy, args := #[d, s], argTypes := #[T, T] }) (E : TypeId) (hu : P.underlying T = some (.slice E)) (hsz : (P.info? E).map (·.size) = some 1)
    (B g c L : Nat) (l : List UInt8) (hown : Own E B w (.slice (some ⟨g, 0, none⟩) L c) l) (hL : l.length = L) (m : Nat) (hm : m ≤ L) (sp : Option Addr) (n sc : Nat) (hn : n = L - m)
    (hd : a.eval d = .slice (some ⟨g, 0, none⟩) L c) (hs : a.eval s = .slice sp n sc) (hsp : 0 < n → sp = some ⟨g, m, none⟩)
    (h : ∀ w', Only (fun k => g = k) w w' → Own E B w' (.slice (some ⟨g, 0, none⟩) n c) (l.drop m) → K (a.put o.dst (.int .i64 (n : Int))) w') : o.wp P a w K Q := by
  subst hL
  obtain ⟨h1, h2 | ⟨g', c', cur, hv, hb, hg, hnc, hcm, hcs, hx⟩⟩ := hown
  · simp at h2
  · simp only [Value.slice.injEq, Option.some.injEq, Addr.mk.injEq, and_true, true_and] at hv
    obtain ⟨rfl, rfl⟩ := hv
    by_cases h0 : n = 0
    · subst h0
      have hrun := run_copy_none (P := P) w T T o.type E (some ⟨g, 0, none⟩) sp l.length c 0 sc hu hsz (by simp)
      unfold Oper.wp execOp
      simp only [ho, resolve, invoke, builtin, Sem.run_bind, Sem.run_pure, Result.andThen_ok, List.map_toArray, List.map_cons, List.map_nil, hd, hs, hrun]
      refine h w (Only.refl _ _) ?_
      rw [List.drop_of_length_le (by omega)]
      exact ⟨rfl, .inr ⟨g, c, cur, rfl, hb, hg, Nat.zero_le _, hcm, hcs, by simp⟩⟩
    · have hsp := hsp (by omega)
      subst hsp
      have hlen : ((l.drop m).map bv).length = n := by simp; omega
      have hrun := run_copy_row (P := P) w T T o.type E g 0 l.length c ⟨g, m, none⟩ n sc cur E ((l.drop m).map bv) hu hsz hg (by rw [hlen]; show n = min n l.length; omega) ?_ (by rw [hlen]; omega) ?_
      · rw [hlen] at hrun
        unfold Oper.wp execOp
        simp only [ho, resolve, invoke, builtin, Sem.run_bind, Sem.run_pure, Result.andThen_ok, List.map_toArray, List.map_cons, List.map_nil, hd, hs, hrun]
        refine h _ ⟨rfl, rfl, rfl, by simp, fun k _ hk => setRow_other w g k _ (fun e => hk e.symm)⟩ ?_
        unfold Own
        rw [show (l.drop m).length = n from by simp; omega]
        refine ⟨by rw [hlen]; omega, .inr ⟨g, c, _, rfl, hb, setRow_heap w g _ _ E _ hg, by omega, hcm, ?_, ?_⟩⟩
        · have hz : cur.toList.length = c * 1 := by rw [Array.length_toList, hcs]
          simp; omega
        · rw [List.take_zero, List.nil_append, List.toList_toArray, Nat.mul_one, List.take_append_of_le_length (by rw [hlen]; omega), List.take_of_length_le (by rw [hlen]; omega)]
      · intro j v hv
        have hj : j < n := by rw [← hlen]; exact (List.getElem?_eq_some_iff.1 hv).1
        rw [addr_add, cell_of_row _ _ _ _ _ _ hg, ← Array.getElem?_toList]
        rw [List.getElem?_map, List.getElem?_drop] at hv
        have e : (cur.toList.take (l.length * 1))[m + j]? = (l.map bv)[m + j]? := by rw [hx]
        rw [List.getElem?_take, if_pos (by omega)] at e
        rw [e, List.getElem?_map]
        exact hv
      · intro v hv
        obtain ⟨b, _, rfl⟩ := List.mem_map.1 hv
        rfl
theorem step_copy_front {P : Program} {w : World} {ops : Array Oper} {o : Oper} {a : Act} {K : Act → World → Prop} {Q : Exit → Act → World → Prop} {F : Prop} (hgd : o.guard = none) (d s : Operand) (T : TypeId)
    (ho : o.op = .call { callee := .builtin .copy, args := #[d, s], argTypes := #[T, T] }) (E : TypeId) (hu : P.underlying T = some (.slice E)) (hsz : (P.info? E).map (·.size) = some 1)
    (B g c L : Nat) (l : List UInt8) (hown : Own E B w (.slice (some ⟨g, 0, none⟩) L c) l) (hL : l.length = L) (m : Nat) (hm : m ≤ L) (sp : Option Addr) (n sc : Nat) (hn : n = L - m) (N : Nat) (hN : n = N)
    (hd : a.eval d = .slice (some ⟨g, 0, none⟩) L c) (hs : a.eval s = .slice sp n sc) (hsp : 0 < n → sp = some ⟨g, m, none⟩)
    (h : ∀ w', Only (fun k => g = k) w w' → Own E B w' (.slice (some ⟨g, 0, none⟩) N c) (l.drop m) → K (a.put o.dst (.int .i64 (N : Int))) w') :
    if Region.wanted o (yielded ops a.tmps) = true then Oper.wp P o a w K Q else F := by
  subst hN
  have hw : Region.wanted o (yielded ops a.tmps) = true := by simp [Region.wanted, hgd]
  rw [if_pos hw]
  exact wp_copy_front d s T ho E hu hsz B g c L l hown hL m hm sp n sc hn hd hs hsp h

/-- A piece: its own block, its row's, the row's room, its bytes. -/
structure Pc where
  g : Nat
  d : Nat
  c : Nat
  l : List UInt8

/-- Where a list of pieces begins, nx behind it. -/
def hd : List Pc → Option Addr → Option Addr
  | [], nx => nx
  | p :: _, _ => some ⟨p.g, 0, none⟩

structure PcAt (B : Nat) (w : World) (p : Pc) (nx : Option Addr) : Prop where
  blk : Blk w p.g 90 #[.slice (some ⟨p.d, 0, none⟩) p.l.length p.c, .pointer nx]
  own : Own 5 B w (.slice (some ⟨p.d, 0, none⟩) p.l.length p.c) p.l
  base : B ≤ p.g
  most : p.l.length ≤ 64

def Chain (B : Nat) (w : World) : List Pc → Option Addr → Prop
  | [], _ => True
  | p :: t, nx => PcAt B w p (hd t nx) ∧ Chain B w t nx

def cat (ps : List Pc) : List UInt8 := ps.flatMap (·.l)
theorem cat_nil : cat [] = [] := rfl
theorem cat_cons (p : Pc) (t : List Pc) : cat (p :: t) = p.l ++ cat t := rfl
theorem cat_append (a b : List Pc) : cat (a ++ b) = cat a ++ cat b := by unfold cat; simp
theorem cat_one (p : Pc) : cat [p] = p.l := by simp [cat]
theorem hd_append (a b : List Pc) (nx : Option Addr) : hd (a ++ b) nx = hd a (hd b nx) := by cases a <;> rfl

/-- The blocks of a list of pieces. -/
def Foot (ps : List Pc) : Nat → Prop := fun k => ∃ p ∈ ps, k = p.g ∨ k = p.d

theorem PcAt.only {B : Nat} {w w' : World} {p : Pc} {nx : Option Addr} {S : Nat → Prop} (h : PcAt B w p nx) (hk : Only S w w') (h1 : ¬ S p.g) (h2 : ¬ S p.d) : PcAt B w' p nx :=
  ⟨hk.blk h.blk h1, hk.own h.own (fun k e => by simp [Value.ownBlock] at e; subst e; exact h2), h.base, h.most⟩
theorem PcAt.dlt {B : Nat} {w : World} {p : Pc} {nx : Option Addr} (h : PcAt B w p nx) : B ≤ p.d ∧ p.d < w.heap.size := World.ownsRow.lt h.own p.d rfl
theorem PcAt.far {B : Nat} {w : World} {p : Pc} {nx : Option Addr} (h : PcAt B w p nx) {g : Nat} {t : TypeId} {cs : Array Value} (hb : Blk w g t cs) (ht : t ≠ 5) : p.d ≠ g := by
  have := own_len_ne h.own hb ht
  intro e; subst e; exact this rfl
theorem Blk.ne {w : World} {g1 g2 : Nat} {t1 t2 : TypeId} {c1 c2 : Array Value} (h1 : Blk w g1 t1 c1) (h2 : Blk w g2 t2 c2) (ht : t1 ≠ t2) : g1 ≠ g2 := by
  intro e; subst e
  unfold Blk at h1 h2
  rw [h1] at h2
  injection h2 with h2
  injection h2 with _ h2
  exact ht h2

theorem Chain.only {B : Nat} {w w' : World} {S : Nat → Prop} (hk : Only S w w') : ∀ {ps : List Pc} {nx : Option Addr}, Chain B w ps nx → (∀ k, Foot ps k → ¬ S k) → Chain B w' ps nx
  | [], _, _, _ => trivial
  | p :: t, nx, h, hs => ⟨h.1.only hk (hs _ ⟨p, by simp, .inl rfl⟩) (hs _ ⟨p, by simp, .inr rfl⟩), Chain.only hk h.2 (fun k ⟨q, hq, hk⟩ => hs k ⟨q, by simp [hq], hk⟩)⟩
theorem Chain.append {B : Nat} {w : World} : ∀ {a b : List Pc} {nx : Option Addr}, Chain B w (a ++ b) nx ↔ Chain B w a (hd b nx) ∧ Chain B w b nx
  | [], b, nx => by simp [Chain]
  | p :: t, b, nx => by
    rw [List.cons_append, Chain, Chain, hd_append, Chain.append, and_assoc]
theorem Chain.lt {B : Nat} {w : World} : ∀ {ps : List Pc} {nx : Option Addr}, Chain B w ps nx → ∀ k, Foot ps k → B ≤ k ∧ k < w.heap.size
  | [], _, _, k, ⟨p, hp, _⟩ => by simp at hp
  | p :: t, nx, h, k, ⟨q, hq, hk⟩ => by
    rcases List.mem_cons.1 hq with rfl | hq
    · rcases hk with rfl | rfl
      · exact ⟨h.1.base, h.1.blk.lt⟩
      · exact h.1.dlt
    · exact Chain.lt h.2 k ⟨q, hq, hk⟩
theorem Chain.far {B : Nat} {w : World} {g : Nat} {t : TypeId} {cs : Array Value} (hb : Blk w g t cs) (ht : t ≠ 5) (ht2 : t ≠ 90) : ∀ {ps : List Pc} {nx : Option Addr}, Chain B w ps nx → ¬ Foot ps g
  | [], _, _, ⟨p, hp, _⟩ => by simp at hp
  | p :: t, nx, h, ⟨q, hq, hk⟩ => by
    rcases List.mem_cons.1 hq with rfl | hq
    · rcases hk with rfl | rfl
      · exact Blk.ne hb h.1.blk ht2 rfl
      · exact h.1.far hb ht rfl
    · exact Chain.far hb ht ht2 h.2 ⟨q, hq, hk⟩
theorem Chain.at_ {B : Nat} {w : World} : ∀ {ps : List Pc} {nx : Option Addr}, Chain B w ps nx → ∀ p ∈ ps, ∃ nx', PcAt B w p nx'
  | p :: t, nx, h, q, hq => by
    rcases List.mem_cons.1 hq with rfl | hq
    · exact ⟨_, h.1⟩
    · exact Chain.at_ h.2 q hq

/-- All blocks apart. -/
def Apart (ps : List Pc) : Prop := (ps.map (·.g)).Nodup ∧ (ps.map (·.d)).Nodup
/-- Every piece but the last one holds something. -/
def Full (ps : List Pc) : Prop := ∀ p ∈ ps.dropLast, p.l ≠ []

/-- A queue: its block, its pieces; n is the number that it bears. -/
structure QAt (B : Nat) (w : World) (q : Nat) (ps : List Pc) (n : Nat) : Prop where
  blk : Blk w q 72 #[.pointer (hd ps none), .pointer (ps.getLast?.map fun p => ⟨p.g, 0, none⟩), .int .i64 (n : Int)]
  chain : Chain B w ps none
  apart : Apart ps
  full : Full ps
  base : B ≤ q

theorem QAt.far {B : Nat} {w : World} {q n : Nat} {ps : List Pc} (h : QAt B w q ps n) : ¬ Foot ps q := Chain.far h.blk (by decide) (by decide) h.chain
theorem QAt.only {B : Nat} {w w' : World} {q n : Nat} {ps : List Pc} {S : Nat → Prop} (h : QAt B w q ps n) (hk : Only S w w') (hq : ¬ S q) (hs : ∀ k, Foot ps k → ¬ S k) : QAt B w' q ps n :=
  ⟨hk.blk h.blk hq, Chain.only hk h.chain hs, h.apart, h.full, h.base⟩
theorem QAt.below {B : Nat} {w w' : World} {q n : Nat} {ps : List Pc} (h : QAt B w q ps n) (hk : Below w.heap.size w w') : QAt B w' q ps n :=
  h.only (Only.of_below hk (fun _ => False)) (fun h => h) (fun _ _ h => h)
/-- The queue's own and its pieces' blocks. -/
def QFoot (q : Nat) (ps : List Pc) : Nat → Prop := fun k => k = q ∨ Foot ps k
theorem QAt.lt {B : Nat} {w : World} {q n : Nat} {ps : List Pc} (h : QAt B w q ps n) : ∀ k, QFoot q ps k → B ≤ k ∧ k < w.heap.size := by
  rintro k (rfl | hk)
  · exact ⟨h.base, h.blk.lt⟩
  · exact Chain.lt h.chain k hk

/-! ### one piece turned -/
theorem mid_g {B : Nat} {w : World} {xs ys : List Pc} {z : Pc} {nx : Option Addr} (h : Chain B w (xs ++ z :: ys) nx) (ha : Apart (xs ++ z :: ys)) : ¬ Foot (xs ++ ys) z.g := by
  rintro ⟨p, hp, e⟩
  have hz := (Chain.append.1 h).2.1
  obtain ⟨nx', hpa⟩ := Chain.at_ h p (by simp at hp ⊢; rcases hp with h | h <;> simp [h])
  rcases e with e | e
  · have hn := ha.1
    simp only [List.map_append, List.map_cons] at hn
    rw [List.nodup_append, List.nodup_cons] at hn
    rcases List.mem_append.1 hp with hp | hp
    · exact hn.2.2 _ (List.mem_map_of_mem hp) _ (by simp) e.symm
    · exact hn.2.1.1 (by rw [e]; exact List.mem_map_of_mem hp)
  · exact hpa.far hz.blk (by decide) e.symm
theorem mid_d {B : Nat} {w : World} {xs ys : List Pc} {z : Pc} {nx : Option Addr} (h : Chain B w (xs ++ z :: ys) nx) (ha : Apart (xs ++ z :: ys)) : ¬ Foot (xs ++ ys) z.d := by
  rintro ⟨p, hp, e⟩
  have hz := (Chain.append.1 h).2.1
  obtain ⟨nx', hpa⟩ := Chain.at_ h p (by simp at hp ⊢; rcases hp with h | h <;> simp [h])
  rcases e with e | e
  · exact hz.far hpa.blk (by decide) e
  · have hn := ha.2
    simp only [List.map_append, List.map_cons] at hn
    rw [List.nodup_append, List.nodup_cons] at hn
    rcases List.mem_append.1 hp with hp | hp
    · exact hn.2.2 _ (List.mem_map_of_mem hp) _ (by simp) e.symm
    · exact hn.2.1.1 (by rw [e]; exact List.mem_map_of_mem hp)

/-- What a call may turn when it turns piece z. -/
def Turns (q : Nat) (z : Pc) : Nat → Prop := fun k => k = q ∨ k = z.g ∨ k = z.d
theorem Foot.left {xs ys : List Pc} {k : Nat} (h : Foot xs k) : Foot (xs ++ ys) k := let ⟨p, hp, e⟩ := h; ⟨p, by simp [hp], e⟩
theorem Foot.right {xs ys : List Pc} {k : Nat} (h : Foot ys k) : Foot (xs ++ ys) k := let ⟨p, hp, e⟩ := h; ⟨p, by simp [hp], e⟩
theorem QAt.turned {B : Nat} {w w' : World} {q n n' : Nat} {xs ys : List Pc} {z z' : Pc} (h : QAt B w q (xs ++ z :: ys) n) (hk : Only (Turns q z) w w') (hz : PcAt B w' z' (hd ys none)) (hg : z'.g = z.g) (hd' : z'.d = z.d ∨ w.heap.size ≤ z'.d)
    (hb : Blk w' q 72 #[.pointer (hd (xs ++ z :: ys) none), .pointer ((xs ++ z :: ys).getLast?.map fun p => ⟨p.g, 0, none⟩), .int .i64 (n' : Int)]) (hf : ys ≠ [] → z'.l ≠ []) :
    QAt B w' q (xs ++ z' :: ys) n' := by
  have hmg := mid_g h.chain h.apart
  have hmd := mid_d h.chain h.apart
  have hq := h.far
  have hc := Chain.append.1 h.chain
  have hS : ∀ k, Foot (xs ++ ys) k → ¬ Turns q z k := by
    intro k hfo hT
    rcases hT with rfl | rfl | rfl
    · refine hq ?_
      obtain ⟨p, hp, e⟩ := hfo
      exact ⟨p, by simp at hp ⊢; rcases hp with h | h <;> simp [h], e⟩
    · exact hmg hfo
    · exact hmd hfo
  refine ⟨?_, Chain.append.2 ⟨?_, hz, Chain.only hk hc.2.2 (fun k hk => hS k hk.right)⟩, ⟨?_, ?_⟩, ?_, h.base⟩
  · have e1 : hd (xs ++ z' :: ys) none = hd (xs ++ z :: ys) none := by cases xs <;> simp [hd, hg]
    have e2 : ((xs ++ z' :: ys).getLast?.map fun p => (⟨p.g, 0, none⟩ : Addr)) = ((xs ++ z :: ys).getLast?.map fun p => ⟨p.g, 0, none⟩) := by
      cases ys with
      | nil => simp [hg]
      | cons y t => simp
    rw [e1, e2]; exact hb
  · have := Chain.only hk hc.1 (fun k hk => hS k hk.left)
    simp only [hd] at this ⊢
    rw [hg]; exact this
  · have := h.apart.1
    simpa [hg] using this
  · have hn := h.apart.2
    simp only [List.map_append, List.map_cons] at hn ⊢
    rcases hd' with hd' | hd'
    · rw [hd']; exact hn
    · rw [List.nodup_append, List.nodup_cons] at hn ⊢
      have hlt : ∀ p ∈ xs ++ ys, p.d < w.heap.size := fun p hp => by
        obtain ⟨nx', hpa⟩ := Chain.at_ h.chain p (by simp at hp ⊢; rcases hp with h | h <;> simp [h])
        exact hpa.dlt.2
      refine ⟨hn.1, ⟨?_, hn.2.1.2⟩, ?_⟩
      · intro hm
        obtain ⟨p, hp, e⟩ := List.mem_map.1 hm
        have := hlt p (by simp [hp]); omega
      · intro a ha b hb e
        subst e
        rcases List.mem_cons.1 hb with rfl | hb
        · obtain ⟨p, hp, e⟩ := List.mem_map.1 ha
          have := hlt p (by simp [hp]); omega
        · exact hn.2.2 a ha a (by simp [hb]) rfl
  · intro p hp
    have hfu := h.full
    unfold Full at hfu
    rw [List.dropLast_append_of_ne_nil (by simp)] at hp hfu
    rcases List.mem_append.1 hp with hp | hp
    · exact hfu p (by simp [hp])
    · cases ys with
      | nil => simp at hp
      | cons y t =>
        rw [List.dropLast_cons_cons] at hp hfu
        rcases List.mem_cons.1 hp with rfl | hp
        · exact hf (by simp)
        · exact hfu p (by simp [hp])
end Go.Proofs.YtjejlhpnhkacmaaGreatDoor.FeedC
end

section
namespace Go.My
open Go.RowKit
theorem Blk.set_far {w : World} {g b : Nat} {t : TypeId} {cs : Array Value} (h : Blk w g t cs) (hb : b ≠ g) (i : Nat) (u : Value) : Blk (w.setCell ⟨b, i, none⟩ u) g t cs :=
  Only.blk (S := fun k => k = b) ((Only.refl (fun k => k = b) w).setCell (p := ⟨b, i, none⟩) (fun _ => rfl) u) h (fun e => hb e.symm)

end Go.My
namespace Go.Proofs.YtjejlhpnhkacmaaGreatDoor.FeedC
open Go.RowKit Go.My BitMath RefC

/-- What extend leaves. -/
def Extended (B q n : Nat) (ps : List Pc) (w : World) (e : Ending) (w' : World) : Prop :=
  e = .returned (.tuple #[]) ∧ ∃ p : Pc, p.l = [] ∧ QAt B w' q (ps ++ [p]) n ∧ Only (QFoot q ps) w w' ∧ w.heap.size ≤ p.g ∧ w.heap.size ≤ p.d

theorem piece_new {B : Nat} {w1 : World} {d c : Nat} (hown : Own 5 B w1 (.slice (some ⟨d, 0, none⟩) 0 c) []) (hB : B ≤ w1.heap.size) :
    PcAt B (w1.alloc (.cells #[.slice (some ⟨d, 0, none⟩) 0 c, .pointer none] 90)) ⟨w1.heap.size, d, c, []⟩ none :=
  ⟨Blk.new _ _ _, hown.below (Nat.le_refl _) ((Below.refl _ _).alloc (Nat.le_refl _) _), hB, by simp⟩

set_option maxRecDepth 100000 in
set_option maxHeartbeats 2000000 in
theorem extend_first (B q n : Nat) (w : World) (h : QAt B w q [] n) : Calls Tryz.prog 41 #[.pointer (some ⟨q, 0, none⟩)] w (Extended B q n [] w) := by
  have HQ := Lib.hid h
  have hBs : B ≤ w.heap.size := by have := h.base; have := h.blk.lt; omega
  clear h
  go_enter Tryz.func41, Tryz.ntmps41
  go_wp2_with (at_make; refine wpList_make_cap _ rfl _ _ 22 rfl B 5 Tryz.underlying22 info5 .i64 .i64 64 64 rfl rfl rfl (by omega) hBs ?_)
  intro w1 hown hg
  have hO1 := (Only.refl (fun _ => False) w).grown hg (fun k _ hk => by cases hk)
  have hb := hO1.blk HQ.out.blk (fun h => h)
  have hb1 := hb.alloc (.cells #[.slice (some ⟨w.heap.size, 0, none⟩) 0 64, .pointer none] 90)
  have HB := Lib.hid hb1
  have HW := Lib.hid hown
  have HO := Lib.hid hO1
  have hq1 := hb1.cell 1
  have hf0 := hb1.frozen 0
  have hf1 := hb1.frozen 1
  have hq0 := hb1.cell 0
  simp only [List.getElem?_toArray, List.getElem?_cons_zero, List.getElem?_cons_succ, List.getLast?_nil, Option.map_none, hd] at hq1 hq0
  clear hb hb1 hown hg hO1
  go_wp2_with fail
  go_end0
  have hp := piece_new (c := 64) HW.out (by have := HO.out.size; omega)
  have hP : Only (fun k => k = q) (w1.alloc (.cells #[.slice (some ⟨w.heap.size, 0, none⟩) 0 64, .pointer none] 90)) (((w1.alloc (.cells #[.slice (some ⟨w.heap.size, 0, none⟩) 0 64, .pointer none] 90)).setCell ⟨q, 0, none⟩ (.pointer (some ⟨w1.heap.size, 0, none⟩))).setCell ⟨q, 1, none⟩ (.pointer (some ⟨w1.heap.size, 0, none⟩))) :=
    ((Only.refl (fun k => k = q) _).setCell (p := ⟨q, 0, none⟩) (fun _ => rfl) _).setCell (p := ⟨q, 1, none⟩) (fun _ => rfl) _
  have hql := HQ.out.blk.lt
  have hs := HO.out.size
  refine ⟨rfl, ⟨w1.heap.size, w.heap.size, 64, []⟩, rfl, ⟨(HB.out.set_ 0 _).set_ 1 _, ⟨hp.only hP (fun e => ?_) (fun e => ?_), trivial⟩, by simp [Apart], by simp [Full], HQ.out.base⟩, ?_, hs, Nat.le_refl _⟩
  · simp at e; omega
  · simp at e; omega
  · exact ((HO.out.mono (fun _ _ h => h.elim)).alloc _).trans hP (fun i _ h => .inl h)

theorem hd_getLast (xs : List Pc) (z p : Pc) : hd (xs ++ [z] ++ [p]) none = hd (xs ++ [z]) none ∧ (xs ++ [z]).getLast? = some z ∧ (xs ++ [z] ++ [p]).getLast? = some p := by
  refine ⟨?_, by simp, by simp⟩
  cases xs <;> simp [hd]

set_option maxRecDepth 100000 in
set_option maxHeartbeats 2000000 in
theorem extend_more (B q n : Nat) (xs : List Pc) (z : Pc) (w : World) (h : QAt B w q (xs ++ [z]) n) (hz : z.l ≠ []) :
    Calls Tryz.prog 41 #[.pointer (some ⟨q, 0, none⟩)] w (Extended B q n (xs ++ [z]) w) := by
  have HQ := Lib.hid h
  have HZ := Lib.hid hz
  have hBs : B ≤ w.heap.size := by have := h.base; have := h.blk.lt; omega
  clear h hz
  go_enter Tryz.func41, Tryz.ntmps41
  go_wp2_with (at_make; refine wpList_make_cap _ rfl _ _ 22 rfl B 5 Tryz.underlying22 info5 .i64 .i64 64 64 rfl rfl rfl (by omega) hBs ?_)
  intro w1 hown hg
  have hO1 := (Only.refl (fun _ => False) w).grown hg (fun k _ hk => by cases hk)
  have hb := hO1.blk HQ.out.blk (fun h => h)
  have hb1 := hb.alloc (.cells #[.slice (some ⟨w.heap.size, 0, none⟩) 0 64, .pointer none] 90)
  have hz1 := (hO1.blk (Chain.append.1 HQ.out.chain).2.1.blk (fun h => h)).alloc (.cells #[.slice (some ⟨w.heap.size, 0, none⟩) 0 64, .pointer none] 90)
  have HZ1 := Lib.hid hz1
  have HB := Lib.hid hb1
  have HW := Lib.hid hown
  have HO := Lib.hid hO1
  have hq1 := hb1.cell 1
  have hf1 := hb1.frozen 1
  have hg1 := hz1.cell 1
  have hgf := hz1.frozen 1
  simp only [List.getElem?_toArray, List.getElem?_cons_zero, List.getElem?_cons_succ, (hd_getLast xs z z).2.1, Option.map_some, hd] at hq1 hg1
  have hzq : z.g ≠ q := Blk.ne hz1 hb1 (by decide)
  have hq1s := (hb1.set_far hzq 1 (.pointer (some ⟨w1.heap.size, 0, none⟩))).cell 1
  have hf1s := (hb1.set_far hzq 1 (.pointer (some ⟨w1.heap.size, 0, none⟩))).frozen 1
  simp only [List.getElem?_toArray, List.getElem?_cons_zero, List.getElem?_cons_succ] at hq1s
  have HNE := Lib.hid hzq
  clear hb hb1 hz1 hown hg hO1 hzq
  go_wp2_with fail
  go_end0
  have hzq := HNE.out
  have hp := piece_new (c := 64) HW.out (by have := HO.out.size; omega)
  obtain ⟨W, hW⟩ : ∃ W, W = w1.alloc (.cells #[.slice (some ⟨w.heap.size, 0, none⟩) 0 64, .pointer none] 90) := ⟨_, rfl⟩
  have hOW : Only (fun _ => False) w W := by rw [hW]; exact HO.out.alloc _
  have hB1 := HB.out
  have hZ1 := HZ1.out
  rw [← hW] at hp hB1 hZ1 ⊢
  have hP : Only (fun k => k = q ∨ k = z.g) W ((W.setCell ⟨z.g, 1, none⟩ (.pointer (some ⟨w1.heap.size, 0, none⟩))).setCell ⟨q, 1, none⟩ (.pointer (some ⟨w1.heap.size, 0, none⟩))) :=
    ((Only.refl (fun k => k = q ∨ k = z.g) _).setCell (p := ⟨z.g, 1, none⟩) (fun _ => .inr rfl) _).setCell (p := ⟨q, 1, none⟩) (fun _ => .inl rfl) _
  have hql := HQ.out.lt
  have hs := HO.out.size
  have hpz := (Chain.append.1 HQ.out.chain).2.1
  have hzl := hpz.blk.lt
  have hmg := mid_g (ys := []) HQ.out.chain HQ.out.apart
  rw [List.append_nil] at hmg
  have hnew : ∀ k, Foot (xs ++ [z]) k → k < w.heap.size := fun k hk => (hql k (.inr hk)).2
  have hq := HQ.out.far
  obtain ⟨e1, e2, e3⟩ := hd_getLast xs z ⟨w1.heap.size, w.heap.size, 64, []⟩
  refine ⟨rfl, ⟨w1.heap.size, w.heap.size, 64, []⟩, rfl, ⟨?_, ?_, ⟨?_, ?_⟩, ?_, HQ.out.base⟩, ?_, hs, Nat.le_refl _⟩
  · rw [e1, e3]
    exact (hB1.set_far hzq _ _).set_ 1 (.pointer (some ⟨w1.heap.size, 0, none⟩))
  · rw [List.append_assoc]
    have hc := Chain.append.1 HQ.out.chain
    refine Chain.append.2 ⟨?_, ?_, ?_, trivial⟩
    · exact Chain.only hP (Chain.only hOW hc.1 (fun _ _ h => h)) (fun k hk e => by
        rcases e with rfl | rfl
        · exact hq hk.left
        · exact hmg hk)
    · have hz' := hc.2.1.only hOW (fun h => h) (fun h => h)
      refine ⟨(hZ1.set_ 1 _).set_far (Ne.symm hzq) _ _, hP.own hz'.own (fun k e hk => ?_), hz'.base, hz'.most⟩
      simp [Value.ownBlock] at e
      subst e
      rcases hk with e | e
      · exact hq ⟨z, by simp, .inr e.symm⟩
      · exact hz'.far hz'.blk (by decide) e
    · refine hp.only hP (fun e => ?_) (fun e => ?_)
      · have := hql q (.inl rfl); simp at e; omega
      · have := hql q (.inl rfl); simp at e; omega
  · have hn := HQ.out.apart.1
    rw [List.map_append, List.nodup_append]
    refine ⟨hn, by simp, fun a ha b hb e => ?_⟩
    obtain ⟨p, hp, rfl⟩ := List.mem_map.1 ha
    have := hnew p.g ⟨p, hp, .inl rfl⟩
    simp at hb; omega
  · have hn := HQ.out.apart.2
    rw [List.map_append, List.nodup_append]
    refine ⟨hn, by simp, fun a ha b hb e => ?_⟩
    obtain ⟨p, hp, rfl⟩ := List.mem_map.1 ha
    have := hnew p.d ⟨p, hp, .inr rfl⟩
    simp at hb; omega
  · intro p hp
    rw [List.dropLast_concat] at hp
    rcases List.mem_append.1 hp with hp | hp
    · exact HQ.out.full p (by rw [List.dropLast_concat]; exact hp)
    · simp at hp; subst hp; exact HZ.out
  · refine (hOW.mono (fun _ _ h => h.elim)).trans hP (fun i _ h => ?_)
    rcases h with h | h
    · exact .inl h
    · exact .inr ⟨z, by simp, .inl h⟩

theorem extend_any (B q n : Nat) (ps : List Pc) (w : World) (h : QAt B w q ps n) (hl : ∀ z, ps.getLast? = some z → z.l ≠ []) :
    Calls Tryz.prog 41 #[.pointer (some ⟨q, 0, none⟩)] w (Extended B q n ps w) := by
  rcases List.eq_nil_or_concat ps with rfl | ⟨xs, z, rfl⟩
  · exact extend_first B q n w h
  · rw [List.concat_eq_append] at *
    exact extend_more B q n xs z w h (hl z (by simp))
end Go.Proofs.YtjejlhpnhkacmaaGreatDoor.FeedC
end

section
namespace Go.Proofs.YtjejlhpnhkacmaaGreatDoor.FeedC
open Go.RowKit Go.My BitMath RefC

/-- What the loop of complete keeps. -/
structure Comps (B B2 : Nat) (ps : List Pc) (w : World) (n : Nat) (lb : List UInt8) (wr : World) (ys : List Pc) (a : Option Addr) (len cap : Nat) (l : List UInt8) : Prop where
  own : Own 5 B2 wr (.slice a len cap) l
  len_ : l.length = len
  eq : l ++ (cat ys).take (n - len) = lb ++ (cat ps).take (n - lb.length)
  le : len ≤ n
  enough : n ≤ len + (cat ys).length
  chain : Chain B wr ys none
  full : Full ys
  foot : ∀ k, Foot ys k → k < B2
  below : Below B2 w wr
  base : B2 ≤ wr.heap.size

theorem comps_step {B B2 : Nat} {ps : List Pc} {w : World} {n : Nat} {lb : List UInt8} {wr w3 : World} {p : Pc} {t : List Pc} {a a1 : Option Addr} {len cap c1 M : Nat} {l : List UInt8} (h : Comps B B2 ps w n lb wr (p :: t) a len cap l)
    (hM : M = p.l.length ∧ p.l.length ≤ n - len ∨ M = n - len ∧ n - len < p.l.length)
    (hown : Own 5 B2 w3 (.slice a1 (len + M) c1) (l ++ p.l.take M)) (hgrow : wr.drew.grownBy w3 (Value.ownBlock (.slice a len cap))) :
    Comps B B2 ps w n lb w3 t a1 (len + M) c1 (l ++ p.l.take M) := by
  have hlen := h.len_
  have he := h.eq
  have hen := h.enough
  have hl1 := h.le
  rw [cat_cons] at he hen
  rw [List.take_append] at he
  rw [List.length_append] at hen
  have hb : Below B2 w w3 := h.below.trans (Below.grown (Below.refl B2 wr).drew hgrow h.base (fun k hk => (World.ownsRow.lt h.own k hk).1))
  have hb3 : Below B2 wr w3 := (Below.refl B2 wr).drew.grown hgrow h.base (fun k hk => (World.ownsRow.lt h.own k hk).1)
  refine ⟨hown, by simp; omega, ?_, by omega, ?_, ?_, ?_, ?_, hb, Nat.le_trans h.base hb3.size⟩
  · rw [← he, List.append_assoc, show n - (len + M) = n - len - M from by omega]
    rcases hM with ⟨rfl, hM⟩ | ⟨rfl, hM⟩
    · rw [List.take_of_length_le (Nat.le_refl _), List.take_of_length_le hM]
    · rw [show n - len - (n - len) = 0 from by omega, show n - len - p.l.length = 0 from by omega]
  · rcases hM with ⟨rfl, hM⟩ | ⟨rfl, hM⟩ <;> omega
  · refine Chain.only (S := fun k => B2 ≤ k) ⟨hb3.os, hb3.tape, hb3.output, hb3.size, fun k hk hs => hb3.block k (by omega)⟩ h.chain.2 (fun k hk => ?_)
    have := h.foot k (let ⟨r, hr, hj⟩ := hk; ⟨r, by simp [hr], hj⟩)
    omega
  · intro r hr
    refine h.full r ?_
    cases t with
    | nil => simp at hr
    | cons y t => rw [List.dropLast_cons_cons]; exact List.mem_cons_of_mem _ hr
  · exact fun k ⟨r, hr, hj⟩ => h.foot k ⟨r, by simp [hr], hj⟩

theorem comps_pos {B B2 : Nat} {ps : List Pc} {w : World} {n : Nat} {lb : List UInt8} {wr : World} {p : Pc} {t : List Pc} {a : Option Addr} {len cap : Nat} {l : List UInt8} (h : Comps B B2 ps w n lb wr (p :: t) a len cap l) (hl : len < n) : 0 < p.l.length := by
  by_cases ht : t = []
  · subst ht
    have := h.enough
    rw [cat_one] at this
    omega
  · have := h.full p (by cases t with | nil => exact absurd rfl ht | cons y t => simp)
    exact List.length_pos_iff.2 this

set_option maxRecDepth 100000 in
set_option maxHeartbeats 4000000 in
theorem complete_any (B q nq B2 n : Nat) (ps : List Pc) (w : World) (h : QAt B w q ps nq) (hB : ∀ k, QFoot q ps k → k < B2) (hB2 : B2 ≤ w.heap.size) (a : Option Addr) (len cap : Nat) (lb : List UInt8) (hown : Own 5 B2 w (.slice a len cap) lb) (hlen : lb.length = len)
    (h1 : len ≤ n) (h2 : n ≤ len + (cat ps).length) (hn : n ≤ 100000000000) :
    Calls Tryz.prog 91 #[.pointer (some ⟨q, 0, none⟩), .slice a len cap, .int .i64 (n : Int)] w fun e w' => ∃ v, e = .returned v ∧ Own 5 B2 w' v (lb ++ (cat ps).take (n - len)) ∧ Below B2 w w' := by
  have hq0 := h.blk.cell 0
  simp only [List.getElem?_toArray, List.getElem?_cons_zero] at hq0
  have hC0 : Comps B B2 ps w n lb w ps a len cap lb := ⟨hown, hlen, by rw [hlen], h1, h2, h.chain, h.full, fun k hk => hB k (.inr hk), Below.refl _ _, hB2⟩
  have HC0 := Lib.hid hC0
  have HL := Lib.hid hlen
  obtain ⟨P0, hP0⟩ : ∃ P0, P0 = hd ps none := ⟨_, rfl⟩
  rw [← hP0] at hq0
  have HP0 := Lib.hid hP0
  clear h hB hown hC0 hlen h2 hP0
  go_enter Tryz.func91, Tryz.ntmps91
  go_wp2_with fail
  clear hq0
  go_loopw [1, 7] (fun sb pv wr => ∃ (ys : List Pc) (a' : Option Addr) (len' cap' : Nat) (l' : List UInt8), sb = .slice a' len' cap' ∧ pv = .pointer (hd ys none) ∧ len' ≤ n ∧ Hid (Comps B B2 ps w n lb wr ys a' len' cap' l')) (fun sb _ _ => n - (match sb with | .slice _ k _ => k | _ => 0))
  case atStart => exact ⟨ps, a, len, cap, lb, rfl, by rw [HP0.out], h1, HC0⟩
  case round =>
    clear HC0
    obtain ⟨ys, a', len', cap', l', rfl, rfl, hle, HC⟩ := hrel
    obtain rfl := HC.out.len_
    rcases ys with _ | ⟨p, t⟩
    · simp only [hd]
      go_wp2_with fail
      go_ret
      have he := HC.out.eq
      have hen := HC.out.enough
      rw [cat_nil] at he hen
      simp only [List.take_nil, List.append_nil] at he
      exact ⟨.slice a' l'.length cap', rfl, by rw [← HL.out, ← he]; exact HC.out.own, HC.out.below⟩
    · simp only [hd]
      by_cases hlt : l'.length < n
      · have hpos := comps_pos HC.out hlt
        have hz0 := HC.out.chain.1.blk.cell 0
        have hz1 := HC.out.chain.1.blk.cell 1
        simp only [List.getElem?_toArray, List.getElem?_cons_zero, List.getElem?_cons_succ] at hz0 hz1
        have hbg := HC.out.chain.1.blk
        have hown := HC.out.own
        have hsrc : Bytes wr (some ⟨p.d, 0, none⟩) p.l.length p.c p.l := by
          obtain ⟨a, c, e, hb⟩ := HC.out.chain.1.own.bytes
          simp only [Value.slice.injEq] at e
          obtain ⟨rfl, -, rfl⟩ := e
          exact hb
        have hpl := HC.out.chain.1.most
        have hlc := hsrc.le_cap
        obtain ⟨M, hM, hmin⟩ : ∃ M : Nat, (M = p.l.length ∧ p.l.length ≤ n - l'.length ∨ M = n - l'.length ∧ n - l'.length < p.l.length) ∧ (if (n : Int) - (l'.length : Int) < (p.l.length : Int) then (n : Int) - (l'.length : Int) else (p.l.length : Int)) = (M : Int) := by
          by_cases hm : p.l.length ≤ n - l'.length
          · exact ⟨p.l.length, .inl ⟨rfl, hm⟩, by rw [if_neg (by omega)]⟩
          · exact ⟨n - l'.length, .inr ⟨rfl, by omega⟩, by rw [if_pos (by omega)]; omega⟩
        have hw1 : IntKind.i64.wrap ((n : Int) - (l'.length : Int)) = (n : Int) - (l'.length : Int) := IntWalk.i64_in _ (by omega)
        have hMp : M ≤ p.l.length := by omega
        have hMc : M ≤ p.c := by omega
        have hM0 : 0 < M := by omega
        have hMn : l'.length + M ≤ n := by omega
        have HM := Lib.hid hM
        clear hM
        go_wp2_with fail
        go_region_law
          ((refine step_append_lie (by rfl) _ _ _ (by rfl) B2 5 Tryz.underlying22 info5 (.slice a' l'.length cap') l' (by rfl) (hown.below (Nat.le_refl _) (Below.refl _ wr).drew) (some ⟨p.d, 0, none⟩) M p.c (p.l.take M) (by rfl) ((hsrc.take M hMp).below (Nat.le_refl _) (Below.refl _ wr).drew) (by omega) HC.out.base ?_; intro a1 c1 w3 hown1 hgrow hnext))
        all_goals
          have hc1 := comps_step HC.out HM.out hown1 hgrow
          have hbg3 := hc1.below
          have hz13 : w3.cell? ⟨p.g, 1, none⟩ = some (.pointer (hd t none)) := by
            have hb3 : Below B2 wr w3 := (Below.refl B2 wr).drew.grown hgrow HC.out.base (fun k hk => (World.ownsRow.lt hown k hk).1)
            have hlt2 := HC.out.foot p.g ⟨p, by simp, .inl rfl⟩
            rw [hb3.cell (p := ⟨p.g, 1, none⟩) hlt2]
            exact hz1
          obtain ⟨P1, hP1⟩ : ∃ P1, P1 = hd t none := ⟨_, rfl⟩
          rw [← hP1] at hz13
          have HC1 := Lib.hid hc1
          have HP1 := Lib.hid hP1
          clear hc1 hbg3 hown1 hgrow hnext hz0 hz1 hP1 hown hbg hsrc hmin hw1
          go_wp2_with fail
          go_roundw
          case rel => exact ⟨t, _, _, _, _, rfl, by rw [HP1.out]; cases t <;> rfl, hMn, HC1⟩
          case measure => simp; omega
      · have hlt2 : l'.length = n := by omega
        have he := HC.out.eq
        rw [hlt2, Nat.sub_self, List.take_zero, List.append_nil] at he
        have HE := Lib.hid he
        subst hlt2
        clear he hlt
        go_wp2_with fail
        go_ret
        exact ⟨.slice a' l'.length cap', rfl, by rw [← HL.out, ← HE.out]; exact HC.out.own, HC.out.below⟩
end Go.Proofs.YtjejlhpnhkacmaaGreatDoor.FeedC
end

section
namespace Go.Proofs.YtjejlhpnhkacmaaGreatDoor.FeedC
open Go.RowKit Go.My BitMath RefC

/-- What the loop of push keeps. -/
structure Pushes (B q n : Nat) (ps0 : List Pc) (w : World) (l : List UInt8) (k : Nat) (wr : World) (ps : List Pc) (a : Option Addr) (len cap : Nat) : Prop where
  at_ : QAt B wr q ps n
  cat_ : cat ps = cat ps0 ++ l.take k
  only : Only (QFoot q ps0) w wr
  next : ∀ j, QFoot q ps j → QFoot q ps0 j ∨ w.heap.size ≤ j
  bytes : Bytes w a len cap (l.drop k)
  far : ∀ b off, a = some ⟨b, off, none⟩ → ¬ QFoot q ps0 b

/-- The state behind 'if q.last == nil || len(q.last.data) == room': there is a last piece, with room. -/
structure Roomy (B q n : Nat) (ps0 : List Pc) (w : World) (l : List UInt8) (k : Nat) (wr : World) (xs : List Pc) (z : Pc) (a : Option Addr) (len cap : Nat) : Prop where
  p : Pushes B q n ps0 w l k wr (xs ++ [z]) a len cap
  room : z.l.length < 64

theorem Pushes.bytesAt {B q n : Nat} {ps0 : List Pc} {w : World} {l : List UInt8} {k : Nat} {wr : World} {ps : List Pc} {a : Option Addr} {len cap : Nat} (h : Pushes B q n ps0 w l k wr ps a len cap) : Bytes wr a len cap (l.drop k) :=
  h.only.bytes h.bytes h.far

theorem Pushes.extended {B q n : Nat} {ps0 : List Pc} {w : World} {l : List UInt8} {k : Nat} {wr w2 : World} {ps : List Pc} {a : Option Addr} {len cap : Nat} (h : Pushes B q n ps0 w l k wr ps a len cap) {e : Ending} (he : Extended B q n ps wr e w2) :
    e = .returned (.tuple #[]) ∧ ∃ xs z, Roomy B q n ps0 w l k w2 xs z a len cap := by
  obtain ⟨rfl, p, hp, hq, ho, hg, hd⟩ := he
  refine ⟨rfl, ps, p, ⟨hq, ?_, ?_, ?_, h.bytes, h.far⟩, by rw [hp]; simp⟩
  · rw [cat_append, cat_one, hp, List.append_nil, h.cat_]
  · refine h.only.trans ho (fun i hi hT => ?_)
    rcases h.next i hT with h | h
    · exact h
    · omega
  · intro j hj
    rcases hj with rfl | ⟨r, hr, hj⟩
    · exact h.next _ (.inl rfl)
    · rcases List.mem_append.1 hr with hr | hr
      · exact h.next _ (.inr ⟨r, hr, hj⟩)
      · simp at hr; subst hr
        have := h.only.size
        rcases hj with rfl | rfl <;> right <;> omega

theorem push_step {B q n : Nat} {ps0 : List Pc} {w : World} {l : List UInt8} {k : Nat} {w2 w3 : World} {xs : List Pc} {z : Pc} {a a1 : Option Addr} {len cap c1 M : Nat} (h : Roomy B q n ps0 w l k w2 xs z a len cap) (h0 : 0 < M) (_h1 : M ≤ len) (h2 : z.l.length + M ≤ 64)
    (hown : Own 5 B w3 (.slice a1 (z.l.length + M) c1) (z.l ++ (l.drop k).take M)) (hgrow : w2.drew.grownBy w3 (Value.ownBlock (.slice (some ⟨z.d, 0, none⟩) z.l.length z.c)))
    (hnext : Nxt (Value.ownBlock (.slice (some ⟨z.d, 0, none⟩) z.l.length z.c)) w2.drew.heap.size (Value.ownBlock (.slice a1 (z.l.length + M) c1))) :
    ∀ a2 len2 cap2, Bytes w a2 len2 cap2 (l.drop (k + M)) → (∀ b off, a2 = some ⟨b, off, none⟩ → ¬ QFoot q ps0 b) →
      ∃ ps2, Pushes B q n ps0 w l (k + M) (w3.setCell ⟨z.g, 0, none⟩ (.slice a1 (z.l.length + M) c1)) ps2 a2 len2 cap2 := by
  intro a2 len2 cap2 hb hf
  have hlen : (z.l ++ (l.drop k).take M).length = z.l.length + M := by have := h.p.bytes.len_eq; simp at this ⊢; omega
  obtain ⟨d', c', heq, _, _, _⟩ := hown.some_ (by rw [hlen]; omega)
  simp only [Value.slice.injEq] at heq
  obtain ⟨rfl, -, rfl⟩ := heq
  have hq := h.p.at_
  have hpc := (Chain.append.1 hq.chain).2.1
  have hqz : z.g ≠ q := Blk.ne hpc.blk hq.blk (by decide)
  have hO1 : Only (fun k => some z.d = some k) w2 w3 := ((Only.refl _ w2).drew.grown hgrow fun k _ hk => hk)
  have hT1 : Only (Turns q z) w2 w3 := hO1.mono (fun k _ e => .inr (.inr (Option.some.inj e).symm))
  have hO2 : Only (Turns q z) w2 (w3.setCell ⟨z.g, 0, none⟩ (.slice (some ⟨d', 0, none⟩) (z.l.length + M) c1)) := hT1.setCell (p := ⟨z.g, 0, none⟩) (fun _ => .inr (.inl rfl)) _
  have hzd : some z.d ≠ some z.g := fun e => hpc.far hpc.blk (by decide) (Option.some.inj e)
  have hdg : d' ≠ z.g := by
    have h3 := hO1.blk hpc.blk (fun e => hzd e)
    intro e
    exact own_len_ne hown h3 (by decide) (by simp [Value.ownBlock, e])
  have hdn : d' = z.d ∨ w2.heap.size ≤ d' := by
    rcases hnext with e | ⟨j, e, hj⟩
    · simp [Value.ownBlock] at e; exact .inl e
    · simp [Value.ownBlock] at e; subst e; exact .inr hj
  have hqd : some z.d ≠ some q := fun e => hpc.far hq.blk (by decide) (Option.some.inj e)
  have hbq := (hO1.blk hq.blk (fun e => hqd e)).set_far hqz 0 (.slice (some ⟨d', 0, none⟩) (z.l.length + M) c1)
  have hbz := (hO1.blk hpc.blk (fun e => hzd e)).set_ 0 (.slice (some ⟨d', 0, none⟩) (z.l.length + M) c1)
  have hown' := (Only.own (S := fun k => k = z.g) ((Only.refl (fun k => k = z.g) w3).setCell (p := ⟨z.g, 0, none⟩) (fun _ => rfl) (.slice (some ⟨d', 0, none⟩) (z.l.length + M) c1)) hown (fun k e => by simp [Value.ownBlock] at e; subst e; exact hdg))
  have hp2 : PcAt B (w3.setCell ⟨z.g, 0, none⟩ (.slice (some ⟨d', 0, none⟩) (z.l.length + M) c1)) ⟨z.g, d', c1, z.l ++ (l.drop k).take M⟩ (hd [] none) := by
    refine ⟨?_, ?_, hpc.base, ?_⟩
    · simp only [hlen]; exact hbz
    · simp only [hlen]; exact hown'
    · simp only [hlen]; omega
  have hQ := hq.turned hO2 hp2 rfl hdn hbq (fun e => absurd rfl e)
  have hTF : ∀ k, Turns q z k → QFoot q (xs ++ [z]) k := by
    rintro k (e | e | e)
    · exact .inl e
    · exact .inr ⟨z, by simp, .inl e⟩
    · exact .inr ⟨z, by simp, .inr e⟩
  refine ⟨_, hQ, ?_, h.p.only.trans hO2 (fun i hi e => ?_), ?_, hb, hf⟩
  · have hc := h.p.cat_
    rw [cat_append, cat_one] at hc ⊢
    rw [← List.append_assoc, hc, List.append_assoc, List.take_add]
  · rcases h.p.next i (hTF i e) with h | h
    · exact h
    · omega
  · intro j hj
    have hsz := h.p.only.size
    have hold : QFoot q (xs ++ [z]) j ∨ w.heap.size ≤ j := by
      rcases hj with hj | ⟨r, hr, hj⟩
      · exact .inl (.inl hj)
      · rcases List.mem_append.1 hr with hr | hr
        · exact .inl (.inr ⟨r, by simp [hr], hj⟩)
        · simp at hr; subst hr
          rcases hj with hj | hj
          · exact .inl (.inr ⟨z, by simp, .inl hj⟩)
          · rcases hdn with e | e
            · exact .inl (.inr ⟨z, by simp, .inr (by rw [hj]; exact e)⟩)
            · right; rw [hj]; simp only; omega
    rcases hold with h1 | h1
    · exact h.p.next j h1
    · exact .inr h1

theorem Bytes.dropIf {w : World} {b off len cap : Nat} {l : List UInt8} (h : Bytes w (some ⟨b, off, none⟩) len cap l) (k : Nat) (hk : k ≤ len) : Bytes w (if cap = k then some ⟨b, off, none⟩ else some ⟨b, off + k, none⟩) (len - k) (cap - k) (l.drop k) := by
  split
  · have := h.le_cap
    have h2 := h.drop k hk
    exact ⟨h2.1, h2.2, h2.3, (fun e => by cases e), .inl (by omega)⟩
  · exact h.drop k hk
theorem farIf {b off k cap : Nat} {P : Nat → Prop} (h : ¬ P b) : ∀ b1 off1, (if cap = k then some (⟨b, off, none⟩ : Addr) else some ⟨b, off + k, none⟩) = some ⟨b1, off1, none⟩ → ¬ P b1 := by
  intro b1 off1 e
  split at e <;> (simp at e; obtain ⟨rfl, _⟩ := e; exact h)

set_option maxRecDepth 100000 in
set_option maxHeartbeats 4000000 in
theorem push_any (B q n : Nat) (ps : List Pc) (w : World) (h : QAt B w q ps n) (a : Option Addr) (len cap : Nat) (l : List UInt8) (hb : Bytes w a len cap l) (hfar : ∀ b off, a = some ⟨b, off, none⟩ → ¬ QFoot q ps b) (hn : n ≤ 100000000000) (hl : len ≤ 100000000000) :
    Calls Tryz.prog 26 #[.pointer (some ⟨q, 0, none⟩), .slice a len cap] w fun e w' => e = .returned (.tuple #[]) ∧ ∃ ps', QAt B w' q ps' (n + len) ∧ cat ps' = cat ps ++ l ∧ Only (QFoot q ps) w w' ∧ ∀ j, QFoot q ps' j → QFoot q ps j ∨ w.heap.size ≤ j := by
  have hq2 := h.blk.cell 2
  have hf2 := h.blk.frozen 2
  simp only [List.getElem?_toArray, List.getElem?_cons_zero, List.getElem?_cons_succ] at hq2
  have hP0 : Pushes B q (n + len) ps w l 0 (w.setCell ⟨q, 2, none⟩ (.int .i64 ((n : Int) + (len : Int)))) ps a len cap := by
    have hO : Only (fun k => k = q) w (w.setCell ⟨q, 2, none⟩ (.int .i64 ((n : Int) + (len : Int)))) := (Only.refl (fun k => k = q) w).setCell (p := ⟨q, 2, none⟩) (fun _ => rfl) _
    refine ⟨⟨h.blk.set_ 2 _, Chain.only hO h.chain (fun k hk e => h.far (e ▸ hk)), h.apart, h.full, h.base⟩, by simp, hO.mono (fun k _ e => .inl e), fun j hj => .inl hj, hb, hfar⟩
  have HP0 := Lib.hid hP0
  have HL := Lib.hid hb.len_eq
  clear h hb hfar hP0
  go_enter Tryz.func26, Tryz.ntmps26
  go_wp2_with fail
  generalize w.setCell ⟨q, 2, none⟩ (.int .i64 ((n : Int) + (len : Int))) = w1 at *
  clear hq2 hf2
  go_loopw [1] (fun sb wr => ∃ (k : Nat) (ps' : List Pc) (a' : Option Addr) (len' cap' : Nat), sb = .slice a' len' cap' ∧ len' ≤ 100000000000 ∧ Hid (Pushes B q (n + len) ps w l k wr ps' a' len' cap')) (fun sb _ => match sb with | .slice _ n _ => n | _ => 0)
  case atStart => exact ⟨0, ps, a, len, cap, rfl, hl, HP0⟩
  case round =>
    clear HP0
    obtain ⟨k, ps', a', len', cap', rfl, hl', HP⟩ := hrel
    by_cases h0 : 0 < len'
    · have h0i : (0 : Int) < (len' : Int) := by omega
      obtain ⟨b', off', rfl⟩ := HP.out.bytes.some_ h0
      have hways : ps' = [] ∨ (∃ xs z, ps' = xs ++ [z] ∧ z.l.length = 64) ∨ (∃ xs z, ps' = xs ++ [z] ∧ z.l.length < 64) := by
        rcases List.eq_nil_or_concat ps' with h | ⟨xs, z, h⟩
        · exact .inl h
        · rw [List.concat_eq_append] at h
          subst h
          have := (Chain.append.1 HP.out.at_.chain).2.1.most
          by_cases h : z.l.length = 64
          · exact .inr (.inl ⟨xs, z, rfl, h⟩)
          · exact .inr (.inr ⟨xs, z, rfl, by omega⟩)
      rcases hways with rfl | ⟨xs, z, rfl, hz⟩ | ⟨ys, y, rfl, hz⟩
      case' inl =>
        have hq1 := HP.out.at_.blk.cell 1
        simp only [List.getElem?_toArray, List.getElem?_cons_zero, List.getElem?_cons_succ, List.getLast?_nil, Option.map_none] at hq1
        go_wp2_with fail
        refine (extend_any B q (n + len) _ wr HP.out.at_ (by simp)).mono ?_
        intro e w2 he
        obtain ⟨rfl, ys, y, hr⟩ := HP.out.extended he
        have HR := Lib.hid hr
        clear he hr hq1 HP
        have hroom := HR.out.room
        have hq1 := HR.out.p.at_.blk.cell 1
        have hz0 := (Chain.append.1 HR.out.p.at_.chain).2.1.blk.cell 0
        simp only [List.getElem?_toArray, List.getElem?_cons_zero, List.getElem?_cons_succ, (hd_getLast ys y y).2.1, Option.map_some] at hq1 hz0
        go_wp2_with fail
      case' inr.inl =>
        have hq1 := HP.out.at_.blk.cell 1
        have hz0 := (Chain.append.1 HP.out.at_.chain).2.1.blk.cell 0
        simp only [List.getElem?_toArray, List.getElem?_cons_zero, List.getElem?_cons_succ, (hd_getLast xs z z).2.1, Option.map_some, hz] at hq1 hz0
        have HZ := Lib.hid hz
        clear hz
        go_wp2_with fail
        refine (extend_any B q (n + len) _ wr HP.out.at_ (fun p hp => by have := HZ.out; simp at hp; subst hp; intro e; rw [e] at this; simp at this)).mono ?_
        intro e w2 he
        obtain ⟨rfl, ys, y, hr⟩ := HP.out.extended he
        have HR := Lib.hid hr
        clear he hr hq1 hz0 HP HZ
        have hroom := HR.out.room
        have hq1 := HR.out.p.at_.blk.cell 1
        have hz0 := (Chain.append.1 HR.out.p.at_.chain).2.1.blk.cell 0
        simp only [List.getElem?_toArray, List.getElem?_cons_zero, List.getElem?_cons_succ, (hd_getLast ys y y).2.1, Option.map_some] at hq1 hz0
        go_wp2_with fail
      case' inr.inr =>
        obtain ⟨w2, rfl⟩ : ∃ w2, w2 = wr := ⟨_, rfl⟩
        have HR : Hid (Roomy B q (n + len) ps w l k w2 ys y (some ⟨b', off', none⟩) len' cap') := Lib.hid ⟨HP.out, hz⟩
        have hzi : ((y.l.length : Int) == 64) = false := by simp; omega
        clear HP hz
        have hroom := HR.out.room
        have hq1 := HR.out.p.at_.blk.cell 1
        have hz0 := (Chain.append.1 HR.out.p.at_.chain).2.1.blk.cell 0
        simp only [List.getElem?_toArray, List.getElem?_cons_zero, List.getElem?_cons_succ, (hd_getLast ys y y).2.1, Option.map_some] at hq1 hz0
        go_wp2_with fail
        clear hzi
      all_goals
        have hzf := (Chain.append.1 HR.out.p.at_.chain).2.1.blk.frozen 0
        have hM : ∃ M : Nat, 0 < M ∧ M ≤ len' ∧ y.l.length + M ≤ 64 ∧ ((M : Int) = (len' : Int) ∧ (len' : Int) ≤ 64 - (y.l.length : Int) ∨ (M : Int) = 64 - (y.l.length : Int) ∧ 64 - (y.l.length : Int) < (len' : Int)) := by
          first
            | exact ⟨len', by omega, by omega, by omega, .inl ⟨rfl, by omega⟩⟩
            | exact ⟨64 - y.l.length, by omega, by omega, by omega, .inr ⟨by omega, by omega⟩⟩
        obtain ⟨M, hM0, hM1, hM2, hM3⟩ := hM
        first
          | (have e : (M : Int) = 64 - (y.l.length : Int) := by omega
             rw [← e]
             clear e)
          | (have e : (M : Int) = (len' : Int) := by omega
             rw [← e]
             clear e)
        clear hM3 h
        have hMc : M ≤ cap' := by have := HR.out.p.bytes.le_cap; omega
        have hpc := (Chain.append.1 HR.out.p.at_.chain).2.1
        have hown := hpc.own
        have hbq := HR.out.p.at_.blk
        rw [(hd_getLast ys y y).2.1, Option.map_some] at hbq
        have hbg := hpc.blk
        have hnq : some q ≠ some y.d := fun e => hpc.far hbq (by decide) (Option.some.inj e).symm
        have hng : some y.g ≠ some y.d := fun e => hpc.far hbg (by decide) (Option.some.inj e).symm
        have hsrc := HR.out.p.bytesAt.take M hM1
        have hBs : B ≤ w2.heap.size := by have := hpc.base; have := hpc.blk.lt; omega
        clear hpc
        obtain ⟨lm, hlm⟩ : ∃ lm, lm = (l.drop k).take M := ⟨_, rfl⟩
        rw [← hlm] at hsrc
        have HLM := Lib.hid hlm
        clear hlm
        go_region_law
          ((refine step_append_lie (by rfl) _ _ _ (by rfl) B 5 Tryz.underlying22 info5 (.slice (some ⟨y.d, 0, none⟩) y.l.length y.c) y.l (by rfl) (hown.below (Nat.le_refl _) (Below.refl _ w2).drew) (some ⟨b', off', none⟩) M cap' lm (by rfl) (hsrc.below (Nat.le_refl _) (Below.refl _ w2).drew) (by omega) hBs ?_; intro a1 c1 w3 hown1 hgrow hnext; have hb2 := hbq.drew.grown hgrow hnq; have hb3 := hbg.drew.grown hgrow hng; have e0 : w3.cell? ⟨q, 1, none⟩ = some (.pointer (some ⟨y.g, 0, none⟩)) := hb2.cell 1; have e1 : w3.cell? ⟨y.g, 0, none⟩ = some (.slice (some ⟨y.d, 0, none⟩) y.l.length y.c) := hb3.cell 0; have f1 := hb3.frozen 0))
        all_goals
          have HX := Lib.hid (push_step HR.out hM0 hM1 hM2 (by rw [← HLM.out]; exact hown1) hgrow hnext)
          have HXX := HX.out _ _ _ (by rw [← List.drop_drop]; exact Bytes.dropIf HR.out.p.bytes M hM1) (farIf (HR.out.p.far b' off' rfl))
          obtain ⟨ps2, hp2⟩ := HXX
          have HP2 := Lib.hid hp2
          generalize w3.setCell ⟨y.g, 0, none⟩ (.slice a1 (y.l.length + M) c1) = w4 at *
          clear HX hp2 hown1 hgrow hnext hb2 hb3 e0 e1 f1 hown hbq hbg hnq hng hsrc hq1 hz0 hzf
          go_wp2_with fail
          go_roundw
          case rel => exact ⟨k + M, ps2, _, _, _, rfl, by omega, HP2⟩
          case measure => simp; omega
    · obtain rfl : len' = 0 := by omega
      go_wp2_with fail
      go_end0
      have hcat := HP.out.cat_
      have hbl := HP.out.bytes.len_eq
      rw [List.take_of_length_le (by simp at hbl; omega)] at hcat
      exact ⟨rfl, ps', HP.out.at_, hcat, HP.out.only, HP.out.next⟩
end Go.Proofs.YtjejlhpnhkacmaaGreatDoor.FeedC
end

section
namespace Go.Proofs.YtjejlhpnhkacmaaGreatDoor.FeedC
open Go.RowKit Go.My BitMath RefC

/-- What the loop of drop keeps. -/
structure Drops (B q n : Nat) (ps0 : List Pc) (w : World) (m k : Nat) (wr : World) (p : Pc) (t : List Pc) : Prop where
  at_ : QAt B wr q (p :: t) n
  le : k ≤ (cat (p :: t)).length
  cat_ : (cat (p :: t)).drop k = (cat ps0).drop m
  only : Only (QFoot q ps0) w wr
  sub : ∀ j, QFoot q (p :: t) j → QFoot q ps0 j

theorem full_pos {p : Pc} {t : List Pc} (h : Full (p :: t)) (ht : t ≠ []) : 0 < p.l.length := by
  have := h p (by cases t with | nil => exact absurd rfl ht | cons y t => simp)
  exact List.length_pos_iff.2 this

theorem Drops.next {B q n : Nat} {ps0 : List Pc} {w : World} {m k : Nat} {wr : World} {p y : Pc} {t : List Pc} (h : Drops B q n ps0 w m k wr p (y :: t)) (hk : p.l.length ≤ k) :
    Drops B q n ps0 w m (k - p.l.length) (wr.setCell ⟨q, 0, none⟩ (.pointer (some ⟨y.g, 0, none⟩))) y t := by
  have hO : Only (fun k => k = q) wr (wr.setCell ⟨q, 0, none⟩ (.pointer (some ⟨y.g, 0, none⟩))) := (Only.refl (fun k => k = q) wr).setCell (p := ⟨q, 0, none⟩) (fun _ => rfl) _
  have hle := h.le
  have hcat := h.cat_
  rw [cat_cons, List.length_append] at hle
  rw [cat_cons, List.drop_append, List.drop_of_length_le hk, List.nil_append] at hcat
  refine ⟨⟨?_, Chain.only hO h.at_.chain.2 (fun k hk e => h.at_.far (e ▸ (let ⟨r, hr, hj⟩ := hk; ⟨r, by simp [hr], hj⟩))), ?_, ?_, h.at_.base⟩, by omega, hcat, ?_, ?_⟩
  · have hb := h.at_.blk.set_ 0 (.pointer (some ⟨y.g, 0, none⟩))
    have e : (p :: y :: t).getLast? = (y :: t).getLast? := by simp
    rw [e] at hb
    exact hb
  · have ha := h.at_.apart
    unfold Apart at ha ⊢
    simp only [List.map_cons, List.nodup_cons] at ha ⊢
    exact ⟨ha.1.2, ha.2.2⟩
  · intro r hr
    exact h.at_.full r (by rw [List.dropLast_cons_cons]; exact List.mem_cons_of_mem _ hr)
  · exact h.only.trans hO (fun i _ e => by subst e; exact h.sub _ (.inl rfl))
  · rintro j (hj | ⟨r, hr, hj⟩)
    · exact h.sub j (.inl hj)
    · exact h.sub j (.inr ⟨r, by simp [hr], hj⟩)

/-- The end of drop: the first piece is cut by k. -/
theorem drop_end {B q n : Nat} {ps0 : List Pc} {w : World} {m k : Nat} {wr w3 : World} {p : Pc} {t : List Pc} (h : Drops B q n ps0 w m k wr p t) (hk : k ≤ p.l.length) (hf : t ≠ [] → k < p.l.length)
    (hO : Only (fun j => p.d = j) wr w3) (hown : Own 5 B w3 (.slice (some ⟨p.d, 0, none⟩) (p.l.length - k) p.c) (p.l.drop k)) :
    ∃ ps', ps' ≠ [] ∧ QAt B (w3.setCell ⟨p.g, 0, none⟩ (.slice (some ⟨p.d, 0, none⟩) (p.l.length - k) p.c)) q ps' n ∧ cat ps' = (cat ps0).drop m ∧ Only (QFoot q ps0) w (w3.setCell ⟨p.g, 0, none⟩ (.slice (some ⟨p.d, 0, none⟩) (p.l.length - k) p.c)) ∧ ∀ j, QFoot q ps' j → QFoot q ps0 j := by
  have hpc := h.at_.chain.1
  have hlen : (p.l.drop k).length = p.l.length - k := by simp
  have hdg : p.d ≠ p.g := hpc.far hpc.blk (by decide)
  have hdq : p.d ≠ q := hpc.far h.at_.blk (by decide)
  have hgq : p.g ≠ q := Blk.ne hpc.blk h.at_.blk (by decide)
  have hT : Only (Turns q p) wr (w3.setCell ⟨p.g, 0, none⟩ (.slice (some ⟨p.d, 0, none⟩) (p.l.length - k) p.c)) :=
    (hO.mono (fun j _ e => .inr (.inr e.symm))).setCell (p := ⟨p.g, 0, none⟩) (fun _ => .inr (.inl rfl)) _
  have hbq := (hO.blk h.at_.blk hdq).set_far hgq 0 (.slice (some ⟨p.d, 0, none⟩) (p.l.length - k) p.c)
  have hbz := (hO.blk hpc.blk hdg).set_ 0 (.slice (some ⟨p.d, 0, none⟩) (p.l.length - k) p.c)
  have hown' := (Only.own (S := fun j => j = p.g) ((Only.refl (fun j => j = p.g) w3).setCell (p := ⟨p.g, 0, none⟩) (fun _ => rfl) (.slice (some ⟨p.d, 0, none⟩) (p.l.length - k) p.c)) hown (fun j e => by simp [Value.ownBlock] at e; subst e; exact hdg))
  have hp2 : PcAt B (w3.setCell ⟨p.g, 0, none⟩ (.slice (some ⟨p.d, 0, none⟩) (p.l.length - k) p.c)) ⟨p.g, p.d, p.c, p.l.drop k⟩ (hd t none) := by
    refine ⟨?_, ?_, hpc.base, ?_⟩
    · simp only [hlen]; exact hbz
    · simp only [hlen]; exact hown'
    · simp only [hlen]; have := hpc.most; omega
  have hQ := QAt.turned (xs := []) h.at_ hT hp2 rfl (.inl rfl) hbq (fun ht e => by have := hf ht; simp only at e; rw [e] at hlen; simp at hlen; omega)
  refine ⟨_, by simp, hQ, ?_, h.only.trans hT (fun i _ e => ?_), ?_⟩
  · have hc := h.cat_
    rw [cat_cons, List.drop_append, show k - p.l.length = 0 from by omega, List.drop_zero] at hc
    exact hc
  · rcases e with e | e | e
    · exact h.sub i (.inl e)
    · exact h.sub i (.inr ⟨p, by simp, .inl e⟩)
    · exact h.sub i (.inr ⟨p, by simp, .inr e⟩)
  · rintro j (hj | ⟨r, hr, hj⟩)
    · exact h.sub j (.inl hj)
    · rcases List.mem_cons.1 hr with rfl | hr
      · exact h.sub j (.inr ⟨p, by simp, hj⟩)
      · exact h.sub j (.inr ⟨r, by simp [hr], hj⟩)

theorem Only.of_drew {S : Nat → Prop} {a b : World} (h : Only S a.drew b) : Only S a b := ⟨h.os, h.tape, h.output, h.size, h.block⟩
theorem sz5 : (Tryz.prog.info? 5).map (·.size) = some 1 := by kernel_rfl

set_option maxRecDepth 100000 in
set_option maxHeartbeats 4000000 in
theorem drop_any (B q n m : Nat) (p0 : Pc) (t0 : List Pc) (w : World) (h : QAt B w q (p0 :: t0) n) (hm : m ≤ (cat (p0 :: t0)).length) (hmn : m ≤ n) (hn : n ≤ 100000000000) :
    Calls Tryz.prog 42 #[.pointer (some ⟨q, 0, none⟩), .int .i64 (m : Int)] w fun e w' => e = .returned (.tuple #[]) ∧ ∃ ps', ps' ≠ [] ∧ QAt B w' q ps' (n - m) ∧ cat ps' = (cat (p0 :: t0)).drop m ∧ Only (QFoot q (p0 :: t0)) w w' ∧ ∀ j, QFoot q ps' j → QFoot q (p0 :: t0) j := by
  have hq2 := h.blk.cell 2
  have hf2 := h.blk.frozen 2
  simp only [List.getElem?_toArray, List.getElem?_cons_zero, List.getElem?_cons_succ] at hq2
  have hD0 : Drops B q (n - m) (p0 :: t0) w m m (w.setCell ⟨q, 2, none⟩ (.int .i64 ((n : Int) - (m : Int)))) p0 t0 := by
    have hO : Only (fun k => k = q) w (w.setCell ⟨q, 2, none⟩ (.int .i64 ((n : Int) - (m : Int)))) := (Only.refl (fun k => k = q) w).setCell (p := ⟨q, 2, none⟩) (fun _ => rfl) _
    refine ⟨⟨?_, Chain.only hO h.chain (fun k hk e => h.far (e ▸ hk)), h.apart, h.full, h.base⟩, hm, rfl, hO.mono (fun k _ e => .inl e), fun j hj => hj⟩
    rw [show ((n - m : Nat) : Int) = (n : Int) - (m : Int) from by omega]
    exact h.blk.set_ 2 _
  have HD0 := Lib.hid hD0
  have hmi : (m : Int) ≤ (n : Int) := by omega
  clear h hD0 hm hmn
  go_enter Tryz.func42, Tryz.ntmps42
  go_wp2_with fail
  generalize w.setCell ⟨q, 2, none⟩ (.int .i64 ((n : Int) - (m : Int))) = w1 at *
  clear hq2 hf2
  go_loopw [1] (fun i wr => ∃ (k : Nat) (p : Pc) (t : List Pc), i = .int .i64 (k : Int) ∧ k ≤ m ∧ Hid (Drops B q (n - m) (p0 :: t0) w m k wr p t)) (fun i _ => (intOf i).toNat)
  case atStart => exact ⟨m, p0, t0, rfl, Nat.le_refl _, HD0⟩
  case round =>
    clear HD0
    obtain ⟨k, p, t, rfl, hkm, HD⟩ := hrel
    have hq0 := HD.out.at_.blk.cell 0
    have hqf := HD.out.at_.blk.frozen 0
    have hz0 := HD.out.at_.chain.1.blk.cell 0
    have hz1 := HD.out.at_.chain.1.blk.cell 1
    simp only [List.getElem?_toArray, List.getElem?_cons_zero, List.getElem?_cons_succ, hd] at hq0 hz0 hz1
    by_cases hlt : k < p.l.length
    case' pos =>
      have hdec : ¬ p.l.length ≤ k := by omega
      have HF : Hid (t ≠ [] → k < p.l.length) := Lib.hid (fun _ => hlt)
      have hkl : k ≤ p.l.length := by omega
      clear hlt
      go_wp2_with fail
    case' neg =>
      rcases t with _ | ⟨y, t⟩
      case' nil =>
        have hle := HD.out.le
        rw [cat_one] at hle
        have hkl : k ≤ p.l.length := hle
        have HF : Hid (([] : List Pc) ≠ [] → k < p.l.length) := Lib.hid (fun h => absurd rfl h)
        simp only at hz1
        have hdec : p.l.length ≤ k := by omega
        clear hlt hle
        go_wp2_with fail
      case' cons =>
        have hpos := full_pos HD.out.at_.full (by simp)
        have HD2 := Lib.hid (HD.out.next (by omega))
        simp only at hz1
        have hdec : p.l.length ≤ k := by omega
        have hle : (p.l.length : Int) ≤ (k : Int) := by omega
        go_wp2_with fail
        go_roundw
        case rel => exact ⟨k - p.l.length, y, t, by rw [show ((k - p.l.length : Nat) : Int) = (k : Int) - (p.l.length : Int) from by omega], by omega, HD2⟩
        case measure => simp [intOf]; omega
    all_goals
      have hown := HD.out.at_.chain.1.own
      have hbg := HD.out.at_.chain.1.blk
      have hzf := hbg.frozen 0
      have hdg : p.d ≠ p.g := HD.out.at_.chain.1.far hbg (by decide)
      have hlc : p.l.length ≤ p.c := by obtain ⟨_, _, e, hb⟩ := hown.bytes; simp only [Value.slice.injEq] at e; obtain ⟨_, _, rfl⟩ := e; exact hb.le_cap
      have hkc : k ≤ p.c := by omega
      obtain ⟨N, hN⟩ : ∃ N, N = p.l.length - k := ⟨_, rfl⟩
      have hNc : N ≤ p.c := by omega
      have HN := Lib.hid hN
      clear hN
      go_region_law
        ((refine step_copy_front (by rfl) _ _ _ (by rfl) 5 Tryz.underlying22 sz5 B p.d p.c p.l.length p.l (hown.below (Nat.le_refl _) (Below.refl _ wr).drew) rfl k hkl _ _ _ ?_ N ?_ (by rfl) (by rfl) ?_ ?_; (first | rfl | omega); (first | exact HN.out.symm | (rw [HN.out]; omega)); (intro hn0; rw [if_neg (by omega)]); intro w3 hO3 hown3; have e1 : w3.cell? ⟨p.g, 0, none⟩ = some (.slice (some ⟨p.d, 0, none⟩) p.l.length p.c) := (hO3.blk hbg.drew hdg).cell 0; have f1 := (hO3.blk hbg.drew hdg).frozen 0))
      all_goals
        rw [HN.out] at hown3
        have HE := Lib.hid (drop_end HD.out hkl HF.out (Only.of_drew hO3) hown3)
        rw [← HN.out] at HE
        clear hown3 hO3 e1 f1
        go_end0
        exact ⟨rfl, HE.out⟩
end Go.Proofs.YtjejlhpnhkacmaaGreatDoor.FeedC
end

section
namespace Go.Proofs.YtjejlhpnhkacmaaGreatDoor.FeedC
open Go.RowKit Go.My BitMath RefC

/-- A Feed: its block, its queue's, the pieces; the word, how many bits it has, how many bytes were pushed. -/
structure FAt (B : Nat) (w : World) (f q : Nat) (ps : List Pc) (word count pushed : Nat) (ended : Bool) : Prop where
  blk : Blk w f 75 #[.int .u64 (word : Int), .int .i64 (count : Int), .pointer (some ⟨q, 0, none⟩), .int .i64 (pushed : Int), .bool ended]
  que : QAt B w q ps (cat ps).length
  base : B ≤ f
  small : word < 2 ^ count
  most : count ≤ 64

/-- All blocks of a Feed. -/
def FFoot (f q : Nat) (ps : List Pc) : Nat → Prop := fun k => k = f ∨ QFoot q ps k

theorem FAt.far {B : Nat} {w : World} {f q : Nat} {ps : List Pc} {word count pushed : Nat} {ended : Bool} (h : FAt B w f q ps word count pushed ended) : ¬ QFoot q ps f := by
  rintro (e | e)
  · exact Blk.ne h.blk h.que.blk (by decide) e
  · exact Chain.far h.blk (by decide) (by decide) h.que.chain e
theorem FAt.lt {B : Nat} {w : World} {f q : Nat} {ps : List Pc} {word count pushed : Nat} {ended : Bool} (h : FAt B w f q ps word count pushed ended) : ∀ k, FFoot f q ps k → B ≤ k ∧ k < w.heap.size := by
  rintro k (rfl | hk)
  · exact ⟨h.base, h.blk.lt⟩
  · exact h.que.lt k hk
theorem FAt.only {B : Nat} {w w' : World} {f q : Nat} {ps : List Pc} {word count pushed : Nat} {ended : Bool} {S : Nat → Prop} (h : FAt B w f q ps word count pushed ended) (hk : Only S w w') (hs : ∀ k, FFoot f q ps k → ¬ S k) : FAt B w' f q ps word count pushed ended :=
  ⟨hk.blk h.blk (hs _ (.inl rfl)), h.que.only hk (hs _ (.inr (.inl rfl))) (fun k hk => hs k (.inr (.inr hk))), h.base, h.small, h.most⟩
theorem FAt.word_lt {B : Nat} {w : World} {f q : Nat} {ps : List Pc} {word count pushed : Nat} {ended : Bool} (h : FAt B w f q ps word count pushed ended) : word < 18446744073709551616 :=
  Nat.lt_of_lt_of_le h.small (by rw [show 18446744073709551616 = 2 ^ 64 from rfl]; exact Nat.pow_le_pow_right (by omega) h.most)

/-- The bits that are there. -/
def bits' (word count : Nat) (ps : List Pc) : List Bool := lows count word ++ bitsOf (cat ps)

theorem byte_in {word C : Nat} (c : UInt8) (hw : word < 2 ^ C) (h8 : C ≤ 56) :
    IntKind.u64.wrap (c.toNat : Int) = (c.toNat : Int) ∧ IntKind.u64.wrap ((c.toNat : Int) * 2 ^ C) = (c.toNat : Int) * 2 ^ C ∧ bits .or .u64 (word : Int) ((c.toNat : Int) * 2 ^ C) = ((word + 2 ^ C * c.toNat : Nat) : Int) ∧ word + 2 ^ C * c.toNat < 2 ^ (C + 8) ∧ lows (C + 8) (word + 2 ^ C * c.toNat) = lows C word ++ lows 8 c.toNat := by
  have hb := c.toNat_lt
  generalize c.toNat = b at hb
  have h56 : 2 ^ C ≤ 2 ^ 56 := Nat.pow_le_pow_right (by omega) (by omega)
  have hm : b * 2 ^ C ≤ 255 * 2 ^ C := Nat.mul_le_mul_right _ (by omega)
  have e : (b : Int) * 2 ^ C = ((b * 2 ^ C : Nat) : Int) := by push_cast; rfl
  refine ⟨IntWalk.u64_in _ (by omega), ?_, ?_, ?_, lows_join C 8 word b hw⟩
  · rw [e, IntWalk.u64_in _ (by omega)]
  · rw [e, u64_or_nat _ _ (by omega) (by omega), or_join C word b hw]
  · rw [Nat.pow_add, Nat.mul_comm (2 ^ C) b]
    omega

/-- What the inner loop of fill keeps: j bytes have gone into the word. -/
structure Fills (w : World) (f q pushed : Nat) (ended : Bool) (word count : Nat) (l : List UInt8) (j : Nat) (wr : World) (W C : Nat) : Prop where
  blk : Blk wr f 75 #[.int .u64 (W : Int), .int .i64 (C : Int), .pointer (some ⟨q, 0, none⟩), .int .i64 (pushed : Int), .bool ended]
  only : Only (fun k => k = f) w wr
  small : W < 2 ^ C
  cnt : C = count + 8 * j
  eq : lows C W = lows count word ++ bitsOf (l.take j)

theorem fills_step {w : World} {f q pushed : Nat} {ended : Bool} {word count : Nat} {l : List UInt8} {j : Nat} {wr : World} {W C : Nat} (h : Fills w f q pushed ended word count l j wr W C) (hj : j < l.length) (h8 : C ≤ 56) (w2 : World) (hw2 : Only (fun k => k = f) wr w2)
    (hb : Blk w2 f 75 #[.int .u64 ((W + 2 ^ C * l[j].toNat : Nat) : Int), .int .i64 ((C + 8 : Nat) : Int), .pointer (some ⟨q, 0, none⟩), .int .i64 (pushed : Int), .bool ended]) :
    Fills w f q pushed ended word count l (j + 1) w2 (W + 2 ^ C * l[j].toNat) (C + 8) := by
  obtain ⟨_, _, _, p4, p5⟩ := byte_in l[j] h.small h8
  refine ⟨hb, h.only.trans hw2 (fun i _ e => e), p4, by have := h.cnt; omega, ?_⟩
  rw [p5, h.eq, List.take_succ_eq_append_getElem hj, bitsOf_append, bitsOf_one, List.append_assoc]

/-- What fill keeps and leaves. -/
structure Filled (B f q : Nat) (ps : List Pc) (word count pushed : Nat) (ended : Bool) (w wr : World) (ps1 : List Pc) (word1 count1 : Nat) : Prop where
  at_ : FAt B wr f q ps1 word1 count1 pushed ended
  eq : bits' word1 count1 ps1 = bits' word count ps
  only : Only (FFoot f q ps) w wr
  sub : ∀ j, QFoot q ps1 j → QFoot q ps j

def sizeAt (w : World) (q : Nat) : Nat := match w.cell? ⟨q, 2, none⟩ with | some (.int _ n) => n.toNat | _ => 0
theorem sizeAt_of {B : Nat} {w : World} {q n : Nat} {ps : List Pc} (h : QAt B w q ps n) : sizeAt w q = n := by
  have := h.blk.cell 2
  simp only [List.getElem?_toArray, List.getElem?_cons_zero, List.getElem?_cons_succ] at this
  unfold sizeAt
  rw [this]
  simp

theorem fill_step {B f q : Nat} {ps : List Pc} {word count pushed : Nat} {ended : Bool} {w w1 wr w5 : World} {ps1 ps5 : List Pc} {word1 count1 M W C : Nat} {lm : List UInt8} (h : Filled B f q ps word count pushed ended w w1 ps1 word1 count1)
    (hf : Fills w1 f q pushed ended word1 count1 lm M wr W C) (hm : lm.length = M) (h8 : count1 + 8 * M ≤ 64) (hcc : cat ps1 = lm ++ (cat ps1).drop M)
    (hq : QAt B w5 q ps5 ((cat ps1).length - M)) (hc : cat ps5 = (cat ps1).drop M) (ho : Only (QFoot q ps1) wr w5) (hs : ∀ j, QFoot q ps5 j → QFoot q ps1 j) : Filled B f q ps word count pushed ended w w5 ps5 W C := by
  have hfar := h.at_.far
  have hcnt := hf.cnt
  refine ⟨⟨ho.blk hf.blk hfar, ?_, h.at_.base, hf.small, by omega⟩, ?_, ?_, fun j hj => h.sub j (hs j hj)⟩
  · rw [hc, List.length_drop]; exact hq
  · rw [← h.eq]
    unfold bits'
    rw [hf.eq, List.take_of_length_le (by omega), hc, List.append_assoc, ← bitsOf_append, ← hcc]
  · refine h.only.trans ((hf.only.mono (T := FFoot f q ps1) (fun k _ e => .inl e)).trans ho (fun i _ e => .inr e)) ?_
    intro i _ e
    rcases e with e | e
    · exact .inl e
    · exact .inr (h.sub i e)

set_option maxRecDepth 100000 in
set_option maxHeartbeats 4000000 in
theorem fill_any (B f q : Nat) (ps : List Pc) (word count pushed : Nat) (ended : Bool) (w : World) (h : FAt B w f q ps word count pushed ended) (hl : (cat ps).length ≤ 100000000000) :
    Calls Tryz.prog 27 #[.pointer (some ⟨f, 0, none⟩)] w fun e w' => e = .returned (.tuple #[]) ∧ ∃ ps1 word1 count1, Filled B f q ps word count pushed ended w w' ps1 word1 count1 ∧ (32 ≤ count1 ∨ cat ps1 = []) := by
  have HF0 : Hid (Filled B f q ps word count pushed ended w w ps word count) := Lib.hid ⟨h, rfl, Only.refl _ _, fun _ h => h⟩
  clear h
  go_enter Tryz.func27, Tryz.ntmps27
  go_wp2_with fail
  go_loopw [2] (fun _ wr => ∃ (ps1 : List Pc) (word1 count1 : Nat), (cat ps1).length ≤ 100000000000 ∧ Hid (Filled B f q ps word count pushed ended w wr ps1 word1 count1)) (fun _ wr => sizeAt wr q)
  case atStart => exact ⟨ps, word, count, hl, HF0⟩
  case round =>
    clear HF0 hl
    obtain ⟨ps1, word1, count1, hl1, HF⟩ := hrel
    have hc1 := HF.out.at_.blk.cell 1
    have hc2 := HF.out.at_.blk.cell 2
    have hs2 := HF.out.at_.que.blk.cell 2
    simp only [List.getElem?_toArray, List.getElem?_cons_zero, List.getElem?_cons_succ] at hc1 hc2 hs2
    obtain ⟨w1, rfl⟩ : ∃ w1, w1 = wr := ⟨_, rfl⟩
    have hmost := HF.out.at_.most
    by_cases hlt : count1 < 32
    · by_cases hpos : 0 < (cat ps1).length
      · obtain ⟨p, t, rfl⟩ : ∃ p t, ps1 = p :: t := by
          cases ps1 with
          | nil => simp [cat] at hpos
          | cons p t => exact ⟨p, t, rfl⟩
        have hq0 := HF.out.at_.que.blk.cell 0
        have hz0 := HF.out.at_.que.chain.1.blk.cell 0
        simp only [List.getElem?_toArray, List.getElem?_cons_zero, hd] at hq0 hz0
        have hpp : 0 < p.l.length := by
          by_cases ht : t = []
          · subst ht; rw [cat_one] at hpos; exact hpos
          · exact full_pos HF.out.at_.que.full ht
        have hby : Bytes w1 (some ⟨p.d, 0, none⟩) p.l.length p.c p.l := by
          obtain ⟨a, c, e, hb⟩ := HF.out.at_.que.chain.1.own.bytes
          simp only [Value.slice.injEq] at e
          obtain ⟨rfl, -, rfl⟩ := e
          exact hb
        obtain ⟨M, hM0, hM1, hM2, hmin⟩ : ∃ M : Nat, 0 < M ∧ M ≤ p.l.length ∧ count1 + 8 * M ≤ 64 ∧ (if (64 - (count1 : Int)) / 8 < (p.l.length : Int) then (64 - (count1 : Int)) / 8 else (p.l.length : Int)) = (M : Int) := by
          by_cases hm : (64 - (count1 : Int)) / 8 < (p.l.length : Int)
          · exact ⟨(64 - count1) / 8, by omega, by omega, by omega, by rw [if_pos hm]; omega⟩
          · exact ⟨p.l.length, by omega, by omega, by omega, by rw [if_neg hm]⟩
        have hMc : M ≤ p.c := by have := hby.le_cap; omega
        have hlc : p.l.length ≤ 64 := HF.out.at_.que.chain.1.most
        have HBY := Lib.hid (hby.take M hM1)
        have HLT : Hid (M ≤ (cat (p :: t)).length) := Lib.hid (by rw [cat_cons, List.length_append]; omega)
        have hll : (p.l.take M).length = M := by simp; omega
        have HLL := Lib.hid hll
        have hne : p.d ≠ f := HF.out.at_.que.chain.1.far HF.out.at_.blk (by decide)
        have HNE := Lib.hid hne
        have HFI : Hid (Fills w1 f q pushed ended word1 count1 (p.l.take M) 0 w1 word1 count1) := Lib.hid ⟨HF.out.at_.blk, Only.refl _ _, HF.out.at_.small, rfl, by simp [bitsOf]⟩
        have HCC : Hid (cat (p :: t) = p.l.take M ++ (cat (p :: t)).drop M ) := Lib.hid (by
          rw [cat_cons, List.drop_append, show M - p.l.length = 0 from by omega, List.drop_zero, ← List.append_assoc, List.take_append_drop])
        obtain ⟨lm, hlm⟩ : ∃ lm, lm = p.l.take M := ⟨_, rfl⟩
        rw [← hlm] at HBY HLL HFI HCC
        clear hlm hll hne hby
        go_wp2_with fail
        clear hmin hz0 hq0 hc1 hc2 hs2
        go_loopw [43] (fun i wx => ∃ (j W C : Nat), j ≤ M ∧ i = .int .i64 (j : Int) ∧ Hid (Fills w1 f q pushed ended word1 count1 lm j wx W C)) (fun i _ => M - (intOf i).toNat)
        case atStart => exact ⟨0, word1, count1, by omega, rfl, HFI⟩
        case round =>
          clear HFI
          obtain ⟨j, W, C, hj, rfl, HFI⟩ := hrel
          by_cases hjl : j < M
          · have hjs : j < lm.length := by rw [HLL.out]; exact hjl
            have hcell : wr.cell? ⟨p.d, j, none⟩ = some (.int .u8 (lm[j].toNat : Int)) := by
              rcases HBY.out.at_ with h0 | ⟨b, off, hab, hs, hc⟩
              · omega
              · simp only [Option.some.injEq, Addr.mk.injEq, and_true] at hab
                obtain ⟨rfl, rfl⟩ := hab
                rw [HFI.out.only.cell (p := ⟨p.d, j, none⟩) hs HNE.out]
                have := hc j hjs
                rwa [Nat.zero_add] at this
            have hC8 : C ≤ 56 := by have := HFI.out.cnt; omega
            have hst := fun w2 h1 h2 => fills_step HFI.out hjs hC8 w2 h1 h2
            have HST := Lib.hid hst
            obtain ⟨p1, p2, p3, p4, p5⟩ := byte_in lm[j] HFI.out.small hC8
            have hW := HFI.out.small
            have hW2 : W < 18446744073709551616 := Nat.lt_of_lt_of_le hW (by rw [show 18446744073709551616 = 2 ^ 64 from rfl]; exact Nat.pow_le_pow_right (by omega) (by omega))
            have hb0 := HFI.out.blk.cell 0
            have hb1 := HFI.out.blk.cell 1
            have hf0 := HFI.out.blk.frozen 0
            have hf1 := HFI.out.blk.frozen 1
            simp only [List.getElem?_toArray, List.getElem?_cons_zero, List.getElem?_cons_succ] at hb0 hb1
            have hv8 : (lm[j].toNat : Int) < 256 := by have := lm[j].toNat_lt; omega
            clear hst p4 p5 hW
            generalize lm[j].toNat = v at *
            generalize W + 2 ^ C * v = W2 at *
            go_wp2_with fail
            go_still_tail 14, (by kernel_rfl)
            change wpList _ _ _ _ _ wr.drew
            have hc0' : wr.drew.cell? ⟨f, 0, none⟩ = some (.int .u64 (W : Int)) := hb0
            have hc1' : wr.drew.cell? ⟨f, 1, none⟩ = some (.int .i64 (C : Int)) := hb1
            have hf0' : wr.drew.frozen? ⟨f, 0, none⟩ = false := hf0
            have hf1' : wr.drew.frozen? ⟨f, 1, none⟩ = false := hf1
            have hod : Only (fun k => k = f) wr wr.drew := (Only.refl _ wr).drew
            have hbd := HFI.out.blk.drew
            have hend := Lib.hid (HST.out _ ((hod.setCell (p := ⟨f, 0, none⟩) (fun _ => rfl) (.int .u64 (W2 : Int))).setCell (p := ⟨f, 1, none⟩) (fun _ => rfl) (.int .i64 ((C : Int) + 8))) (by
              have hx := (hbd.set_ 0 (.int .u64 (W2 : Int))).set_ 1 (.int .i64 ((C : Int) + 8))
              rw [show ((C + 8 : Nat) : Int) = (C : Int) + 8 from by omega]
              exact hx))
            clear hb0 hb1 hf0 hf1 p1 p2 p3 hcell HST hod hbd
            generalize wr.drew = wd at *
            go_wp2_with fail
            go_roundw
            case rel => exact ⟨j + 1, _, _, by omega, by go_num, hend⟩
            case measure => simp [intOf]; omega
          · obtain rfl : j = M := by omega
            have hc2 := HFI.out.blk.cell 2
            simp only [List.getElem?_toArray, List.getElem?_cons_zero, List.getElem?_cons_succ] at hc2
            have hdr := drop_any B q (cat (p :: t)).length j p t wr (HF.out.at_.que.only HFI.out.only (fun e => HF.out.at_.far (Or.inl e.symm)) (fun k hk e => HF.out.at_.far (Or.inr (e ▸ hk)))) HLT.out HLT.out hl1
            have HDR := Lib.hid hdr
            clear hdr
            go_wp2_with fail
            refine HDR.out.mono ?_
            rintro e w5 ⟨rfl, ps5, hne5, hq5, hcat5, ho5, hsub5⟩
            have hst := fill_step HF.out HFI.out HLL.out hM2 HCC.out hq5 hcat5 ho5 hsub5
            have HST := Lib.hid hst
            have hms : sizeAt w5 q < sizeAt w1 q := by rw [sizeAt_of hq5, sizeAt_of HF.out.at_.que]; omega
            have hl5 : (cat ps5).length ≤ 100000000000 := by rw [hcat5, List.length_drop]; omega
            clear hne5 hq5 hcat5 ho5 hsub5 hst hc2 HFI HDR
            go_wp2_with fail
            go_roundw
            case rel => exact ⟨ps5, _, _, hl5, HST⟩
            case measure => exact hms
      · have hnil : cat ps1 = [] := List.length_eq_zero_iff.1 (by omega)
        have HNIL := Lib.hid hnil
        rw [hnil] at hs2
        clear hnil hpos
        simp only [List.length_nil] at hs2
        go_wp2_with fail
        go_end0
        exact ⟨rfl, ps1, word1, count1, HF.out, .inr HNIL.out⟩
    · have hge : ¬ (count1 : Int) < 32 := by omega
      go_wp2_with fail
      go_end0
      exact ⟨rfl, ps1, word1, count1, HF.out, .inl (by omega)⟩
end Go.Proofs.YtjejlhpnhkacmaaGreatDoor.FeedC
end

section
namespace Go.Proofs.YtjejlhpnhkacmaaGreatDoor.FeedC
open Go.RowKit Go.My BitMath RefC

theorem bitsOf_take (l : List UInt8) (k : Nat) : (bitsOf l).take (8 * k) = bitsOf (l.take k) := by
  by_cases h : k ≤ l.length
  · conv => lhs; rw [← List.take_append_drop k l, bitsOf_append]
    rw [List.take_append_of_le_length (by rw [bitsOf_len, List.length_take]; omega)]
    exact List.take_of_length_le (by rw [bitsOf_len, List.length_take]; omega)
  · rw [List.take_of_length_le (l := l) (by omega)]
    exact List.take_of_length_le (by rw [bitsOf_len]; omega)

/-- The first bytes of a word. -/
def wb (word j : Nat) : List UInt8 := (List.range j).map fun i => UInt8.ofNat (word / 2 ^ (8 * i))
theorem wb_len (word j : Nat) : (wb word j).length = j := by simp [wb]
theorem wb_succ (word j : Nat) : wb word (j + 1) = wb word j ++ [UInt8.ofNat (word / 2 ^ (8 * j))] := by simp [wb, List.range_succ]
theorem wb_bits (word j : Nat) : bitsOf (wb word j) = lows (8 * j) word := by
  induction j with
  | zero => rfl
  | succ j ih =>
    rw [wb_succ, bitsOf_append, ih, bitsOf_one, Nat.mul_add, lows_add]
    congr 1
    rw [UInt8.toNat_ofNat']
    exact lows_mod 8 _

set_option maxRecDepth 100000 in
set_option maxHeartbeats 4000000 in
theorem next_any (B f q : Nat) (ps : List Pc) (word count pushed n : Nat) (ended : Bool) (w : World) (h : FAt B w f q ps word count pushed ended) (h8 : count % 8 = 0) (hn : 8 * n ≤ count + 8 * (cat ps).length) (hl : (cat ps).length ≤ 10000000000) :
    Calls Tryz.prog 77 #[.pointer (some ⟨f, 0, none⟩), .int .i64 (n : Int)] w fun e w' => ∃ v l, e = .returned v ∧ Own 5 w.heap.size w' v l ∧ Below w.heap.size w w' ∧ bitsOf l = (bits' word count ps).take (8 * n) := by
  have HA := Lib.hid h
  have hmo := h.most
  have hwl := h.word_lt
  obtain ⟨K, hK1, hK2, hK3, hmin⟩ : ∃ K : Nat, K ≤ n ∧ 8 * K ≤ count ∧ (n = K ∨ 8 * K = count) ∧ (if (count : Int) / 8 < (n : Int) then (count : Int) / 8 else (n : Int)) = (K : Int) := by
    by_cases hm : (count : Int) / 8 < (n : Int)
    · exact ⟨count / 8, by omega, by omega, by omega, by rw [if_pos hm]; omega⟩
    · exact ⟨n, by omega, by omega, by omega, by rw [if_neg hm]⟩
  have HK := Lib.hid hK3
  have hn2 : n ≤ 10000000008 := by omega
  have hc1 : ∀ w', Below w.heap.size w w' → w'.cell? ⟨f, 1, none⟩ = some (.int .i64 (count : Int)) := fun w' hb => by
    rw [hb.cell (p := ⟨f, 1, none⟩) h.blk.lt]; exact h.blk.cell 1
  have hc0 : ∀ w', Below w.heap.size w w' → w'.cell? ⟨f, 0, none⟩ = some (.int .u64 (word : Int)) := fun w' hb => by
    rw [hb.cell (p := ⟨f, 0, none⟩) h.blk.lt]; exact h.blk.cell 0
  have hc2 : ∀ w', Below w.heap.size w w' → w'.cell? ⟨f, 2, none⟩ = some (.pointer (some ⟨q, 0, none⟩)) := fun w' hb => by
    rw [hb.cell (p := ⟨f, 2, none⟩) h.blk.lt]; exact h.blk.cell 2
  have HC0 := Lib.hid hc0
  have HC1 := Lib.hid hc1
  have HC2 := Lib.hid hc2
  clear h hc0 hc1 hc2 hK3
  go_enter Tryz.func77, Tryz.ntmps77
  go_wp2_with (at_make; refine wpList_make_cap _ rfl _ _ 22 rfl w.heap.size 5 Tryz.underlying22 info5 .i64 .i64 _ n rfl rfl rfl (by omega) (Nat.le_refl _) ?_)
  intro w1 hown hg
  have hb1 := grown_none_below (Below.refl w.heap.size w) hg (Nat.le_refl _)
  have hc1 := HC1.out w1 hb1
  have HO1 : Hid (Own 5 w.heap.size w1 (.slice (some ⟨w.heap.size, 0, none⟩) 0 n) (wb word 0)) := Lib.hid hown
  have HB1 := Lib.hid hb1
  clear hown hg hb1
  go_wp2_with fail
  clear hc1
  generalize hG : w.heap.size = G at *
  go_loopw [5, 16] (fun sb iv wr => ∃ (j : Nat) (a : Option Addr) (cap : Nat), j ≤ K ∧ iv = .int .i64 (j : Int) ∧ sb = .slice a j cap ∧ Hid (Own 5 G wr (.slice a j cap) (wb word j)) ∧ Hid (Below G w wr)) (fun _ iv _ => K - (intOf iv).toNat)
  case atStart => exact ⟨0, _, _, by omega, rfl, rfl, HO1, HB1⟩
  case round =>
    clear HO1 HB1
    obtain ⟨j, a, cap, hj, rfl, rfl, HO, HB⟩ := hrel
    by_cases hlt : j < K
    · have hc0 := HC0.out wr HB.out
      have hcb : (wr.alloc (.cells #[.int .u8 ((word : Int) / 2 ^ (8 * j) % 256)] 5)) = wr.alloc (.cells #[.int .u8 ((UInt8.ofNat (word / 2 ^ (8 * j))).toNat : Int)] 5) := by
        have e : ((word / 2 ^ (8 * j) : Nat) : Int) = (word : Int) / 2 ^ (8 * j) := by push_cast; rfl
        rw [UInt8.toNat_ofNat', ← e]; rfl
      have hnb : Bytes (wr.alloc (.cells #[.int .u8 ((word : Int) / 2 ^ (8 * j) % 256)] 5)) (some ⟨wr.heap.size, 0, none⟩) 1 1 [UInt8.ofNat (word / 2 ^ (8 * j))] := by
        rw [hcb]; exact one_bytes 5 wr _
      have HNB := Lib.hid hnb
      have hGs : G ≤ wr.heap.size := by have := HB.out.size; omega
      have hwl2 := wb_len word j
      clear hcb hnb
      go_wp2_with (at_builtin; refine wpList_append_lie (by rfl) (.tmp 19) (.tmp 28) 22 rfl G 5 Tryz.underlying22 info5 (.slice a j cap) (wb word j) rfl (HO.out.below (Nat.le_refl _) ((Below.refl _ wr).alloc (Nat.le_refl _) _)) (some ⟨wr.heap.size, 0, none⟩) 1 1 [UInt8.ofNat (word / 2 ^ (8 * j))] rfl HNB.out (by omega) (by simp; omega) ?_)
      intro a3 c3 w3 hown hgrow hnext
      have HO3 : Hid (Own 5 G w3 (.slice a3 (j + 1) c3) (wb word (j + 1))) := Lib.hid (by rw [wb_succ]; exact hown)
      have HB3 : Hid (Below G w w3) := Lib.hid ((HB.out.alloc hGs _).grown hgrow (by simp; omega) (fun k hk => (World.ownsRow.lt HO.out k hk).1))
      clear hown hgrow hnext
      clear hwl2 hc0
      go_wp2_with fail
      go_roundw
      case rel => exact ⟨j + 1, a3, c3, by omega, by go_num, rfl, HO3, HB3⟩
      case measure => simp [intOf]; omega
    · obtain rfl : j = K := by omega
      have hc2 := HC2.out wr HB.out
      go_wp2_with fail
      subst hG
      have hq := HA.out.que.below HB.out
      refine (complete_any B q _ w.heap.size n ps wr hq (fun k hk => (HA.out.que.lt k hk).2) HB.out.size a j cap (wb word j) HO.out (wb_len _ _) hK1 (by have := HK.out; omega) (by omega)).mono ?_
      rintro e w5 ⟨v, rfl, hv, hb⟩
      have HV := Lib.hid hv
      have HB5 := Lib.hid (HB.out.trans hb)
      clear hv hb hq
      go_wp2_with fail
      go_ret
      refine ⟨v, _, rfl, HV.out, HB5.out, ?_⟩
      rw [bitsOf_append, wb_bits]
      unfold bits'
      rcases HK.out with e | e
      · subst e
        rw [Nat.sub_self, List.take_zero, bitsOf_nil, List.append_nil, List.take_append_of_le_length (by rw [lows_len]; omega)]
        have e := lows_add (8 * n) (count - 8 * n) word
        rw [show 8 * n + (count - 8 * n) = count from by omega] at e
        rw [e, List.take_append_of_le_length (by rw [lows_len]; omega), List.take_of_length_le (by rw [lows_len]; omega)]
      · rw [e, List.take_append (l₁ := lows count word), lows_len, List.take_of_length_le (l := lows count word) (by rw [lows_len]; omega)]
        congr 1
        rw [show 8 * n - count = 8 * (n - j) from by omega]
        exact (bitsOf_take _ _).symm
end Go.Proofs.YtjejlhpnhkacmaaGreatDoor.FeedC
end

section
namespace Go.Proofs.YtjejlhpnhkacmaaGreatDoor.FeedC
open Go.RowKit Go.My BitMath RefC

theorem bits_len (word count : Nat) (ps : List Pc) : (bits' word count ps).length = count + 8 * (cat ps).length := by
  unfold bits'; rw [List.length_append, lows_len, bitsOf_len]

theorem shift_step {B : Nat} {w : World} {f q : Nat} {ps : List Pc} {word count pushed : Nat} {ended : Bool} (h : FAt B w f q ps word count pushed ended) (m : Nat) (hm : m ≤ count) :
    FAt B ((w.setCell ⟨f, 0, none⟩ (.int .u64 ((word : Int) / 2 ^ m))).setCell ⟨f, 1, none⟩ (.int .i64 ((count : Int) - (m : Int)))) f q ps (word / 2 ^ m) (count - m) pushed ended ∧ bits' (word / 2 ^ m) (count - m) ps = (bits' word count ps).drop m := by
  have hO : Only (fun k => k = f) w ((w.setCell ⟨f, 0, none⟩ (.int .u64 ((word : Int) / 2 ^ m))).setCell ⟨f, 1, none⟩ (.int .i64 ((count : Int) - (m : Int)))) :=
    ((Only.refl (fun k => k = f) w).setCell (p := ⟨f, 0, none⟩) (fun _ => rfl) _).setCell (p := ⟨f, 1, none⟩) (fun _ => rfl) _
  have hb := (h.blk.set_ 0 (.int .u64 ((word : Int) / 2 ^ m))).set_ 1 (.int .i64 ((count : Int) - (m : Int)))
  have hsm := h.small
  have hmo := h.most
  refine ⟨⟨?_, h.que.only hO (fun e => h.far (Or.inl e.symm)) (fun k hk e => h.far (Or.inr (e ▸ hk))), h.base, ?_, by omega⟩, ?_⟩
  · have e1 : ((word / 2 ^ m : Nat) : Int) = (word : Int) / 2 ^ m := by push_cast; rfl
    have e2 : ((count - m : Nat) : Int) = (count : Int) - (m : Int) := by omega
    rw [e1, e2]
    exact hb
  · rw [show count = m + (count - m) from by omega, Nat.pow_add] at hsm
    exact Nat.div_lt_of_lt_mul hsm
  · unfold bits'
    rw [List.drop_append, lows_len, show m - count = 0 from by omega, List.drop_zero]
    congr 1
    have e := lows_add m (count - m) word
    rw [show m + (count - m) = count from by omega] at e
    rw [e, List.drop_append, lows_len, Nat.sub_self, List.drop_zero, List.drop_of_length_le (by rw [lows_len]; omega)]
    rfl

/-- What use leaves. -/
structure Used_ (B f q : Nat) (ps : List Pc) (bs : List Bool) (pushed : Nat) (ended : Bool) (w w' : World) (ps1 : List Pc) (word1 count1 : Nat) : Prop where
  at_ : FAt B w' f q ps1 word1 count1 pushed ended
  eq : bits' word1 count1 ps1 = bs
  full : 32 ≤ count1 ∨ cat ps1 = []
  only : Only (FFoot f q ps) w w'
  sub : ∀ j, QFoot q ps1 j → QFoot q ps j

theorem only_f {f q : Nat} {ps : List Pc} {w w2 : World} (a b : Value) (h : w2 = (w.setCell ⟨f, 0, none⟩ a).setCell ⟨f, 1, none⟩ b) : Only (FFoot f q ps) w w2 := by
  subst h
  exact ((Only.refl (FFoot f q ps) w).setCell (p := ⟨f, 0, none⟩) (fun _ => .inl rfl) _).setCell (p := ⟨f, 1, none⟩) (fun _ => .inl rfl) _

set_option maxRecDepth 100000 in
set_option maxHeartbeats 4000000 in
theorem use_few (B f q : Nat) (ps : List Pc) (word count pushed n : Nat) (ended : Bool) (w : World) (h : FAt B w f q ps word count pushed ended) (hn : n ≤ count) (hl : (cat ps).length ≤ 10000000000) :
    Calls Tryz.prog 78 #[.pointer (some ⟨f, 0, none⟩), .int .i64 (n : Int)] w fun e w' => e = .returned (.tuple #[]) ∧ ∃ ps1 word1 count1, Used_ B f q ps ((bits' word count ps).drop n) pushed ended w w' ps1 word1 count1 := by
  obtain ⟨hs1, hs2⟩ := shift_step h n hn
  have hc0 := h.blk.cell 0
  have hc1 := h.blk.cell 1
  have hf0 := h.blk.frozen 0
  have hf1 := h.blk.frozen 1
  simp only [List.getElem?_toArray, List.getElem?_cons_zero, List.getElem?_cons_succ] at hc0 hc1
  have hmo := h.most
  have hwl := h.word_lt
  have HS1 := Lib.hid hs1
  have HS2 := Lib.hid hs2
  have hlt : ¬ count < n := by omega
  clear hs1 hs2 h
  go_enter Tryz.func78, Tryz.ntmps78
  go_wp2_with fail
  refine (fill_any B f q ps _ _ pushed ended _ HS1.out (by omega)).mono ?_
  rintro e w2 ⟨rfl, ps1, word1, count1, hF, h32⟩
  have HF := Lib.hid hF
  have H32 := Lib.hid h32
  clear hF h32
  go_wp2_with fail
  go_end0
  exact ⟨rfl, ps1, word1, count1, HF.out.at_, by rw [HF.out.eq, HS2.out], H32.out, (only_f (w := w) _ _ rfl).trans HF.out.only (fun i _ e => e), HF.out.sub⟩

set_option maxRecDepth 100000 in
set_option maxHeartbeats 4000000 in
theorem use_many (B f q : Nat) (p : Pc) (t : List Pc) (word count pushed n : Nat) (ended : Bool) (w : World) (h : FAt B w f q (p :: t) word count pushed ended) (hn : count < n) (hn2 : n ≤ (bits' word count (p :: t)).length) (hl : (cat (p :: t)).length ≤ 10000000000) :
    Calls Tryz.prog 78 #[.pointer (some ⟨f, 0, none⟩), .int .i64 (n : Int)] w fun e w' => e = .returned (.tuple #[]) ∧ ∃ ps1 word1 count1, Used_ B f q (p :: t) ((bits' word count (p :: t)).drop n) pushed ended w w' ps1 word1 count1 := by
  rw [bits_len] at hn2
  have hmo := h.most
  have hc1 := h.blk.cell 1
  have hc2 := h.blk.cell 2
  have hf0 := h.blk.frozen 0
  have hf1 := h.blk.frozen 1
  have hc0 := h.blk.cell 0
  simp only [List.getElem?_toArray, List.getElem?_cons_zero, List.getElem?_cons_succ] at hc0 hc1 hc2
  have hO : Only (fun k => k = f) w ((w.setCell ⟨f, 0, none⟩ (.int .u64 0)).setCell ⟨f, 1, none⟩ (.int .i64 0)) :=
    ((Only.refl (fun k => k = f) w).setCell (p := ⟨f, 0, none⟩) (fun _ => rfl) _).setCell (p := ⟨f, 1, none⟩) (fun _ => rfl) _
  have hA : FAt B ((w.setCell ⟨f, 0, none⟩ (.int .u64 0)).setCell ⟨f, 1, none⟩ (.int .i64 0)) f q (p :: t) 0 0 pushed ended :=
    ⟨(h.blk.set_ 0 (.int .u64 0)).set_ 1 (.int .i64 0), h.que.only hO (fun e => h.far (Or.inl e.symm)) (fun k hk e => h.far (Or.inr (e ▸ hk))), h.base, by omega, by omega⟩
  have hOF : Only (FFoot f q (p :: t)) w ((w.setCell ⟨f, 0, none⟩ (.int .u64 0)).setCell ⟨f, 1, none⟩ (.int .i64 0)) := only_f _ _ rfl
  have HA := Lib.hid hA
  have HOF := Lib.hid hOF
  have hx := h.que.blk.cell 2
  obtain ⟨m, hm, hmi⟩ : ∃ m : Nat, m = (n - count) / 8 ∧ ((n : Int) - (count : Int)) / 8 = (m : Int) := ⟨(n - count) / 8, rfl, by omega⟩
  obtain ⟨r, hr, hri⟩ : ∃ r : Nat, r = (n - count) % 8 ∧ ((n : Int) - (count : Int)) % 8 = (r : Int) := ⟨(n - count) % 8, rfl, by omega⟩
  have hni : (count : Int) < (n : Int) := by omega
  have HM := Lib.hid (And.intro hm hr)
  have hml : m ≤ (cat (p :: t)).length := by omega
  have hdr := drop_any B q (cat (p :: t)).length m p t _ HA.out.que hml hml (by omega)
  have HDR := Lib.hid hdr
  have hbits : (bits' word count (p :: t)).drop n = (bitsOf ((cat (p :: t)).drop m)).drop r := by
    unfold bits'
    rw [List.drop_append, lows_len, List.drop_of_length_le (by rw [lows_len]; omega), List.nil_append, show n - count = 8 * m + r from by omega, ← bitsOf_drop, List.drop_drop]
  have HB := Lib.hid hbits
  have hra : r ≤ 8 * ((cat (p :: t)).length - m) := by omega
  have HRA := Lib.hid hra
  clear hA hOF hO hm hr hdr hbits hx h hra
  go_enter Tryz.func78, Tryz.ntmps78
  go_wp2_with fail
  refine HDR.out.mono ?_
  rintro e w2 ⟨rfl, ps2, hne2, hq2, hcat2, ho2, hsub2⟩
  have hA2 : FAt B w2 f q ps2 0 0 pushed ended := ⟨ho2.blk HA.out.blk HA.out.far, by rw [hcat2, List.length_drop]; exact hq2, HA.out.base, by omega, by omega⟩
  have HA2 := Lib.hid hA2
  have HO2 : Hid (Only (FFoot f q (p :: t)) w w2) := Lib.hid (HOF.out.trans ho2 (fun i _ e => .inr e))
  have HS2 := Lib.hid hsub2
  have HC2 := Lib.hid hcat2
  have hl2 : (cat ps2).length ≤ 10000000000 := by rw [hcat2, List.length_drop]; omega
  clear hA2 ho2 hsub2 hcat2 hq2 hne2 HDR HA
  go_wp2_with fail
  refine (fill_any B f q ps2 0 0 pushed ended w2 HA2.out (by omega)).mono ?_
  rintro e w3 ⟨rfl, ps3, word3, count3, hF3, h32⟩
  have heq3 : bits' word3 count3 ps3 = bitsOf ((cat (p :: t)).drop m) := by
    rw [hF3.eq, ← HC2.out]; unfold bits'; simp [lows]
  have hr8 : r < 8 := by have := HM.out.2; omega
  have hrc : r ≤ count3 := by
    rcases h32 with h | h
    · omega
    · have hlen := congrArg List.length heq3
      rw [bits_len, h, bitsOf_len, List.length_drop] at hlen
      have := HRA.out
      simp at hlen
      omega
  have hl3 : (cat ps3).length ≤ 10000000000 := by
    have hlen := congrArg List.length heq3
    rw [bits_len, bitsOf_len, List.length_drop] at hlen
    omega
  obtain ⟨hs1, hs2⟩ := shift_step hF3.at_ r hrc
  have hd0 := hF3.at_.blk.cell 0
  have hd1 := hF3.at_.blk.cell 1
  have hg0 := hF3.at_.blk.frozen 0
  have hg1 := hF3.at_.blk.frozen 1
  simp only [List.getElem?_toArray, List.getElem?_cons_zero, List.getElem?_cons_succ] at hd0 hd1
  have hmo3 := hF3.at_.most
  have hwl3 := hF3.at_.word_lt
  have HO3 : Hid (Only (FFoot f q (p :: t)) w w3) := Lib.hid (HO2.out.trans hF3.only (fun i _ e => by
    rcases e with e | e
    · exact .inl e
    · exact .inr (HS2.out i e)))
  have HSub3 : Hid (∀ j, QFoot q ps3 j → QFoot q (p :: t) j) := Lib.hid (fun j hj => HS2.out j (hF3.sub j hj))
  have HS1 := Lib.hid hs1
  have HE3 : Hid (bits' (word3 / 2 ^ r) (count3 - r) ps3 = (bits' word count (p :: t)).drop n) := Lib.hid (by rw [hs2, heq3, HB.out])
  clear hs1 hs2 hF3 h32 heq3
  go_wp2_with fail
  refine (fill_any B f q ps3 _ _ pushed ended _ HS1.out (by omega)).mono ?_
  rintro e w4 ⟨rfl, ps4, word4, count4, hF4, h32⟩
  have HF4 := Lib.hid hF4
  have H32 := Lib.hid h32
  clear hF4 h32
  go_wp2_with fail
  go_end0
  refine ⟨rfl, ps4, word4, count4, HF4.out.at_, by rw [HF4.out.eq, HE3.out], H32.out, ?_, fun j hj => HSub3.out j (HF4.out.sub j hj)⟩
  refine HO3.out.trans ((only_f (f := f) (q := q) (ps := ps3) (w := w3) _ _ rfl).trans HF4.out.only (fun i _ e => e)) (fun i _ e => ?_)
  rcases e with e | e
  · exact .inl e
  · exact .inr (HSub3.out i e)

theorem use_any (B f q : Nat) (ps : List Pc) (word count pushed n : Nat) (ended : Bool) (w : World) (h : FAt B w f q ps word count pushed ended) (hn : n ≤ (bits' word count ps).length) (hl : (cat ps).length ≤ 10000000000) :
    Calls Tryz.prog 78 #[.pointer (some ⟨f, 0, none⟩), .int .i64 (n : Int)] w fun e w' => e = .returned (.tuple #[]) ∧ ∃ ps1 word1 count1, Used_ B f q ps ((bits' word count ps).drop n) pushed ended w w' ps1 word1 count1 := by
  by_cases hc : n ≤ count
  · exact use_few B f q ps word count pushed n ended w h hc hl
  · cases ps with
    | nil => rw [bits_len, cat_nil] at hn; simp at hn; omega
    | cons p t => exact use_many B f q p t word count pushed n ended w h (by omega) hn hl
end Go.Proofs.YtjejlhpnhkacmaaGreatDoor.FeedC
end

section
namespace Go.Proofs.YtjejlhpnhkacmaaGreatDoor.FeedC
open Go.RowKit Go.My BitMath RefC

/-- A Feed with these bits ahead of it; its blocks. -/
def Fed (B : Nat) (w : World) (f : Nat) (F : Nat → Prop) (bs : List Bool) (pushed : Nat) (ended : Bool) : Prop :=
  ∃ q ps word count, FAt B w f q ps word count pushed ended ∧ (32 ≤ count ∨ cat ps = []) ∧ bs = bits' word count ps ∧ F = FFoot f q ps

section
variable {B f pushed : Nat} {w w' : World} {F S : Nat → Prop} {bs : List Bool} {ended : Bool}
theorem Fed.only (h : Fed B w f F bs pushed ended) (hk : Only S w w') (hs : ∀ k, F k → ¬ S k) : Fed B w' f F bs pushed ended := by
  obtain ⟨q, ps, word, count, h1, h2, h3, rfl⟩ := h
  exact ⟨q, ps, word, count, h1.only hk hs, h2, h3, rfl⟩
theorem Fed.below (h : Fed B w f F bs pushed ended) (hk : Below w.heap.size w w') : Fed B w' f F bs pushed ended := h.only (Only.of_below hk (fun _ => False)) (fun _ _ h => h)
theorem Fed.drewN (h : Fed B w f F bs pushed ended) (n : Nat) : Fed B (w.drewN n) f F bs pushed ended := h.below ⟨rfl, rfl, rfl, Nat.le_refl _, fun _ _ => rfl⟩
theorem Fed.lt (h : Fed B w f F bs pushed ended) : ∀ k, F k → B ≤ k ∧ k < w.heap.size := by
  obtain ⟨q, ps, word, count, h1, h2, h3, rfl⟩ := h
  exact h1.lt
theorem Fed.self (h : Fed B w f F bs pushed ended) : F f := by
  obtain ⟨q, ps, word, count, h1, h2, h3, rfl⟩ := h
  exact .inl rfl
end

/-- What a call on a Feed leaves. -/
def Done (B f : Nat) (F : Nat → Prop) (w : World) (bs : List Bool) (pushed : Nat) (ended : Bool) (w' : World) : Prop :=
  ∃ F', Fed B w' f F' bs pushed ended ∧ Only F w w' ∧ ∀ k, F' k → F k ∨ w.heap.size ≤ k

theorem Done.refl {B f pushed : Nat} {w : World} {F : Nat → Prop} {bs : List Bool} {ended : Bool} (h : Fed B w f F bs pushed ended) : Done B f F w bs pushed ended w := ⟨F, h, Only.refl _ _, fun _ h => .inl h⟩
theorem Done.drewN {B f pushed : Nat} {w : World} {F : Nat → Prop} {bs : List Bool} {ended : Bool} (h : Fed B w f F bs pushed ended) (n : Nat) : Done B f F w bs pushed ended (w.drewN n) := ⟨F, h.drewN n, (Only.refl _ _).drewN n, fun _ h => .inl h⟩
theorem Done.of_drewN {B f pushed n : Nat} {w w' : World} {F : Nat → Prop} {bs : List Bool} {ended : Bool} (h : Done B f F (w.drewN n) bs pushed ended w') : Done B f F w bs pushed ended w' := by
  obtain ⟨F', h1, h2, h3⟩ := h
  exact ⟨F', h1, Only.of_drewN h2, h3⟩
theorem Done.trans {B f : Nat} {w w1 w2 : World} {F F1 : Nat → Prop} {bs : List Bool} {pushed : Nat} {ended : Bool} (h : Only F w w1) (hs : ∀ k, F1 k → F k ∨ w.heap.size ≤ k) (k : Done B f F1 w1 bs pushed ended w2) : Done B f F w bs pushed ended w2 := by
  obtain ⟨F2, h1, h2, h3⟩ := k
  refine ⟨F2, h1, h.trans h2 (fun i hi e => ?_), fun j hj => ?_⟩
  · rcases hs i e with e | e
    · exact e
    · omega
  · rcases h3 j hj with e | e
    · exact hs j e
    · have := h.size; exact .inr (by omega)

set_option maxHeartbeats 1000000 in
theorem new_any (w : World) : Calls Tryz.prog 12 #[] w fun e w' => ∃ F, e = .returned (.pointer (some ⟨w.heap.size + 1, 0, none⟩)) ∧ Fed w.heap.size w' (w.heap.size + 1) F [] 0 false ∧ Below w.heap.size w w' := by
  go_enter Tryz.func12, Tryz.ntmps12
  go_wp2
  go_ret
  have hb := (Blk.new (w.alloc (.cells #[.pointer none, .pointer none, .int .i64 0] 72)) 75 #[.int .u64 0, .int .i64 0, .pointer (some ⟨w.heap.size, 0, none⟩), .int .i64 0, .bool false])
  have hq := (Blk.new w 72 #[.pointer none, .pointer none, .int .i64 0]).alloc (.cells #[.int .u64 0, .int .i64 0, .pointer (some ⟨w.heap.size, 0, none⟩), .int .i64 0, .bool false] 75)
  refine ⟨FFoot (w.heap.size + 1) w.heap.size [], rfl, ⟨w.heap.size, [], 0, 0, ⟨?_, ⟨hq, trivial, by simp [Apart], by simp [Full], Nat.le_refl _⟩, by omega, by omega, by omega⟩, .inr rfl, by simp [bits', lows, cat, bitsOf], rfl⟩, ?_⟩
  · simpa using hb
  · exact ((Below.refl _ w).alloc (Nat.le_refl _) _).alloc (by simp) _

theorem ended_any (B f pushed : Nat) (F : Nat → Prop) (bs : List Bool) (ended : Bool) (w : World) (h : Fed B w f F bs pushed ended) :
    Calls Tryz.prog 79 #[.pointer (some ⟨f, 0, none⟩)] w fun e w' => e = .returned (.bool ended) ∧ w = w' := by
  obtain ⟨q, ps, word, count, h1, h2, h3, rfl⟩ := h
  have hc := h1.blk.cell 4
  simp only [List.getElem?_toArray, List.getElem?_cons_zero, List.getElem?_cons_succ] at hc
  clear h1 h3
  go_enter Tryz.func79, Tryz.ntmps79
  go_wp2_with fail
  go_ret
  exact ⟨rfl, rfl⟩

theorem end_any (B f pushed : Nat) (F : Nat → Prop) (bs : List Bool) (ended : Bool) (w : World) (h : Fed B w f F bs pushed ended) :
    Calls Tryz.prog 30 #[.pointer (some ⟨f, 0, none⟩)] w fun e w' => e = .returned (.tuple #[]) ∧ Done B f F w bs pushed true w' := by
  have H := Lib.hid h
  obtain ⟨q, ps, word, count, h1, h2, h3, rfl⟩ := h
  have hc := h1.blk.cell 4
  have hf := h1.blk.frozen 4
  simp only [List.getElem?_toArray, List.getElem?_cons_zero, List.getElem?_cons_succ] at hc
  have HA := Lib.hid h1
  have H2 := Lib.hid h2
  have H3 := Lib.hid h3
  clear h1 h2 h3
  go_enter Tryz.func30, Tryz.ntmps30
  go_wp2_with fail
  go_end0
  have hO : Only (fun k => k = f) w (w.setCell ⟨f, 4, none⟩ (.bool true)) := (Only.refl (fun k => k = f) w).setCell (p := ⟨f, 4, none⟩) (fun _ => rfl) _
  refine ⟨rfl, FFoot f q ps, ⟨q, ps, word, count, ⟨HA.out.blk.set_ 4 _, HA.out.que.only hO (fun e => HA.out.far (Or.inl e.symm)) (fun k hk e => HA.out.far (Or.inr (e ▸ hk))), HA.out.base, HA.out.small, HA.out.most⟩, H2.out, H3.out, rfl⟩, hO.mono (fun k _ e => .inl e), fun k hk => .inl hk⟩

set_option maxHeartbeats 1000000 in
theorem bits_any (B f pushed : Nat) (F : Nat → Prop) (bs : List Bool) (ended : Bool) (w : World) (h : Fed B w f F bs pushed ended) (hl : bs.length ≤ 10000000000) :
    Calls Tryz.prog 40 #[.pointer (some ⟨f, 0, none⟩)] w fun e w' => e = .returned (.int .i64 (bs.length : Int)) ∧ ∃ n, w' = w.drewN n := by
  obtain ⟨q, ps, word, count, h1, h2, h3, rfl⟩ := h
  have hc1 := h1.blk.cell 1
  have hc2 := h1.blk.cell 2
  have hq2 := h1.que.blk.cell 2
  simp only [List.getElem?_toArray, List.getElem?_cons_zero, List.getElem?_cons_succ] at hc1 hc2 hq2
  have hlen : bs.length = count + 8 * (cat ps).length := by rw [h3, bits_len]
  have HL := Lib.hid hlen
  have hb1 : count + 8 * (cat ps).length ≤ 10000000000 := by omega
  have w1 : IntKind.i64.wrap (8 * ((cat ps).length : Int)) = 8 * ((cat ps).length : Int) := IntWalk.i64_in _ (by omega)
  have w2 : IntKind.i64.wrap ((count : Int) + 8 * ((cat ps).length : Int)) = (count : Int) + 8 * ((cat ps).length : Int) := IntWalk.i64_in _ (by omega)
  clear h1 h2 h3 hlen
  generalize (cat ps).length = n at *
  go_enter Tryz.func40, Tryz.ntmps40
  go_wp2_with fail
  go_quiet (fail)
  go_wp2_with fail
  go_ret
  exact ⟨ret_int (by rw [HL.out]; omega), _, rfl⟩

theorem used_any (B f pushed : Nat) (F : Nat → Prop) (bs : List Bool) (ended : Bool) (w : World) (h : Fed B w f F bs pushed ended) (hl : bs.length ≤ 10000000000) (hp : pushed ≤ 10000000000) :
    Calls Tryz.prog 25 #[.pointer (some ⟨f, 0, none⟩)] w fun e w' => e = .returned (.int .i64 ((pushed : Int) - ((bs.length / 8 : Nat) : Int))) ∧ ∃ n, w' = w.drewN n := by
  have H := Lib.hid h
  have hc3 : ∀ n, (w.drewN n).cell? ⟨f, 3, none⟩ = some (.int .i64 (pushed : Int)) := fun n => by
    obtain ⟨q, ps, word, count, h1, h2, h3, rfl⟩ := h
    exact h1.blk.cell 3
  have hc0 := hc3 0
  clear h
  go_enter Tryz.func25, Tryz.ntmps25
  go_wp2_with fail
  have hw1 : IntKind.i64.wrap ((pushed : Int) - (bs.length : Int) / 8) = (pushed : Int) - (bs.length : Int) / 8 := IntWalk.i64_in _ (by omega)
  have hc3 : w.cell? ⟨f, 3, none⟩ = some (.int .i64 (pushed : Int)) := hc0
  clear hc0
  go_quiet ((go_at_call 40; refine Calls.quiet_of (bits_any B f pushed F bs ended _ (H.out.drewN _) hl)))
  go_wp2_with fail
  go_ret
  exact ⟨ret_int (by omega), _, rfl⟩

/-! ### Peek -/
def peekV (bs : List Bool) (n : Int) : Nat := if 1 ≤ n ∧ n ≤ 32 then num (bs.take n.toNat) else 0
theorem peekV_lt (bs : List Bool) (n : Int) : peekV bs n < 4294967296 := by
  unfold peekV
  split
  · have := num_lt (bs.take n.toNat)
    exact Nat.lt_of_lt_of_le this (by rw [show 4294967296 = 2 ^ 32 from rfl]; exact Nat.pow_le_pow_right (by omega) (by simp; omega))
  · omega
theorem peek_word {word count : Nat} {ps : List Pc} (hs : word < 2 ^ count) (h : 32 ≤ count ∨ cat ps = []) (n : Nat) (hn : n ≤ 32) : num ((bits' word count ps).take n) = word % 2 ^ n := by
  unfold bits'
  by_cases hc : n ≤ count
  · rw [List.take_append_of_le_length (by rw [lows_len]; exact hc), ← num_lows]
    congr 1
    have e := lows_add n (count - n) word
    rw [show n + (count - n) = count from by omega] at e
    rw [e, List.take_append_of_le_length (by rw [lows_len]; omega), List.take_of_length_le (by rw [lows_len]; omega)]
  · rcases h with h | h
    · omega
    · rw [h, bitsOf_nil, List.append_nil, List.take_of_length_le (by rw [lows_len]; omega), num_lows, Nat.mod_eq_of_lt hs, Nat.mod_eq_of_lt]
      exact Nat.lt_of_lt_of_le hs (Nat.pow_le_pow_right (by omega) (by omega))
theorem u64_mask (v n : Nat) (hv : v < 18446744073709551616) (hn : n ≤ 32) : bits .and .u64 (v : Int) ((2 : Int) ^ n - 1) = ((v % 2 ^ n : Nat) : Int) := by
  have hp : 0 < 2 ^ n := Nat.two_pow_pos n
  have h7 : 2 ^ n ≤ 2 ^ 32 := Nat.pow_le_pow_right (by omega) hn
  have e : ((2 : Int) ^ n - 1) = ((2 ^ n - 1 : Nat) : Int) := by rw [Int.natCast_sub hp]; push_cast; rfl
  rw [e, u64_and_nat _ _ (by omega) (by omega), Nat.and_two_pow_sub_one_eq_mod]

theorem peek_no (n : Int) (f : Nat) (bs : List Bool) (w : World) (h : ¬ (1 ≤ n ∧ n ≤ 32)) :
    Calls Tryz.prog 86 #[.pointer (some ⟨f, 0, none⟩), .int .i64 n] w fun e w' => e = .returned (.int .u32 ((peekV bs n : Nat) : Int)) ∧ ∃ k, w' = w.drewN k := by
  have HV : Hid (peekV bs n = 0) := Lib.hid (by unfold peekV; rw [if_neg h])
  by_cases h1 : n < 1
  · go_enter Tryz.func86, Tryz.ntmps86
    go_wp2
    go_ret
    exact ⟨by rw [HV.out]; rfl, 0, rfl⟩
  · have h8 : decide (n > 32) = true := by simp; omega
    go_enter Tryz.func86, Tryz.ntmps86
    go_wp2
    go_ret
    exact ⟨by rw [HV.out]; rfl, 0, rfl⟩

set_option maxHeartbeats 1000000 in
theorem peek_yes (n : Nat) (B f pushed : Nat) (F : Nat → Prop) (bs : List Bool) (ended : Bool) (w : World) (h : Fed B w f F bs pushed ended) (h1 : 1 ≤ n) (h2 : n ≤ 32) :
    Calls Tryz.prog 86 #[.pointer (some ⟨f, 0, none⟩), .int .i64 (n : Int)] w fun e w' => e = .returned (.int .u32 ((peekV bs n : Nat) : Int)) ∧ ∃ k, w' = w.drewN k := by
  obtain ⟨q, ps, word, count, hA, h32, hbs, rfl⟩ := h
  have hpv : peekV bs n = word % 2 ^ n := by
    unfold peekV
    rw [if_pos (by omega), Int.toNat_natCast, hbs, peek_word hA.small h32 n h2]
  have hpl := peekV_lt bs n
  rw [hpv] at hpl
  have HV := Lib.hid hpv
  have hc0 := hA.blk.cell 0
  simp only [List.getElem?_toArray, List.getElem?_cons_zero] at hc0
  have hwl := hA.word_lt
  have hmk := u64_mask word n hwl h2
  have d8 : decide ((n : Int) > 32) = false := by simp; omega
  have d1 : decide ((n : Int) < 1) = false := by simp; omega
  have hpow : 2 ^ n ≤ 2 ^ 32 := Nat.pow_le_pow_right (by omega) h2
  have e2 : ((2 : Int) ^ n) = ((2 ^ n : Nat) : Int) := by push_cast; rfl
  have hp0 : 0 < 2 ^ n := Nat.two_pow_pos n
  have p1 : IntKind.u64.wrap ((2 : Int) ^ n) = (2 : Int) ^ n := by rw [e2]; exact IntWalk.u64_in _ (by omega)
  have p2 : IntKind.u64.wrap ((2 : Int) ^ n - 1) = (2 : Int) ^ n - 1 := by rw [e2]; exact IntWalk.u64_in _ (by omega)
  generalize word % 2 ^ n = x at *
  have p3 : IntKind.u32.wrap (x : Int) = (x : Int) := IntWalk.u32_in _ (by omega)
  clear hpv e2 hpow hp0 hA hbs h32
  go_enter Tryz.func86, Tryz.ntmps86
  go_wp2_with fail
  go_quiet (fail)
  go_wp2_with fail
  go_ret
  exact ⟨by rw [HV.out]; rfl, _, rfl⟩
theorem peek_any (n : Int) (B f pushed : Nat) (F : Nat → Prop) (bs : List Bool) (ended : Bool) (w : World) (h : Fed B w f F bs pushed ended) :
    Calls Tryz.prog 86 #[.pointer (some ⟨f, 0, none⟩), .int .i64 n] w fun e w' => e = .returned (.int .u32 ((peekV bs n : Nat) : Int)) ∧ ∃ k, w' = w.drewN k := by
  by_cases hn : 1 ≤ n ∧ n ≤ 32
  · obtain ⟨m, rfl⟩ : ∃ m : Nat, n = (m : Int) := ⟨n.toNat, by omega⟩
    exact peek_yes m B f pushed F bs ended w h (by omega) (by omega)
  · exact peek_no n f bs w hn

/-! ### Skip, Align -/
def skipCode (bs : List Bool) (n : Int) : Int := if n < 0 then 1 else if (bs.length : Int) < n then 5 else 0
def skipBits (bs : List Bool) (n : Int) : List Bool := if n < 0 then bs else if (bs.length : Int) < n then bs else bs.drop n.toNat

theorem use_fed (n : Nat) (B f pushed : Nat) (F : Nat → Prop) (bs : List Bool) (ended : Bool) (w : World) (h : Fed B w f F bs pushed ended) (hn : n ≤ bs.length) (hl : bs.length ≤ 10000000000) :
    Calls Tryz.prog 78 #[.pointer (some ⟨f, 0, none⟩), .int .i64 (n : Int)] w fun e w' => e = .returned (.tuple #[]) ∧ Done B f F w (bs.drop n) pushed ended w' := by
  obtain ⟨q, ps, word, count, h1, h2, rfl, rfl⟩ := h
  have hlen := bits_len word count ps
  refine (use_any B f q ps word count pushed n ended w h1 hn (by omega)).mono fun e w' ⟨he, ps1, word1, count1, hu⟩ => ⟨he, FFoot f q ps1, ⟨q, ps1, word1, count1, hu.at_, hu.full, hu.eq.symm, rfl⟩, hu.only, fun k hk => ?_⟩
  rcases hk with e | e
  · exact .inl (.inl e)
  · exact .inl (.inr (hu.sub k e))

theorem skip_any (n : Int) (B f pushed : Nat) (F : Nat → Prop) (bs : List Bool) (ended : Bool) (w : World) (h : Fed B w f F bs pushed ended) (hl : bs.length ≤ 10000000000) :
    Calls Tryz.prog 67 #[.pointer (some ⟨f, 0, none⟩), .int .i64 n] w fun e w' => e = .returned (.int .i64 (skipCode bs n)) ∧ Done B f F w (skipBits bs n) pushed ended w' := by
  have H := Lib.hid h
  clear h
  by_cases h0 : n < 0
  · have HC : Hid (skipCode bs n = 1 ∧ skipBits bs n = bs) := Lib.hid ⟨if_pos h0, if_pos h0⟩
    go_enter Tryz.func67, Tryz.ntmps67
    go_wp2_with fail
    go_ret
    exact ⟨by rw [HC.out.1]; rfl, by rw [HC.out.2]; exact Done.refl H.out⟩
  · obtain ⟨m, rfl⟩ : ∃ m : Nat, n = (m : Int) := ⟨n.toNat, by omega⟩
    by_cases hm : bs.length < m
    · have HC : Hid (skipCode bs m = 5 ∧ skipBits bs m = bs) := Lib.hid ⟨by unfold skipCode; rw [if_neg h0, if_pos (by omega)], by unfold skipBits; rw [if_neg h0, if_pos (by omega)]⟩
      go_enter Tryz.func67, Tryz.ntmps67
      go_wp2_with fail
      refine (bits_any B f pushed F bs ended w H.out hl).mono ?_
      rintro e w' ⟨rfl, k, rfl⟩
      go_wp2_with fail
      go_ret
      exact ⟨by rw [HC.out.1]; rfl, by rw [HC.out.2]; exact Done.drewN H.out k⟩
    · have HC : Hid (skipCode bs m = 0 ∧ skipBits bs m = bs.drop m) := Lib.hid ⟨by unfold skipCode; rw [if_neg h0, if_neg (by omega)], by unfold skipBits; rw [if_neg h0, if_neg (by omega)]; rfl⟩
      by_cases hz : m = 0
      · subst hz
        go_enter Tryz.func67, Tryz.ntmps67
        go_wp2_with fail
        refine (bits_any B f pushed F bs ended w H.out hl).mono ?_
        rintro e w' ⟨rfl, k, rfl⟩
        go_wp2_with fail
        go_ret
        exact ⟨by rw [HC.out.1]; rfl, by rw [HC.out.2, List.drop_zero]; exact Done.drewN H.out k⟩
      · have hm0 : 0 < m := by omega
        go_enter Tryz.func67, Tryz.ntmps67
        go_wp2_with fail
        refine (bits_any B f pushed F bs ended w H.out hl).mono ?_
        rintro e w' ⟨rfl, k, rfl⟩
        go_wp2_with fail
        refine (use_fed m B f pushed F bs ended _ (H.out.drewN k) (by omega) hl).mono ?_
        rintro e w' ⟨rfl, hd⟩
        have HD := Lib.hid hd
        clear hd
        go_wp2_with fail
        go_ret
        exact ⟨by rw [HC.out.1]; rfl, by rw [HC.out.2]; exact HD.out.of_drewN⟩

theorem align_any (B f pushed : Nat) (F : Nat → Prop) (bs : List Bool) (ended : Bool) (w : World) (h : Fed B w f F bs pushed ended) (hl : bs.length ≤ 10000000000) :
    Calls Tryz.prog 76 #[.pointer (some ⟨f, 0, none⟩)] w fun e w' => e = .returned (.tuple #[]) ∧ Done B f F w (bs.drop (bs.length % 8)) pushed ended w' := by
  have H := Lib.hid h
  clear h
  have HC : Hid (skipBits bs ((bs.length : Int) % 8) = bs.drop (bs.length % 8)) := Lib.hid (by
    unfold skipBits
    rw [if_neg (by omega), if_neg (by omega)]
    congr 1)
  go_enter Tryz.func76, Tryz.ntmps76
  go_wp2_with fail
  refine (bits_any B f pushed F bs ended w H.out hl).mono ?_
  rintro e w' ⟨rfl, k, rfl⟩
  go_wp2_with fail
  refine (skip_any _ B f pushed F bs ended _ (H.out.drewN k) hl).mono ?_
  rintro e w' ⟨rfl, hd⟩
  have HD := Lib.hid hd
  clear hd
  go_wp2_with fail
  go_end0
  exact ⟨rfl, by rw [← HC.out]; exact HD.out.of_drewN⟩
end Go.Proofs.YtjejlhpnhkacmaaGreatDoor.FeedC
end

section
namespace Go.Proofs.YtjejlhpnhkacmaaGreatDoor.FeedC
open Go.RowKit Go.My BitMath RefC

theorem push_ended (B f pushed : Nat) (F : Nat → Prop) (bs : List Bool) (w : World) (h : Fed B w f F bs pushed true) (v : Value) :
    Calls Tryz.prog 17 #[.pointer (some ⟨f, 0, none⟩), v] w fun e w' => e = .returned (.tuple #[]) ∧ w = w' := by
  obtain ⟨q, ps, word, count, h1, h2, h3, rfl⟩ := h
  have hc := h1.blk.cell 4
  simp only [List.getElem?_toArray, List.getElem?_cons_zero, List.getElem?_cons_succ] at hc
  clear h1 h2 h3
  go_enter Tryz.func17, Tryz.ntmps17
  go_wp2_with fail
  exact bodyPost_ret (results_none rfl _ _ _) rfl ⟨rfl, rfl⟩

set_option maxRecDepth 100000 in
set_option maxHeartbeats 2000000 in
theorem push_open (B f pushed : Nat) (F : Nat → Prop) (bs : List Bool) (w : World) (h : Fed B w f F bs pushed false) (a : Option Addr) (len cap : Nat) (l : List UInt8) (hb : Bytes w a len cap l) (hfar : ∀ b off, a = some ⟨b, off, none⟩ → ¬ F b)
    (hl : bs.length ≤ 1000000000) (hp : pushed ≤ 1000000000) (hlen : len ≤ 1000000000) :
    Calls Tryz.prog 17 #[.pointer (some ⟨f, 0, none⟩), .slice a len cap] w fun e w' => e = .returned (.tuple #[]) ∧ Done B f F w (bs ++ bitsOf l) (pushed + len) false w' := by
  obtain ⟨q, ps, word, count, h1, h2, h3, rfl⟩ := h
  have hc4 := h1.blk.cell 4
  have hc2 := h1.blk.cell 2
  have hc3 := h1.blk.cell 3
  have hf3 := h1.blk.frozen 3
  simp only [List.getElem?_toArray, List.getElem?_cons_zero, List.getElem?_cons_succ] at hc2 hc3 hc4
  have hO : Only (fun k => k = f) w (w.setCell ⟨f, 3, none⟩ (.int .i64 ((pushed : Int) + (len : Int)))) := (Only.refl (fun k => k = f) w).setCell (p := ⟨f, 3, none⟩) (fun _ => rfl) _
  have hA : FAt B (w.setCell ⟨f, 3, none⟩ (.int .i64 ((pushed : Int) + (len : Int)))) f q ps word count (pushed + len) false := by
    refine ⟨?_, h1.que.only hO (fun e => h1.far (Or.inl e.symm)) (fun k hk e => h1.far (Or.inr (e ▸ hk))), h1.base, h1.small, h1.most⟩
    rw [show ((pushed + len : Nat) : Int) = (pushed : Int) + (len : Int) from by omega]
    exact h1.blk.set_ 3 _
  have hby := hO.bytes hb (fun b off e hbf => hfar b off e (Or.inl hbf))
  have hbl : bs.length = count + 8 * (cat ps).length := by rw [h3, bits_len]
  have hpu := push_any B q (cat ps).length ps _ hA.que a len cap l hby (fun b off e hq => hfar b off e (Or.inr hq)) (by omega) (by omega)
  have HPU := Lib.hid hpu
  have HA := Lib.hid hA
  have HO : Hid (Only (FFoot f q ps) w (w.setCell ⟨f, 3, none⟩ (.int .i64 ((pushed : Int) + (len : Int))))) := Lib.hid (hO.mono (fun k _ e => .inl e))
  have H3 := Lib.hid h3
  have HL := Lib.hid hb.len_eq
  clear h1 h2 h3 hO hA hby hpu hb hfar
  go_enter Tryz.func17, Tryz.ntmps17
  go_wp2_with fail
  refine HPU.out.mono ?_
  rintro e w2 ⟨rfl, ps2, hq2, hc2', ho2, hn2⟩
  have hA2 : FAt B w2 f q ps2 word count (pushed + len) false := ⟨ho2.blk HA.out.blk HA.out.far, by rw [hc2', List.length_append, HL.out]; exact hq2, HA.out.base, HA.out.small, HA.out.most⟩
  have HA2 := Lib.hid hA2
  have HO2 := Lib.hid ho2
  have HN2 := Lib.hid hn2
  have HC2 := Lib.hid hc2'
  have hl2 : (cat ps2).length ≤ 100000000000 := by rw [hc2', List.length_append, HL.out]; omega
  clear hA2 ho2 hn2 hc2' hq2 HPU
  go_wp2_with fail
  refine (fill_any B f q ps2 word count (pushed + len) false w2 HA2.out hl2).mono ?_
  rintro e w3 ⟨rfl, ps3, word3, count3, hF, h32⟩
  have HF := Lib.hid hF
  have H32 := Lib.hid h32
  clear hF h32
  go_wp2_with fail
  go_end0
  have hO2 : Only (FFoot f q ps) w w2 := HO.out.trans HO2.out (fun i _ e => .inr e)
  have hs1 := HO.out.size
  have hs2 := hO2.size
  have hsub : ∀ k, FFoot f q ps2 k → FFoot f q ps k ∨ w.heap.size ≤ k := by
    rintro k (e | e)
    · exact .inl (.inl e)
    · rcases HN2.out k e with e | e
      · exact .inl (.inr e)
      · exact .inr (by omega)
  refine ⟨rfl, FFoot f q ps3, ⟨q, ps3, word3, count3, HF.out.at_, H32.out, ?_, rfl⟩, hO2.trans HF.out.only (fun i hi e => ?_), fun k hk => ?_⟩
  · rw [HF.out.eq, H3.out]
    unfold bits'
    rw [HC2.out, bitsOf_append, List.append_assoc]
  · rcases hsub i e with e | e
    · exact e
    · omega
  · refine hsub k ?_
    rcases hk with e | e
    · exact .inl e
    · exact .inr (HF.out.sub k e)

/-! ### Take -/
/-- What Take tells: the bytes, an error, the bits that are left. -/
def takeBits (bs : List Bool) (n : Int) : List Bool := if n < 0 then bs else if ((bs.length / 8 : Nat) : Int) < n then bs.drop (bs.length % 8) else (bs.drop (bs.length % 8)).drop (8 * n.toNat)
def takeCode (bs : List Bool) (n : Int) : Int := if n < 0 then 1 else if ((bs.length / 8 : Nat) : Int) < n then 5 else 0
def takeBytes (bs : List Bool) (n : Int) : List Bool := if n < 0 then [] else if ((bs.length / 8 : Nat) : Int) < n then [] else (bs.drop (bs.length % 8)).take (8 * n.toNat)

def Taken (B f : Nat) (F : Nat → Prop) (bs : List Bool) (pushed : Nat) (ended : Bool) (n : Int) (w : World) (e : Ending) (w' : World) : Prop :=
  ∃ a c l, e = .returned (.tuple #[.slice a l.length c, .int .i64 (takeCode bs n)]) ∧ Bytes w' a l.length c l ∧ bitsOf l = takeBytes bs n ∧ Done B f F w (takeBits bs n) pushed ended w'

theorem next_fed (n : Nat) (B f pushed : Nat) (F : Nat → Prop) (bs : List Bool) (ended : Bool) (w : World) (h : Fed B w f F bs pushed ended) (h8 : bs.length % 8 = 0) (hn : 8 * n ≤ bs.length) (hl : bs.length ≤ 10000000000) :
    Calls Tryz.prog 77 #[.pointer (some ⟨f, 0, none⟩), .int .i64 (n : Int)] w fun e w' => ∃ v l, e = .returned v ∧ Own 5 w.heap.size w' v l ∧ Below w.heap.size w w' ∧ bitsOf l = bs.take (8 * n) := by
  obtain ⟨q, ps, word, count, h1, h2, rfl, rfl⟩ := h
  rw [bits_len] at h8 hn hl
  exact next_any B f q ps word count pushed n ended w h1 (by omega) hn (by omega)

theorem own_lower {E : TypeId} {B B' : Nat} {w : World} {v : Value} {l : List UInt8} (h : Own E B w v l) (hB : B' ≤ B) : Own E B' w v l := by
  obtain ⟨h1, h2⟩ := h
  refine ⟨h1, ?_⟩
  rcases h2 with h2 | ⟨g, cap, cur, h3, h4, h5⟩
  · exact .inl h2
  · exact .inr ⟨g, cap, cur, h3, by omega, h5⟩
/-- The same, with where the row lies: apart from the feed. -/
def TakenO (B f : Nat) (F : Nat → Prop) (bs : List Bool) (pushed : Nat) (ended : Bool) (n : Int) (w : World) (e : Ending) (w' : World) : Prop :=
  ∃ a c l, e = .returned (.tuple #[.slice a l.length c, .int .i64 (takeCode bs n)]) ∧ Own 5 w.heap.size w' (.slice a l.length c) l ∧ bitsOf l = takeBytes bs n ∧
    ∃ F', Fed B w' f F' (takeBits bs n) pushed ended ∧ Only F w w' ∧ (∀ k, F' k → F k ∨ w.heap.size ≤ k) ∧ ∀ k, Value.ownBlock (.slice a l.length c) = some k → ¬ F' k
theorem TakenO.none_ {B f : Nat} {F : Nat → Prop} {bs bs2 : List Bool} {pushed : Nat} {ended : Bool} {n z : Int} {w w' : World} (h1 : takeCode bs n = z) (h2 : takeBytes bs n = []) (h3 : takeBits bs n = bs2) (h : Done B f F w bs2 pushed ended w') :
    TakenO B f F bs pushed ended n w (.returned (.tuple #[.slice none 0 0, .int .i64 z])) w' := by
  obtain ⟨F', a1, a2, a3⟩ := h
  exact ⟨none, 0, [], by rw [h1]; rfl, Own.nil _ _ _, by rw [h2]; rfl, F', by rw [h3]; exact a1, a2, a3, fun k hk => by cases hk⟩

set_option maxHeartbeats 2000000 in
theorem take_own (n : Int) (B f pushed : Nat) (F : Nat → Prop) (bs : List Bool) (ended : Bool) (w : World) (h : Fed B w f F bs pushed ended) (hl : bs.length ≤ 1000000000) :
    Calls Tryz.prog 56 #[.pointer (some ⟨f, 0, none⟩), .int .i64 n] w (TakenO B f F bs pushed ended n w) := by
  have H := Lib.hid h
  clear h
  by_cases h0 : n < 0
  · have HC : Hid (takeCode bs n = 1 ∧ takeBits bs n = bs ∧ takeBytes bs n = []) := Lib.hid ⟨if_pos h0, if_pos h0, if_pos h0⟩
    go_enter Tryz.func56, Tryz.ntmps56
    go_wp2_with fail
    go_ret2
    exact TakenO.none_ HC.out.1 HC.out.2.2 HC.out.2.1 (Done.refl H.out)
  · obtain ⟨m, rfl⟩ : ∃ m : Nat, n = (m : Int) := ⟨n.toNat, by omega⟩
    obtain ⟨bs1, hbs1⟩ : ∃ x, x = bs.drop (bs.length % 8) := ⟨_, rfl⟩
    have hl1 : bs1.length = 8 * (bs.length / 8) := by rw [hbs1, List.length_drop]; omega
    have HB := Lib.hid hbs1
    have HL1 := Lib.hid hl1
    have hl2 : bs1.length ≤ 1000000000 := by omega
    have hdv : bs1.length / 8 = bs.length / 8 := by omega
    have HDV := Lib.hid hdv
    clear hbs1
    by_cases hm : bs1.length / 8 < m
    · have HC : Hid (takeCode bs m = 5 ∧ takeBits bs m = bs1 ∧ takeBytes bs m = []) := Lib.hid ⟨by unfold takeCode; rw [if_neg h0, if_pos (by omega)], by unfold takeBits; rw [if_neg h0, if_pos (by omega), HB.out], by unfold takeBytes; rw [if_neg h0, if_pos (by omega)]⟩
      clear hl1 hdv
      go_enter Tryz.func56, Tryz.ntmps56
      go_wp2_with fail
      refine (align_any B f pushed F bs ended w H.out (by omega)).mono ?_
      rw [← HB.out]
      rintro e w1 ⟨rfl, F1, hf1, ho1, hs1⟩
      have HF1 := Lib.hid hf1
      have HO1 := Lib.hid ho1
      have HS1 := Lib.hid hs1
      clear hf1 ho1 hs1
      go_wp2_with fail
      refine (bits_any B f pushed F1 bs1 ended w1 HF1.out (by omega)).mono ?_
      rintro e w' ⟨rfl, k, rfl⟩
      go_wp2_with fail
      go_ret2
      exact TakenO.none_ HC.out.1 HC.out.2.2 HC.out.2.1 (Done.trans HO1.out HS1.out (Done.drewN HF1.out k))
    · have HC : Hid (takeCode bs m = 0 ∧ takeBits bs m = bs1.drop (8 * m) ∧ takeBytes bs m = bs1.take (8 * m)) := Lib.hid ⟨by unfold takeCode; rw [if_neg h0, if_neg (by omega)], by unfold takeBits; rw [if_neg h0, if_neg (by omega), HB.out]; rfl, by unfold takeBytes; rw [if_neg h0, if_neg (by omega), HB.out]; rfl⟩
      have hm8 : 8 * m ≤ bs1.length := by omega
      have h8 : bs1.length % 8 = 0 := by omega
      have H8 := Lib.hid h8
      clear hl1 hdv h8
      by_cases hz : m = 0
      · subst hz
        go_enter Tryz.func56, Tryz.ntmps56
        go_wp2_with fail
        refine (align_any B f pushed F bs ended w H.out (by omega)).mono ?_
        rw [← HB.out]
        rintro e w1 ⟨rfl, F1, hf1, ho1, hs1⟩
        have HF1 := Lib.hid hf1
        have HO1 := Lib.hid ho1
        have HS1 := Lib.hid hs1
        clear hf1 ho1 hs1
        go_wp2_with fail
        refine (bits_any B f pushed F1 bs1 ended w1 HF1.out (by omega)).mono ?_
        rintro e w' ⟨rfl, k, rfl⟩
        go_wp2_with fail
        go_ret2
        exact TakenO.none_ HC.out.1 HC.out.2.2 HC.out.2.1 (Done.trans HO1.out HS1.out (Done.drewN HF1.out k))
      · have hmz : ((m : Int) == 0) = false := by simp; omega
        have hw8 : IntKind.i64.wrap (8 * (m : Int)) = ((8 * m : Nat) : Int) := by rw [IntWalk.i64_in _ (by omega)]; omega
        go_enter Tryz.func56, Tryz.ntmps56
        go_wp2_with fail
        refine (align_any B f pushed F bs ended w H.out (by omega)).mono ?_
        rw [← HB.out]
        rintro e w1 ⟨rfl, F1, hf1, ho1, hs1⟩
        have HF1 := Lib.hid hf1
        have HO1 := Lib.hid ho1
        have HS1 := Lib.hid hs1
        clear hf1 ho1 hs1
        go_wp2_with fail
        refine (bits_any B f pushed F1 bs1 ended w1 HF1.out (by omega)).mono ?_
        rintro e w' ⟨rfl, k, rfl⟩
        go_wp2_with fail
        refine (next_fed m B f pushed F1 bs1 ended _ (HF1.out.drewN k) H8.out hm8 (by omega)).mono ?_
        rintro e w2 ⟨v, l, rfl, hv, hb2, hbl⟩
        have HV := Lib.hid hv
        have HB2 := Lib.hid hb2
        have HBL := Lib.hid hbl
        have HF2 := Lib.hid ((HF1.out.drewN k).below hb2)
        obtain ⟨a, c, rfl, hby⟩ := hv.bytes
        clear hv hb2 hbl hby
        go_wp2_with fail
        refine (use_fed (8 * m) B f pushed F1 bs1 ended w2 HF2.out hm8 (by omega)).mono ?_
        rintro e w3 ⟨rfl, hd⟩
        have HD := Lib.hid hd
        clear hd
        go_wp2_with fail
        go_ret2
        have hO2 : Only F w w2 := (HO1.out.drewN k).then_below HB2.out
        have hsz := HB2.out.size
        obtain ⟨F3, h1, h2, h3⟩ := HD.out
        have hlie : ∀ j, Value.ownBlock (.slice a l.length c) = some j → w1.heap.size ≤ j ∧ j < w2.heap.size := fun j hj => by
          have := World.ownsRow.lt HV.out j hj
          simpa [World.drewN] using this
        have hF1 : ∀ j, F1 j → j < w1.heap.size := fun j hj => (HF1.out.lt j hj).2
        have ho : Own 5 w.heap.size w3 (.slice a l.length c) l := by
          have h4 := h2.own HV.out (fun j hj hF => by have := hlie j hj; have := hF1 j hF; omega)
          have h5 := HO1.out.size
          exact own_lower h4 (by simpa [World.drewN] using h5)
        obtain ⟨F4, k1, k2, k3⟩ := Done.trans hO2 HS1.out (show Done B f F1 w2 (bs1.drop (8 * m)) pushed ended w3 from ⟨F3, h1, h2, h3⟩)
        refine ⟨a, c, l, by rw [HC.out.1]; rfl, ho, by rw [HC.out.2.2]; exact HBL.out, F3, by rw [HC.out.2.1]; exact h1, k2, fun j hj => ?_, fun j hj hF => ?_⟩
        · rcases h3 j hj with e | e
          · exact HS1.out j e
          · have := HO1.out.size; have := HB2.out.size; simp [World.drewN] at this; exact .inr (by omega)
        · have h6 := hlie j hj
          rcases h3 j hF with e | e
          · have := hF1 j e; omega
          · omega
theorem take_any (n : Int) (B f pushed : Nat) (F : Nat → Prop) (bs : List Bool) (ended : Bool) (w : World) (h : Fed B w f F bs pushed ended) (hl : bs.length ≤ 1000000000) :
    Calls Tryz.prog 56 #[.pointer (some ⟨f, 0, none⟩), .int .i64 n] w (Taken B f F bs pushed ended n w) := by
  refine (take_own n B f pushed F bs ended w h hl).mono ?_
  rintro e w' ⟨a, c, l, rfl, ho, h1, F', h2, h3, h4, -⟩
  obtain ⟨a', c', heq, hby⟩ := ho.bytes
  simp only [Value.slice.injEq, true_and] at heq
  obtain ⟨rfl, rfl⟩ := heq
  exact ⟨a, c, l, rfl, hby, h1, F', h2, h3, h4⟩
end Go.Proofs.YtjejlhpnhkacmaaGreatDoor.FeedC
end

section
namespace Go.Proofs.YtjejlhpnhkacmaaGreatDoor.FeedC
open Go.RowKit Go.My BitMath RefC

/-! ### no bytes at all, wherever they lie -/
theorem push_q0 (B q n : Nat) (ps : List Pc) (w : World) (h : QAt B w q ps n) (a : Option Addr) (cap : Nat) (hn : n ≤ 100000000000) :
    Calls Tryz.prog 26 #[.pointer (some ⟨q, 0, none⟩), .slice a 0 cap] w fun e w' => e = .returned (.tuple #[]) ∧ QAt B w' q ps n ∧ Only (fun k => k = q) w w' := by
  have hq2 := h.blk.cell 2
  have hf2 := h.blk.frozen 2
  simp only [List.getElem?_toArray, List.getElem?_cons_zero, List.getElem?_cons_succ] at hq2
  have hO : Only (fun k => k = q) w (w.setCell ⟨q, 2, none⟩ (.int .i64 (n : Int))) := (Only.refl (fun k => k = q) w).setCell (p := ⟨q, 2, none⟩) (fun _ => rfl) _
  have hQ : QAt B (w.setCell ⟨q, 2, none⟩ (.int .i64 (n : Int))) q ps n := ⟨h.blk.set_ 2 _, Chain.only hO h.chain (fun k hk e => h.far (e ▸ hk)), h.apart, h.full, h.base⟩
  have HO := Lib.hid hO
  have HQ := Lib.hid hQ
  clear h hO hQ
  go_enter Tryz.func26, Tryz.ntmps26
  go_wp2_with fail
  generalize w.setCell ⟨q, 2, none⟩ (.int .i64 (n : Int)) = w1 at *
  clear hq2 hf2
  go_loopw [1] (fun sb wr => sb = .slice a 0 cap ∧ w1 = wr) (fun _ _ => 0)
  case atStart => exact ⟨rfl, rfl⟩
  case round =>
    obtain ⟨rfl, rfl⟩ := hrel
    go_wp2_with fail
    go_end0
    exact ⟨rfl, HQ.out, HO.out⟩

set_option maxRecDepth 100000 in
set_option maxHeartbeats 2000000 in
theorem push_zero (B f pushed : Nat) (F : Nat → Prop) (bs : List Bool) (w : World) (h : Fed B w f F bs pushed false) (a : Option Addr) (cap : Nat) (hl : bs.length ≤ 1000000000) (hp : pushed ≤ 1000000000) :
    Calls Tryz.prog 17 #[.pointer (some ⟨f, 0, none⟩), .slice a 0 cap] w fun e w' => e = .returned (.tuple #[]) ∧ Done B f F w bs pushed false w' := by
  obtain ⟨q, ps, word, count, h1, h2, h3, rfl⟩ := h
  have hc4 := h1.blk.cell 4
  have hc2 := h1.blk.cell 2
  have hc3 := h1.blk.cell 3
  have hf3 := h1.blk.frozen 3
  simp only [List.getElem?_toArray, List.getElem?_cons_zero, List.getElem?_cons_succ] at hc2 hc3 hc4
  have hO : Only (fun k => k = f) w (w.setCell ⟨f, 3, none⟩ (.int .i64 (pushed : Int))) := (Only.refl (fun k => k = f) w).setCell (p := ⟨f, 3, none⟩) (fun _ => rfl) _
  have hA : FAt B (w.setCell ⟨f, 3, none⟩ (.int .i64 (pushed : Int))) f q ps word count pushed false :=
    ⟨h1.blk.set_ 3 _, h1.que.only hO (fun e => h1.far (Or.inl e.symm)) (fun k hk e => h1.far (Or.inr (e ▸ hk))), h1.base, h1.small, h1.most⟩
  have hbl : bs.length = count + 8 * (cat ps).length := by rw [h3, bits_len]
  have HPU := Lib.hid (push_q0 B q (cat ps).length ps _ hA.que a cap (by omega))
  have HA := Lib.hid hA
  have HO : Hid (Only (FFoot f q ps) w (w.setCell ⟨f, 3, none⟩ (.int .i64 (pushed : Int)))) := Lib.hid (hO.mono (fun k _ e => .inl e))
  have H3 := Lib.hid h3
  clear h1 h2 h3 hO hA
  go_enter Tryz.func17, Tryz.ntmps17
  go_wp2_with fail
  refine HPU.out.mono ?_
  rintro e w2 ⟨rfl, hq2, ho2⟩
  have hA2 : FAt B w2 f q ps word count pushed false := ⟨ho2.blk HA.out.blk (fun e => HA.out.far (Or.inl e)), hq2, HA.out.base, HA.out.small, HA.out.most⟩
  have HA2 := Lib.hid hA2
  have HO2 := Lib.hid ho2
  clear hA2 ho2 hq2 HPU
  go_wp2_with fail
  refine (fill_any B f q ps word count pushed false w2 HA2.out (by omega)).mono ?_
  rintro e w3 ⟨rfl, ps3, word3, count3, hF, h32⟩
  have HF := Lib.hid hF
  have H32 := Lib.hid h32
  clear hF h32
  go_wp2_with fail
  go_end0
  have hO2 : Only (FFoot f q ps) w w2 := HO.out.trans HO2.out (fun i _ e => .inr (.inl e))
  refine ⟨rfl, FFoot f q ps3, ⟨q, ps3, word3, count3, HF.out.at_, H32.out, by rw [HF.out.eq, H3.out], rfl⟩, hO2.trans HF.out.only (fun i hi e => e), fun k hk => ?_⟩
  rcases hk with e | e
  · exact .inl (.inl e)
  · exact .inl (.inr (HF.out.sub k e))

theorem push_in (B f pushed : Nat) (F : Nat → Prop) (bs : List Bool) (w0 w : World) (h : Fed B w f F bs pushed false) (hB : w0.heap.size ≤ B) (hb0 : Below w0.heap.size w0 w) (a : Option Addr) (len cap : Nat) (l : List UInt8) (hb : Bytes w0 a len cap l)
    (hl : bs.length ≤ 1000000000) (hp : pushed ≤ 1000000000) (hlen : len ≤ 1000000000) :
    Calls Tryz.prog 17 #[.pointer (some ⟨f, 0, none⟩), .slice a len cap] w fun e w' => e = .returned (.tuple #[]) ∧ Done B f F w (bs ++ bitsOf l) (pushed + len) false w' := by
  rcases hb.at_ with h0 | ⟨b, off, ha, hs, hc⟩
  · subst h0
    have : l = [] := List.length_eq_zero_iff.1 hb.len_eq
    subst this
    rw [bitsOf_nil, List.append_nil]
    exact push_zero B f pushed F bs w h a cap hl hp
  · exact push_open B f pushed F bs w h a len cap l (hb.below (Nat.le_refl _) hb0) (fun b' off' e hF => by
      rw [ha] at e; cases e
      have := (h.lt b hF).1; omega) hl hp hlen

end Go.Proofs.YtjejlhpnhkacmaaGreatDoor.FeedC
end
