import Derived.Test.YtdbcendnibgcaaaGreatDoorMgAb
import Derived.Test.YtdbcendnibgcaaaGreatDoorMgAi
import Derived.Laws.CopyOwn
import Derived.Deep.RegionLaw
import Derived.Laws.MakeOwn

section
namespace Go.Proofs.YtdbcendnibgcaaaGreatDoor.FeedC
open Go.RowKit Go.My BitMath

/-- copy(row, row[m:]): what a row of bytes of the call's own is behind it. -/
theorem wp_copy_front {P : Program} {w : World} {o : Oper} {a : Act} {K : Act → World → Prop} {Q : Exit → Act → World → Prop} (d s : Operand) (T : TypeId)
    (ho : o.op = .call { callee := .builtin .copy, args := #[d, s], argTypes := #[T, T] }) (E : TypeId) (hu : P.underlying T = some (.slice E)) (hsz : (P.info? E).map (·.size) = some 1)
    (B g c L : Nat) (l : List UInt8) (hown : Own E B w (.slice (some ⟨g, 0, none⟩) L c) l) (hL : l.length = L) (m : Nat) (hm : m ≤ L) (sp : Option Addr) (n sc : Nat) (hn : n = L - m)
    (hd : a.eval d = .slice (some ⟨g, 0, none⟩) L c) (hs : a.eval s = .slice sp n sc) (hsp : 0 < n → sp = some ⟨g, m, none⟩)
    (h : ∀ w', Only (fun k => g = k) w w' → Own E B w' (.slice (some ⟨g, 0, none⟩) n c) (l.drop m) → K (a.put o.dst (.int .i64 (n : Int))) w') : o.wp P a w K Q := by
  subst hL
  obtain ⟨h1, h2 | ⟨g', c', cur, hv, hb, hg, hnc, hcm, hcs, hx⟩⟩ := hown
  · simp at h2
  · simp only [Value.slice.injEq, Option.some.injEq, Addr.mk.injEq, and_true, true_and] at hv
    obtain ⟨rfl, rfl⟩ := hv
    by_cases h0 : n = 0
    · subst h0
      have hrun := run_copy_none (P := P) w T T o.type E (some ⟨g, 0, none⟩) sp l.length c 0 sc hu hsz (by simp)
      unfold Oper.wp execOp
      simp only [ho, resolve, invoke, builtin, Sem.run_bind, Sem.run_pure, Result.andThen_ok, List.map_toArray, List.map_cons, List.map_nil, hd, hs, hrun]
      refine h w (Only.refl _ _) ?_
      rw [List.drop_of_length_le (by omega)]
      exact ⟨rfl, .inr ⟨g, c, cur, rfl, hb, hg, Nat.zero_le _, hcm, hcs, by simp⟩⟩
    · have hsp := hsp (by omega)
      subst hsp
      have hlen : ((l.drop m).map bv).length = n := by simp; omega
      have hrun := run_copy_row (P := P) w T T o.type E g 0 l.length c ⟨g, m, none⟩ n sc cur E ((l.drop m).map bv) hu hsz hg (by rw [hlen]; show n = min n l.length; omega) ?_ (by rw [hlen]; omega) ?_
      · rw [hlen] at hrun
        unfold Oper.wp execOp
        simp only [ho, resolve, invoke, builtin, Sem.run_bind, Sem.run_pure, Result.andThen_ok, List.map_toArray, List.map_cons, List.map_nil, hd, hs, hrun]
        refine h _ ⟨rfl, rfl, rfl, by simp, fun k _ hk => setRow_other w g k _ (fun e => hk e.symm)⟩ ?_
        unfold Own
        rw [show (l.drop m).length = n from by simp; omega]
        refine ⟨by rw [hlen]; omega, .inr ⟨g, c, _, rfl, hb, setRow_heap w g _ _ E _ hg, by omega, hcm, ?_, ?_⟩⟩
        · have hz : cur.toList.length = c * 1 := by rw [Array.length_toList, hcs]
          simp; omega
        · rw [List.take_zero, List.nil_append, List.toList_toArray, Nat.mul_one, List.take_append_of_le_length (by rw [hlen]; omega), List.take_of_length_le (by rw [hlen]; omega)]
      · intro j v hv
        have hj : j < n := by rw [← hlen]; exact (List.getElem?_eq_some_iff.1 hv).1
        rw [addr_add, cell_of_row _ _ _ _ _ _ hg, ← Array.getElem?_toList]
        rw [List.getElem?_map, List.getElem?_drop] at hv
        have e : (cur.toList.take (l.length * 1))[m + j]? = (l.map bv)[m + j]? := by rw [hx]
        rw [List.getElem?_take, if_pos (by omega)] at e
        rw [e, List.getElem?_map]
        exact hv
      · intro v hv
        obtain ⟨b, _, rfl⟩ := List.mem_map.1 hv
        rfl
theorem step_copy_front {P : Program} {w : World} {ops : Array Oper} {o : Oper} {a : Act} {K : Act → World → Prop} {Q : Exit → Act → World → Prop} {F : Prop} (hgd : o.guard = none) (d s : Operand) (T : TypeId)
    (ho : o.op = .call { callee := .builtin .copy, args := #[d, s], argTypes := #[T, T] }) (E : TypeId) (hu : P.underlying T = some (.slice E)) (hsz : (P.info? E).map (·.size) = some 1)
    (B g c L : Nat) (l : List UInt8) (hown : Own E B w (.slice (some ⟨g, 0, none⟩) L c) l) (hL : l.length = L) (m : Nat) (hm : m ≤ L) (sp : Option Addr) (n sc : Nat) (hn : n = L - m) (N : Nat) (hN : n = N)
    (hd : a.eval d = .slice (some ⟨g, 0, none⟩) L c) (hs : a.eval s = .slice sp n sc) (hsp : 0 < n → sp = some ⟨g, m, none⟩)
    (h : ∀ w', Only (fun k => g = k) w w' → Own E B w' (.slice (some ⟨g, 0, none⟩) N c) (l.drop m) → K (a.put o.dst (.int .i64 (N : Int))) w') :
    if Region.wanted o (yielded ops a.tmps) = true then Oper.wp P o a w K Q else F := by
  subst hN
  have hw : Region.wanted o (yielded ops a.tmps) = true := by simp [Region.wanted, hgd]
  rw [if_pos hw]
  exact wp_copy_front d s T ho E hu hsz B g c L l hown hL m hm sp n sc hn hd hs hsp h

/-- A piece: its own block, its row's, the row's room, its bytes. -/
structure Pc where
  g : Nat
  d : Nat
  c : Nat
  l : List UInt8

/-- Where a list of pieces begins, nx behind it. -/
def hd : List Pc → Option Addr → Option Addr
  | [], nx => nx
  | p :: _, _ => some ⟨p.g, 0, none⟩

structure PcAt (B : Nat) (w : World) (p : Pc) (nx : Option Addr) : Prop where
  blk : Blk w p.g 127 #[.slice (some ⟨p.d, 0, none⟩) p.l.length p.c, .pointer nx]
  own : Own 5 B w (.slice (some ⟨p.d, 0, none⟩) p.l.length p.c) p.l
  base : B ≤ p.g
  most : p.l.length ≤ 64

def Chain (B : Nat) (w : World) : List Pc → Option Addr → Prop
  | [], _ => True
  | p :: t, nx => PcAt B w p (hd t nx) ∧ Chain B w t nx

def cat (ps : List Pc) : List UInt8 := ps.flatMap (·.l)
theorem cat_nil : cat [] = [] := rfl
theorem cat_cons (p : Pc) (t : List Pc) : cat (p :: t) = p.l ++ cat t := rfl
theorem cat_append (a b : List Pc) : cat (a ++ b) = cat a ++ cat b := by unfold cat; simp
theorem cat_one (p : Pc) : cat [p] = p.l := by simp [cat]
theorem hd_append (a b : List Pc) (nx : Option Addr) : hd (a ++ b) nx = hd a (hd b nx) := by cases a <;> rfl

/-- The blocks of a list of pieces. -/
def Foot (ps : List Pc) : Nat → Prop := fun k => ∃ p ∈ ps, k = p.g ∨ k = p.d

theorem PcAt.only {B : Nat} {w w' : World} {p : Pc} {nx : Option Addr} {S : Nat → Prop} (h : PcAt B w p nx) (hk : Only S w w') (h1 : ¬ S p.g) (h2 : ¬ S p.d) : PcAt B w' p nx :=
  ⟨hk.blk h.blk h1, hk.own h.own (fun k e => by simp [Value.ownBlock] at e; subst e; exact h2), h.base, h.most⟩
theorem PcAt.dlt {B : Nat} {w : World} {p : Pc} {nx : Option Addr} (h : PcAt B w p nx) : B ≤ p.d ∧ p.d < w.heap.size := World.ownsRow.lt h.own p.d rfl
theorem PcAt.far {B : Nat} {w : World} {p : Pc} {nx : Option Addr} (h : PcAt B w p nx) {g : Nat} {t : TypeId} {cs : Array Value} (hb : Blk w g t cs) (ht : t ≠ 5) : p.d ≠ g := by
  have := own_len_ne h.own hb ht
  intro e; subst e; exact this rfl
theorem Blk.ne {w : World} {g1 g2 : Nat} {t1 t2 : TypeId} {c1 c2 : Array Value} (h1 : Blk w g1 t1 c1) (h2 : Blk w g2 t2 c2) (ht : t1 ≠ t2) : g1 ≠ g2 := by
  intro e; subst e
  unfold Blk at h1 h2
  rw [h1] at h2
  injection h2 with h2
  injection h2 with _ h2
  exact ht h2

theorem Chain.only {B : Nat} {w w' : World} {S : Nat → Prop} (hk : Only S w w') : ∀ {ps : List Pc} {nx : Option Addr}, Chain B w ps nx → (∀ k, Foot ps k → ¬ S k) → Chain B w' ps nx
  | [], _, _, _ => trivial
  | p :: t, nx, h, hs => ⟨h.1.only hk (hs _ ⟨p, by simp, .inl rfl⟩) (hs _ ⟨p, by simp, .inr rfl⟩), Chain.only hk h.2 (fun k ⟨q, hq, hk⟩ => hs k ⟨q, by simp [hq], hk⟩)⟩
theorem Chain.append {B : Nat} {w : World} : ∀ {a b : List Pc} {nx : Option Addr}, Chain B w (a ++ b) nx ↔ Chain B w a (hd b nx) ∧ Chain B w b nx
  | [], b, nx => by simp [Chain]
  | p :: t, b, nx => by
    rw [List.cons_append, Chain, Chain, hd_append, Chain.append, and_assoc]
theorem Chain.lt {B : Nat} {w : World} : ∀ {ps : List Pc} {nx : Option Addr}, Chain B w ps nx → ∀ k, Foot ps k → B ≤ k ∧ k < w.heap.size
  | [], _, _, k, ⟨p, hp, _⟩ => by simp at hp
  | p :: t, nx, h, k, ⟨q, hq, hk⟩ => by
    rcases List.mem_cons.1 hq with rfl | hq
    · rcases hk with rfl | rfl
      · exact ⟨h.1.base, h.1.blk.lt⟩
      · exact h.1.dlt
    · exact Chain.lt h.2 k ⟨q, hq, hk⟩
theorem Chain.far {B : Nat} {w : World} {g : Nat} {t : TypeId} {cs : Array Value} (hb : Blk w g t cs) (ht : t ≠ 5) (ht2 : t ≠ 127) : ∀ {ps : List Pc} {nx : Option Addr}, Chain B w ps nx → ¬ Foot ps g
  | [], _, _, ⟨p, hp, _⟩ => by simp at hp
  | p :: t, nx, h, ⟨q, hq, hk⟩ => by
    rcases List.mem_cons.1 hq with rfl | hq
    · rcases hk with rfl | rfl
      · exact Blk.ne hb h.1.blk ht2 rfl
      · exact h.1.far hb ht rfl
    · exact Chain.far hb ht ht2 h.2 ⟨q, hq, hk⟩
theorem Chain.at_ {B : Nat} {w : World} : ∀ {ps : List Pc} {nx : Option Addr}, Chain B w ps nx → ∀ p ∈ ps, ∃ nx', PcAt B w p nx'
  | p :: t, nx, h, q, hq => by
    rcases List.mem_cons.1 hq with rfl | hq
    · exact ⟨_, h.1⟩
    · exact Chain.at_ h.2 q hq

/-- All blocks apart. -/
def Apart (ps : List Pc) : Prop := (ps.map (·.g)).Nodup ∧ (ps.map (·.d)).Nodup
/-- Every piece but the last one holds something. -/
def Full (ps : List Pc) : Prop := ∀ p ∈ ps.dropLast, p.l ≠ []

/-- A queue: its block, its pieces; n is the number that it bears. -/
structure QAt (B : Nat) (w : World) (q : Nat) (ps : List Pc) (n : Nat) : Prop where
  blk : Blk w q 121 #[.pointer (hd ps none), .pointer (ps.getLast?.map fun p => ⟨p.g, 0, none⟩), .int .i64 (n : Int)]
  chain : Chain B w ps none
  apart : Apart ps
  full : Full ps
  base : B ≤ q

theorem QAt.far {B : Nat} {w : World} {q n : Nat} {ps : List Pc} (h : QAt B w q ps n) : ¬ Foot ps q := Chain.far h.blk (by decide) (by decide) h.chain
theorem QAt.only {B : Nat} {w w' : World} {q n : Nat} {ps : List Pc} {S : Nat → Prop} (h : QAt B w q ps n) (hk : Only S w w') (hq : ¬ S q) (hs : ∀ k, Foot ps k → ¬ S k) : QAt B w' q ps n :=
  ⟨hk.blk h.blk hq, Chain.only hk h.chain hs, h.apart, h.full, h.base⟩
theorem QAt.below {B : Nat} {w w' : World} {q n : Nat} {ps : List Pc} (h : QAt B w q ps n) (hk : Below w.heap.size w w') : QAt B w' q ps n :=
  h.only (Only.of_below hk (fun _ => False)) (fun h => h) (fun _ _ h => h)
/-- The queue's own and its pieces' blocks. -/
def QFoot (q : Nat) (ps : List Pc) : Nat → Prop := fun k => k = q ∨ Foot ps k
theorem QAt.lt {B : Nat} {w : World} {q n : Nat} {ps : List Pc} (h : QAt B w q ps n) : ∀ k, QFoot q ps k → B ≤ k ∧ k < w.heap.size := by
  rintro k (rfl | hk)
  · exact ⟨h.base, h.blk.lt⟩
  · exact Chain.lt h.chain k hk

/-! ### one piece turned -/
theorem mid_g {B : Nat} {w : World} {xs ys : List Pc} {z : Pc} {nx : Option Addr} (h : Chain B w (xs ++ z :: ys) nx) (ha : Apart (xs ++ z :: ys)) : ¬ Foot (xs ++ ys) z.g := by
  rintro ⟨p, hp, e⟩
  have hz := (Chain.append.1 h).2.1
  obtain ⟨nx', hpa⟩ := Chain.at_ h p (by simp at hp ⊢; rcases hp with h | h <;> simp [h])
  rcases e with e | e
  · have hn := ha.1
    simp only [List.map_append, List.map_cons] at hn
    rw [List.nodup_append, List.nodup_cons] at hn
    rcases List.mem_append.1 hp with hp | hp
    · exact hn.2.2 _ (List.mem_map_of_mem hp) _ (by simp) e.symm
    · exact hn.2.1.1 (by rw [e]; exact List.mem_map_of_mem hp)
  · exact hpa.far hz.blk (by decide) e.symm
theorem mid_d {B : Nat} {w : World} {xs ys : List Pc} {z : Pc} {nx : Option Addr} (h : Chain B w (xs ++ z :: ys) nx) (ha : Apart (xs ++ z :: ys)) : ¬ Foot (xs ++ ys) z.d := by
  rintro ⟨p, hp, e⟩
  have hz := (Chain.append.1 h).2.1
  obtain ⟨nx', hpa⟩ := Chain.at_ h p (by simp at hp ⊢; rcases hp with h | h <;> simp [h])
  rcases e with e | e
  · exact hz.far hpa.blk (by decide) e
  · have hn := ha.2
    simp only [List.map_append, List.map_cons] at hn
    rw [List.nodup_append, List.nodup_cons] at hn
    rcases List.mem_append.1 hp with hp | hp
    · exact hn.2.2 _ (List.mem_map_of_mem hp) _ (by simp) e.symm
    · exact hn.2.1.1 (by rw [e]; exact List.mem_map_of_mem hp)

/-- What a call may turn when it turns piece z. -/
def Turns (q : Nat) (z : Pc) : Nat → Prop := fun k => k = q ∨ k = z.g ∨ k = z.d
theorem Foot.left {xs ys : List Pc} {k : Nat} (h : Foot xs k) : Foot (xs ++ ys) k := let ⟨p, hp, e⟩ := h; ⟨p, by simp [hp], e⟩
theorem Foot.right {xs ys : List Pc} {k : Nat} (h : Foot ys k) : Foot (xs ++ ys) k := let ⟨p, hp, e⟩ := h; ⟨p, by simp [hp], e⟩
theorem QAt.turned {B : Nat} {w w' : World} {q n n' : Nat} {xs ys : List Pc} {z z' : Pc} (h : QAt B w q (xs ++ z :: ys) n) (hk : Only (Turns q z) w w') (hz : PcAt B w' z' (hd ys none)) (hg : z'.g = z.g) (hd' : z'.d = z.d ∨ w.heap.size ≤ z'.d)
    (hb : Blk w' q 121 #[.pointer (hd (xs ++ z :: ys) none), .pointer ((xs ++ z :: ys).getLast?.map fun p => ⟨p.g, 0, none⟩), .int .i64 (n' : Int)]) (hf : ys ≠ [] → z'.l ≠ []) :
    QAt B w' q (xs ++ z' :: ys) n' := by
  have hmg := mid_g h.chain h.apart
  have hmd := mid_d h.chain h.apart
  have hq := h.far
  have hc := Chain.append.1 h.chain
  have hS : ∀ k, Foot (xs ++ ys) k → ¬ Turns q z k := by
    intro k hfo hT
    rcases hT with rfl | rfl | rfl
    · refine hq ?_
      obtain ⟨p, hp, e⟩ := hfo
      exact ⟨p, by simp at hp ⊢; rcases hp with h | h <;> simp [h], e⟩
    · exact hmg hfo
    · exact hmd hfo
  refine ⟨?_, Chain.append.2 ⟨?_, hz, Chain.only hk hc.2.2 (fun k hk => hS k hk.right)⟩, ⟨?_, ?_⟩, ?_, h.base⟩
  · have e1 : hd (xs ++ z' :: ys) none = hd (xs ++ z :: ys) none := by cases xs <;> simp [hd, hg]
    have e2 : ((xs ++ z' :: ys).getLast?.map fun p => (⟨p.g, 0, none⟩ : Addr)) = ((xs ++ z :: ys).getLast?.map fun p => ⟨p.g, 0, none⟩) := by
      cases ys with
      | nil => simp [hg]
      | cons y t => simp
    rw [e1, e2]; exact hb
  · have := Chain.only hk hc.1 (fun k hk => hS k hk.left)
    simp only [hd] at this ⊢
    rw [hg]; exact this
  · have := h.apart.1
    simpa [hg] using this
  · have hn := h.apart.2
    simp only [List.map_append, List.map_cons] at hn ⊢
    rcases hd' with hd' | hd'
    · rw [hd']; exact hn
    · rw [List.nodup_append, List.nodup_cons] at hn ⊢
      have hlt : ∀ p ∈ xs ++ ys, p.d < w.heap.size := fun p hp => by
        obtain ⟨nx', hpa⟩ := Chain.at_ h.chain p (by simp at hp ⊢; rcases hp with h | h <;> simp [h])
        exact hpa.dlt.2
      refine ⟨hn.1, ⟨?_, hn.2.1.2⟩, ?_⟩
      · intro hm
        obtain ⟨p, hp, e⟩ := List.mem_map.1 hm
        have := hlt p (by simp [hp]); omega
      · intro a ha b hb e
        subst e
        rcases List.mem_cons.1 hb with rfl | hb
        · obtain ⟨p, hp, e⟩ := List.mem_map.1 ha
          have := hlt p (by simp [hp]); omega
        · exact hn.2.2 a ha a (by simp [hb]) rfl
  · intro p hp
    have hfu := h.full
    unfold Full at hfu
    rw [List.dropLast_append_of_ne_nil (by simp)] at hp hfu
    rcases List.mem_append.1 hp with hp | hp
    · exact hfu p (by simp [hp])
    · cases ys with
      | nil => simp at hp
      | cons y t =>
        rw [List.dropLast_cons_cons] at hp hfu
        rcases List.mem_cons.1 hp with rfl | hp
        · exact hf (by simp)
        · exact hfu p (by simp [hp])
end Go.Proofs.YtdbcendnibgcaaaGreatDoor.FeedC
end

section
namespace Go.My
open Go.RowKit
theorem Blk.set_far {w : World} {g b : Nat} {t : TypeId} {cs : Array Value} (h : Blk w g t cs) (hb : b ≠ g) (i : Nat) (u : Value) : Blk (w.setCell ⟨b, i, none⟩ u) g t cs :=
  Only.blk (S := fun k => k = b) ((Only.refl (fun k => k = b) w).setCell (p := ⟨b, i, none⟩) (fun _ => rfl) u) h (fun e => hb e.symm)

end Go.My
namespace Go.Proofs.YtdbcendnibgcaaaGreatDoor.FeedC
open Go.RowKit Go.My BitMath RefC

/-- What extend leaves. -/
def Extended (B q n : Nat) (ps : List Pc) (w : World) (e : Ending) (w' : World) : Prop :=
  e = .returned (.tuple #[]) ∧ ∃ p : Pc, p.l = [] ∧ QAt B w' q (ps ++ [p]) n ∧ Only (QFoot q ps) w w' ∧ w.heap.size ≤ p.g ∧ w.heap.size ≤ p.d

theorem piece_new {B : Nat} {w1 : World} {d c : Nat} (hown : Own 5 B w1 (.slice (some ⟨d, 0, none⟩) 0 c) []) (hB : B ≤ w1.heap.size) :
    PcAt B (w1.alloc (.cells #[.slice (some ⟨d, 0, none⟩) 0 c, .pointer none] 127)) ⟨w1.heap.size, d, c, []⟩ none :=
  ⟨Blk.new _ _ _, hown.below (Nat.le_refl _) ((Below.refl _ _).alloc (Nat.le_refl _) _), hB, by simp⟩

set_option maxRecDepth 100000 in
set_option maxHeartbeats 2000000 in
theorem extend_first (B q n : Nat) (w : World) (h : QAt B w q [] n) : Calls Tryz.prog 76 #[.pointer (some ⟨q, 0, none⟩)] w (Extended B q n [] w) := by
  have HQ := Lib.hid h
  have hBs : B ≤ w.heap.size := by have := h.base; have := h.blk.lt; omega
  clear h
  go_enter Tryz.func76, Tryz.ntmps76
  go_wp2_with (at_make; refine wpList_make_cap _ rfl _ _ 22 rfl B 5 Tryz.underlying22 info5 .i64 .i64 64 64 rfl rfl rfl (by omega) hBs ?_)
  intro w1 hown hg
  have hO1 := (Only.refl (fun _ => False) w).grown hg (fun k _ hk => by cases hk)
  have hb := hO1.blk HQ.out.blk (fun h => h)
  have hb1 := hb.alloc (.cells #[.slice (some ⟨w.heap.size, 0, none⟩) 0 64, .pointer none] 127)
  have HB := Lib.hid hb1
  have HW := Lib.hid hown
  have HO := Lib.hid hO1
  have hq1 := hb1.cell 1
  have hf0 := hb1.frozen 0
  have hf1 := hb1.frozen 1
  have hq0 := hb1.cell 0
  simp only [List.getElem?_toArray, List.getElem?_cons_zero, List.getElem?_cons_succ, List.getLast?_nil, Option.map_none, hd] at hq1 hq0
  clear hb hb1 hown hg hO1
  go_wp2_with fail
  go_end0
  have hp := piece_new (c := 64) HW.out (by have := HO.out.size; omega)
  have hP : Only (fun k => k = q) (w1.alloc (.cells #[.slice (some ⟨w.heap.size, 0, none⟩) 0 64, .pointer none] 127)) (((w1.alloc (.cells #[.slice (some ⟨w.heap.size, 0, none⟩) 0 64, .pointer none] 127)).setCell ⟨q, 0, none⟩ (.pointer (some ⟨w1.heap.size, 0, none⟩))).setCell ⟨q, 1, none⟩ (.pointer (some ⟨w1.heap.size, 0, none⟩))) :=
    ((Only.refl (fun k => k = q) _).setCell (p := ⟨q, 0, none⟩) (fun _ => rfl) _).setCell (p := ⟨q, 1, none⟩) (fun _ => rfl) _
  have hql := HQ.out.blk.lt
  have hs := HO.out.size
  refine ⟨rfl, ⟨w1.heap.size, w.heap.size, 64, []⟩, rfl, ⟨(HB.out.set_ 0 _).set_ 1 _, ⟨hp.only hP (fun e => ?_) (fun e => ?_), trivial⟩, by simp [Apart], by simp [Full], HQ.out.base⟩, ?_, hs, Nat.le_refl _⟩
  · simp at e; omega
  · simp at e; omega
  · exact ((HO.out.mono (fun _ _ h => h.elim)).alloc _).trans hP (fun i _ h => .inl h)

theorem hd_getLast (xs : List Pc) (z p : Pc) : hd (xs ++ [z] ++ [p]) none = hd (xs ++ [z]) none ∧ (xs ++ [z]).getLast? = some z ∧ (xs ++ [z] ++ [p]).getLast? = some p := by
  refine ⟨?_, by simp, by simp⟩
  cases xs <;> simp [hd]

set_option maxRecDepth 100000 in
set_option maxHeartbeats 2000000 in
theorem extend_more (B q n : Nat) (xs : List Pc) (z : Pc) (w : World) (h : QAt B w q (xs ++ [z]) n) (hz : z.l ≠ []) :
    Calls Tryz.prog 76 #[.pointer (some ⟨q, 0, none⟩)] w (Extended B q n (xs ++ [z]) w) := by
  have HQ := Lib.hid h
  have HZ := Lib.hid hz
  have hBs : B ≤ w.heap.size := by have := h.base; have := h.blk.lt; omega
  clear h hz
  go_enter Tryz.func76, Tryz.ntmps76
  go_wp2_with (at_make; refine wpList_make_cap _ rfl _ _ 22 rfl B 5 Tryz.underlying22 info5 .i64 .i64 64 64 rfl rfl rfl (by omega) hBs ?_)
  intro w1 hown hg
  have hO1 := (Only.refl (fun _ => False) w).grown hg (fun k _ hk => by cases hk)
  have hb := hO1.blk HQ.out.blk (fun h => h)
  have hb1 := hb.alloc (.cells #[.slice (some ⟨w.heap.size, 0, none⟩) 0 64, .pointer none] 127)
  have hz1 := (hO1.blk (Chain.append.1 HQ.out.chain).2.1.blk (fun h => h)).alloc (.cells #[.slice (some ⟨w.heap.size, 0, none⟩) 0 64, .pointer none] 127)
  have HZ1 := Lib.hid hz1
  have HB := Lib.hid hb1
  have HW := Lib.hid hown
  have HO := Lib.hid hO1
  have hq1 := hb1.cell 1
  have hf1 := hb1.frozen 1
  have hg1 := hz1.cell 1
  have hgf := hz1.frozen 1
  simp only [List.getElem?_toArray, List.getElem?_cons_zero, List.getElem?_cons_succ, (hd_getLast xs z z).2.1, Option.map_some, hd] at hq1 hg1
  have hzq : z.g ≠ q := Blk.ne hz1 hb1 (by decide)
  have hq1s := (hb1.set_far hzq 1 (.pointer (some ⟨w1.heap.size, 0, none⟩))).cell 1
  have hf1s := (hb1.set_far hzq 1 (.pointer (some ⟨w1.heap.size, 0, none⟩))).frozen 1
  simp only [List.getElem?_toArray, List.getElem?_cons_zero, List.getElem?_cons_succ] at hq1s
  have HNE := Lib.hid hzq
  clear hb hb1 hz1 hown hg hO1 hzq
  go_wp2_with fail
  go_end0
  have hzq := HNE.out
  have hp := piece_new (c := 64) HW.out (by have := HO.out.size; omega)
  obtain ⟨W, hW⟩ : ∃ W, W = w1.alloc (.cells #[.slice (some ⟨w.heap.size, 0, none⟩) 0 64, .pointer none] 127) := ⟨_, rfl⟩
  have hOW : Only (fun _ => False) w W := by rw [hW]; exact HO.out.alloc _
  have hB1 := HB.out
  have hZ1 := HZ1.out
  rw [← hW] at hp hB1 hZ1 ⊢
  have hP : Only (fun k => k = q ∨ k = z.g) W ((W.setCell ⟨z.g, 1, none⟩ (.pointer (some ⟨w1.heap.size, 0, none⟩))).setCell ⟨q, 1, none⟩ (.pointer (some ⟨w1.heap.size, 0, none⟩))) :=
    ((Only.refl (fun k => k = q ∨ k = z.g) _).setCell (p := ⟨z.g, 1, none⟩) (fun _ => .inr rfl) _).setCell (p := ⟨q, 1, none⟩) (fun _ => .inl rfl) _
  have hql := HQ.out.lt
  have hs := HO.out.size
  have hpz := (Chain.append.1 HQ.out.chain).2.1
  have hzl := hpz.blk.lt
  have hmg := mid_g (ys := []) HQ.out.chain HQ.out.apart
  rw [List.append_nil] at hmg
  have hnew : ∀ k, Foot (xs ++ [z]) k → k < w.heap.size := fun k hk => (hql k (.inr hk)).2
  have hq := HQ.out.far
  obtain ⟨e1, e2, e3⟩ := hd_getLast xs z ⟨w1.heap.size, w.heap.size, 64, []⟩
  refine ⟨rfl, ⟨w1.heap.size, w.heap.size, 64, []⟩, rfl, ⟨?_, ?_, ⟨?_, ?_⟩, ?_, HQ.out.base⟩, ?_, hs, Nat.le_refl _⟩
  · rw [e1, e3]
    exact (hB1.set_far hzq _ _).set_ 1 (.pointer (some ⟨w1.heap.size, 0, none⟩))
  · rw [List.append_assoc]
    have hc := Chain.append.1 HQ.out.chain
    refine Chain.append.2 ⟨?_, ?_, ?_, trivial⟩
    · exact Chain.only hP (Chain.only hOW hc.1 (fun _ _ h => h)) (fun k hk e => by
        rcases e with rfl | rfl
        · exact hq hk.left
        · exact hmg hk)
    · have hz' := hc.2.1.only hOW (fun h => h) (fun h => h)
      refine ⟨(hZ1.set_ 1 _).set_far (Ne.symm hzq) _ _, hP.own hz'.own (fun k e hk => ?_), hz'.base, hz'.most⟩
      simp [Value.ownBlock] at e
      subst e
      rcases hk with e | e
      · exact hq ⟨z, by simp, .inr e.symm⟩
      · exact hz'.far hz'.blk (by decide) e
    · refine hp.only hP (fun e => ?_) (fun e => ?_)
      · have := hql q (.inl rfl); simp at e; omega
      · have := hql q (.inl rfl); simp at e; omega
  · have hn := HQ.out.apart.1
    rw [List.map_append, List.nodup_append]
    refine ⟨hn, by simp, fun a ha b hb e => ?_⟩
    obtain ⟨p, hp, rfl⟩ := List.mem_map.1 ha
    have := hnew p.g ⟨p, hp, .inl rfl⟩
    simp at hb; omega
  · have hn := HQ.out.apart.2
    rw [List.map_append, List.nodup_append]
    refine ⟨hn, by simp, fun a ha b hb e => ?_⟩
    obtain ⟨p, hp, rfl⟩ := List.mem_map.1 ha
    have := hnew p.d ⟨p, hp, .inr rfl⟩
    simp at hb; omega
  · intro p hp
    rw [List.dropLast_concat] at hp
    rcases List.mem_append.1 hp with hp | hp
    · exact HQ.out.full p (by rw [List.dropLast_concat]; exact hp)
    · simp at hp; subst hp; exact HZ.out
  · refine (hOW.mono (fun _ _ h => h.elim)).trans hP (fun i _ h => ?_)
    rcases h with h | h
    · exact .inl h
    · exact .inr ⟨z, by simp, .inl h⟩

theorem extend_any (B q n : Nat) (ps : List Pc) (w : World) (h : QAt B w q ps n) (hl : ∀ z, ps.getLast? = some z → z.l ≠ []) :
    Calls Tryz.prog 76 #[.pointer (some ⟨q, 0, none⟩)] w (Extended B q n ps w) := by
  rcases List.eq_nil_or_concat ps with rfl | ⟨xs, z, rfl⟩
  · exact extend_first B q n w h
  · rw [List.concat_eq_append] at *
    exact extend_more B q n xs z w h (hl z (by simp))
end Go.Proofs.YtdbcendnibgcaaaGreatDoor.FeedC
end

section
namespace Go.Proofs.YtdbcendnibgcaaaGreatDoor.FeedC
open Go.RowKit Go.My BitMath RefC

/-- What the loop of drop keeps. -/
structure Drops (B q n : Nat) (ps0 : List Pc) (w : World) (m k : Nat) (wr : World) (p : Pc) (t : List Pc) : Prop where
  at_ : QAt B wr q (p :: t) n
  le : k ≤ (cat (p :: t)).length
  cat_ : (cat (p :: t)).drop k = (cat ps0).drop m
  only : Only (QFoot q ps0) w wr
  sub : ∀ j, QFoot q (p :: t) j → QFoot q ps0 j

theorem full_pos {p : Pc} {t : List Pc} (h : Full (p :: t)) (ht : t ≠ []) : 0 < p.l.length := by
  have := h p (by cases t with | nil => exact absurd rfl ht | cons y t => simp)
  exact List.length_pos_iff.2 this

theorem Drops.next {B q n : Nat} {ps0 : List Pc} {w : World} {m k : Nat} {wr : World} {p y : Pc} {t : List Pc} (h : Drops B q n ps0 w m k wr p (y :: t)) (hk : p.l.length ≤ k) :
    Drops B q n ps0 w m (k - p.l.length) (wr.setCell ⟨q, 0, none⟩ (.pointer (some ⟨y.g, 0, none⟩))) y t := by
  have hO : Only (fun k => k = q) wr (wr.setCell ⟨q, 0, none⟩ (.pointer (some ⟨y.g, 0, none⟩))) := (Only.refl (fun k => k = q) wr).setCell (p := ⟨q, 0, none⟩) (fun _ => rfl) _
  have hle := h.le
  have hcat := h.cat_
  rw [cat_cons, List.length_append] at hle
  rw [cat_cons, List.drop_append, List.drop_of_length_le hk, List.nil_append] at hcat
  refine ⟨⟨?_, Chain.only hO h.at_.chain.2 (fun k hk e => h.at_.far (e ▸ (let ⟨r, hr, hj⟩ := hk; ⟨r, by simp [hr], hj⟩))), ?_, ?_, h.at_.base⟩, by omega, hcat, ?_, ?_⟩
  · have hb := h.at_.blk.set_ 0 (.pointer (some ⟨y.g, 0, none⟩))
    have e : (p :: y :: t).getLast? = (y :: t).getLast? := by simp
    rw [e] at hb
    exact hb
  · have ha := h.at_.apart
    unfold Apart at ha ⊢
    simp only [List.map_cons, List.nodup_cons] at ha ⊢
    exact ⟨ha.1.2, ha.2.2⟩
  · intro r hr
    exact h.at_.full r (by rw [List.dropLast_cons_cons]; exact List.mem_cons_of_mem _ hr)
  · exact h.only.trans hO (fun i _ e => by subst e; exact h.sub _ (.inl rfl))
  · rintro j (hj | ⟨r, hr, hj⟩)
    · exact h.sub j (.inl hj)
    · exact h.sub j (.inr ⟨r, by simp [hr], hj⟩)

/-- The end of drop: the first piece is cut by k. -/
theorem drop_end {B q n : Nat} {ps0 : List Pc} {w : World} {m k : Nat} {wr w3 : World} {p : Pc} {t : List Pc} (h : Drops B q n ps0 w m k wr p t) (hk : k ≤ p.l.length) (hf : t ≠ [] → k < p.l.length)
    (hO : Only (fun j => p.d = j) wr w3) (hown : Own 5 B w3 (.slice (some ⟨p.d, 0, none⟩) (p.l.length - k) p.c) (p.l.drop k)) :
    ∃ ps', ps' ≠ [] ∧ QAt B (w3.setCell ⟨p.g, 0, none⟩ (.slice (some ⟨p.d, 0, none⟩) (p.l.length - k) p.c)) q ps' n ∧ cat ps' = (cat ps0).drop m ∧ Only (QFoot q ps0) w (w3.setCell ⟨p.g, 0, none⟩ (.slice (some ⟨p.d, 0, none⟩) (p.l.length - k) p.c)) ∧ ∀ j, QFoot q ps' j → QFoot q ps0 j := by
  have hpc := h.at_.chain.1
  have hlen : (p.l.drop k).length = p.l.length - k := by simp
  have hdg : p.d ≠ p.g := hpc.far hpc.blk (by decide)
  have hdq : p.d ≠ q := hpc.far h.at_.blk (by decide)
  have hgq : p.g ≠ q := Blk.ne hpc.blk h.at_.blk (by decide)
  have hT : Only (Turns q p) wr (w3.setCell ⟨p.g, 0, none⟩ (.slice (some ⟨p.d, 0, none⟩) (p.l.length - k) p.c)) :=
    (hO.mono (fun j _ e => .inr (.inr e.symm))).setCell (p := ⟨p.g, 0, none⟩) (fun _ => .inr (.inl rfl)) _
  have hbq := (hO.blk h.at_.blk hdq).set_far hgq 0 (.slice (some ⟨p.d, 0, none⟩) (p.l.length - k) p.c)
  have hbz := (hO.blk hpc.blk hdg).set_ 0 (.slice (some ⟨p.d, 0, none⟩) (p.l.length - k) p.c)
  have hown' := (Only.own (S := fun j => j = p.g) ((Only.refl (fun j => j = p.g) w3).setCell (p := ⟨p.g, 0, none⟩) (fun _ => rfl) (.slice (some ⟨p.d, 0, none⟩) (p.l.length - k) p.c)) hown (fun j e => by simp [Value.ownBlock] at e; subst e; exact hdg))
  have hp2 : PcAt B (w3.setCell ⟨p.g, 0, none⟩ (.slice (some ⟨p.d, 0, none⟩) (p.l.length - k) p.c)) ⟨p.g, p.d, p.c, p.l.drop k⟩ (hd t none) := by
    refine ⟨?_, ?_, hpc.base, ?_⟩
    · simp only [hlen]; exact hbz
    · simp only [hlen]; exact hown'
    · simp only [hlen]; have := hpc.most; omega
  have hQ := QAt.turned (xs := []) h.at_ hT hp2 rfl (.inl rfl) hbq (fun ht e => by have := hf ht; simp only at e; rw [e] at hlen; simp at hlen; omega)
  refine ⟨_, by simp, hQ, ?_, h.only.trans hT (fun i _ e => ?_), ?_⟩
  · have hc := h.cat_
    rw [cat_cons, List.drop_append, show k - p.l.length = 0 from by omega, List.drop_zero] at hc
    exact hc
  · rcases e with e | e | e
    · exact h.sub i (.inl e)
    · exact h.sub i (.inr ⟨p, by simp, .inl e⟩)
    · exact h.sub i (.inr ⟨p, by simp, .inr e⟩)
  · rintro j (hj | ⟨r, hr, hj⟩)
    · exact h.sub j (.inl hj)
    · rcases List.mem_cons.1 hr with rfl | hr
      · exact h.sub j (.inr ⟨p, by simp, hj⟩)
      · exact h.sub j (.inr ⟨r, by simp [hr], hj⟩)

theorem Only.of_drew {S : Nat → Prop} {a b : World} (h : Only S a.drew b) : Only S a b := ⟨h.os, h.tape, h.output, h.size, h.block⟩
theorem sz5 : (Tryz.prog.info? 5).map (·.size) = some 1 := by kernel_rfl

set_option maxRecDepth 100000 in
set_option maxHeartbeats 4000000 in
theorem drop_any (B q n m : Nat) (p0 : Pc) (t0 : List Pc) (w : World) (h : QAt B w q (p0 :: t0) n) (hm : m ≤ (cat (p0 :: t0)).length) (hmn : m ≤ n) (hn : n ≤ 100000000000) :
    Calls Tryz.prog 77 #[.pointer (some ⟨q, 0, none⟩), .int .i64 (m : Int)] w fun e w' => e = .returned (.tuple #[]) ∧ ∃ ps', ps' ≠ [] ∧ QAt B w' q ps' (n - m) ∧ cat ps' = (cat (p0 :: t0)).drop m ∧ Only (QFoot q (p0 :: t0)) w w' ∧ ∀ j, QFoot q ps' j → QFoot q (p0 :: t0) j := by
  have hq2 := h.blk.cell 2
  have hf2 := h.blk.frozen 2
  simp only [List.getElem?_toArray, List.getElem?_cons_zero, List.getElem?_cons_succ] at hq2
  have hD0 : Drops B q (n - m) (p0 :: t0) w m m (w.setCell ⟨q, 2, none⟩ (.int .i64 ((n : Int) - (m : Int)))) p0 t0 := by
    have hO : Only (fun k => k = q) w (w.setCell ⟨q, 2, none⟩ (.int .i64 ((n : Int) - (m : Int)))) := (Only.refl (fun k => k = q) w).setCell (p := ⟨q, 2, none⟩) (fun _ => rfl) _
    refine ⟨⟨?_, Chain.only hO h.chain (fun k hk e => h.far (e ▸ hk)), h.apart, h.full, h.base⟩, hm, rfl, hO.mono (fun k _ e => .inl e), fun j hj => hj⟩
    rw [show ((n - m : Nat) : Int) = (n : Int) - (m : Int) from by omega]
    exact h.blk.set_ 2 _
  have HD0 := Lib.hid hD0
  have hmi : (m : Int) ≤ (n : Int) := by omega
  clear h hD0 hm hmn
  go_enter Tryz.func77, Tryz.ntmps77
  go_wp2_with fail
  generalize w.setCell ⟨q, 2, none⟩ (.int .i64 ((n : Int) - (m : Int))) = w1 at *
  clear hq2 hf2
  go_loopw [1] (fun i wr => ∃ (k : Nat) (p : Pc) (t : List Pc), i = .int .i64 (k : Int) ∧ k ≤ m ∧ Hid (Drops B q (n - m) (p0 :: t0) w m k wr p t)) (fun i _ => (intOf i).toNat)
  case atStart => exact ⟨m, p0, t0, rfl, Nat.le_refl _, HD0⟩
  case round =>
    clear HD0
    obtain ⟨k, p, t, rfl, hkm, HD⟩ := hrel
    have hq0 := HD.out.at_.blk.cell 0
    have hqf := HD.out.at_.blk.frozen 0
    have hz0 := HD.out.at_.chain.1.blk.cell 0
    have hz1 := HD.out.at_.chain.1.blk.cell 1
    simp only [List.getElem?_toArray, List.getElem?_cons_zero, List.getElem?_cons_succ, hd] at hq0 hz0 hz1
    by_cases hlt : k < p.l.length
    case' pos =>
      have hdec : ¬ p.l.length ≤ k := by omega
      have HF : Hid (t ≠ [] → k < p.l.length) := Lib.hid (fun _ => hlt)
      have hkl : k ≤ p.l.length := by omega
      clear hlt
      go_wp2_with fail
    case' neg =>
      rcases t with _ | ⟨y, t⟩
      case' nil =>
        have hle := HD.out.le
        rw [cat_one] at hle
        have hkl : k ≤ p.l.length := hle
        have HF : Hid (([] : List Pc) ≠ [] → k < p.l.length) := Lib.hid (fun h => absurd rfl h)
        simp only at hz1
        have hdec : p.l.length ≤ k := by omega
        clear hlt hle
        go_wp2_with fail
      case' cons =>
        have hpos := full_pos HD.out.at_.full (by simp)
        have HD2 := Lib.hid (HD.out.next (by omega))
        simp only at hz1
        have hdec : p.l.length ≤ k := by omega
        have hle : (p.l.length : Int) ≤ (k : Int) := by omega
        go_wp2_with fail
        go_roundw
        case rel => exact ⟨k - p.l.length, y, t, by rw [show ((k - p.l.length : Nat) : Int) = (k : Int) - (p.l.length : Int) from by omega], by omega, HD2⟩
        case measure => simp [intOf]; omega
    all_goals
      have hown := HD.out.at_.chain.1.own
      have hbg := HD.out.at_.chain.1.blk
      have hzf := hbg.frozen 0
      have hdg : p.d ≠ p.g := HD.out.at_.chain.1.far hbg (by decide)
      have hlc : p.l.length ≤ p.c := by obtain ⟨_, _, e, hb⟩ := hown.bytes; simp only [Value.slice.injEq] at e; obtain ⟨_, _, rfl⟩ := e; exact hb.le_cap
      have hkc : k ≤ p.c := by omega
      obtain ⟨N, hN⟩ : ∃ N, N = p.l.length - k := ⟨_, rfl⟩
      have hNc : N ≤ p.c := by omega
      have HN := Lib.hid hN
      clear hN
      go_region_law
        ((refine step_copy_front (by rfl) _ _ _ (by rfl) 5 Tryz.underlying22 sz5 B p.d p.c p.l.length p.l (hown.below (Nat.le_refl _) (Below.refl _ wr).drew) rfl k hkl _ _ _ ?_ N ?_ (by rfl) (by rfl) ?_ ?_; (first | rfl | omega); (first | exact HN.out.symm | (rw [HN.out]; omega)); (intro hn0; rw [if_neg (by omega)]); intro w3 hO3 hown3; have e1 : w3.cell? ⟨p.g, 0, none⟩ = some (.slice (some ⟨p.d, 0, none⟩) p.l.length p.c) := (hO3.blk hbg.drew hdg).cell 0; have f1 := (hO3.blk hbg.drew hdg).frozen 0))
      all_goals
        rw [HN.out] at hown3
        have HE := Lib.hid (drop_end HD.out hkl HF.out (Only.of_drew hO3) hown3)
        rw [← HN.out] at HE
        clear hown3 hO3 e1 f1
        go_end0
        exact ⟨rfl, HE.out⟩
end Go.Proofs.YtdbcendnibgcaaaGreatDoor.FeedC
end
