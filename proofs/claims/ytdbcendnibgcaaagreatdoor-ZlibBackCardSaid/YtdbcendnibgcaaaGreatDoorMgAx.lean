import Derived.Test.YtdbcendnibgcaaaGreatDoorMgAm
import Derived.Test.YtdbcendnibgcaaaGreatDoorMgAt
import Derived.Test.YtdbcendnibgcaaaGreatDoorMgAu
import Derived.Test.YtdbcendnibgcaaaGreatDoorMgAw
import Derived.Defers
import Derived.Recover
import Derived.Test.YtdbcendnibgcaaaGreatDoorRows
import Derived.Test.YtdbcendnibgcaaaGreatDoorMgAr
import Derived.Test.YtdbcendnibgcaaaGreatDoorMgAc

section
/-
  An Inflate in memory: the machine's numbers, its feed, its window, its rows and tables; each of these has blocks of a colour of its own.
-/
namespace Go.Proofs.YtdbcendnibgcaaaGreatDoor.InfC
open Go.RowKit Go.My BitMath CanMath TabMath WinMath FeedC TabC CanC
open WinC (Wn)
open InfMath (M Ok Steps Ends CodeOk mu lack fixL fixD)

def ptr (o : Option Nat) : Value := .pointer (o.map fun g => ⟨g, 0, none⟩)
def ints (l : List Nat) : List Int := l.map fun (n : Nat) => (n : Int)
theorem nat_ints (l : List Nat) : nat (ints l) = l := by
  unfold nat ints
  rw [List.map_map]
  have : (Int.toNat ∘ fun (n : Nat) => (n : Int)) = id := by funext n; simp
  rw [this, List.map_id]
theorem ints_len (l : List Nat) : (ints l).length = l.length := by simp [ints]
theorem ints_good {l : List Nat} (h : l.length ≤ 65536) (ha : ∀ x ∈ l, x ≤ 15) : CanC.Good (ints l) := by
  refine ⟨by rw [ints_len]; exact h, fun z hz => ?_⟩
  obtain ⟨n, hn, rfl⟩ := List.mem_map.1 hz
  have := ha n hn
  omega
theorem good_code {l : List Nat} (h : CodeOk l) : CanC.Good (ints l) := ints_good (by have := h.len; omega) h.all

/-! ### worlds -/
/-- Only blocks of colour i have turned; what was there keeps its colour. -/
structure Turn (i : Nat) (c c' : Nat → Nat) (w w' : World) : Prop where
  only : Only (fun k => c k = i) w w'
  col : ∀ k, k < w.heap.size → c' k = c k
/-- Only coloured blocks have turned. -/
structure Mv (c c' : Nat → Nat) (w w' : World) : Prop where
  only : Only (fun k => c k ≠ 0) w w'
  col : ∀ k, k < w.heap.size → c' k = c k
section
variable {c c1 c2 : Nat → Nat} {w w1 w2 : World} {i : Nat}
theorem Turn.mv (t : Turn i c c1 w w1) (hi : i ≠ 0) : Mv c c1 w w1 := ⟨t.only.mono (fun _ _ h => by rw [h]; exact hi), t.col⟩
theorem Mv.refl (c : Nat → Nat) (w : World) : Mv c c w w := ⟨Only.refl _ _, fun _ _ => rfl⟩
theorem Mv.trans (h : Mv c c1 w w1) (k : Mv c1 c2 w1 w2) : Mv c c2 w w2 :=
  ⟨h.only.trans k.only (fun i hi e => by rw [← h.col i hi]; exact e), fun i hi => (k.col i (Nat.lt_of_lt_of_le hi h.only.size)).trans (h.col i hi)⟩
theorem Mv.of_below (h : Below w.heap.size w w1) (c : Nat → Nat) : Mv c c w w1 := ⟨Only.of_below h _, fun _ _ => rfl⟩
theorem Turn.of_below (h : Below w.heap.size w w1) (i : Nat) (c : Nat → Nat) : Turn i c c w w1 := ⟨Only.of_below h _, fun _ _ => rfl⟩
theorem Mv.size (h : Mv c c1 w w1) : w.heap.size ≤ w1.heap.size := h.only.size
theorem Mv.drewN (h : Mv c c1 w w1) (n : Nat) : Mv c c1 w (w1.drewN n) := ⟨h.only.drewN n, h.col⟩
end
/-- The colours, new blocks of colour i. -/
def recol (n : Nat) (c : Nat → Nat) (i : Nat) : Nat → Nat := fun k => if k < n then c k else i
theorem recol_old {n i k : Nat} (c : Nat → Nat) (h : k < n) : recol n c i k = c k := if_pos h
theorem recol_new {n i k : Nat} (c : Nat → Nat) (h : n ≤ k) : recol n c i k = i := if_neg (by omega)

/-! ### parts -/
def PF (B : Nat) (w : World) (c : Nat → Nat) (f : Nat) (F : Nat → Prop) (bs : List Bool) (p : Nat) (e : Bool) : Prop := Fed B w f F bs p e ∧ ∀ k, F k → c k = 2
def PW (B : Nat) (w : World) (c : Nat → Nat) (g S : Nat) (r : Option Nat) (all : List UInt8) : Prop := Wn B w g S r all ∧ ∀ k, Fp g r k → c k = 3
def PO (B : Nat) (w : World) (c : Nat → Nat) (v : Value) (l : List UInt8) : Prop := Own 5 B w v l ∧ ∀ k, v.ownBlock = some k → c k = 4
def PL (B : Nat) (w : World) (c : Nat → Nat) (v : Value) (l : List Nat) : Prop := OwnV 3 B w v ((ints l).map iv) ∧ ∀ k, v.ownBlock = some k → c k = 5
/-- A table of these lengths lies at g. -/
def TabIn (w : World) (c : Nat → Nat) (g : Nat) (ls : List Nat) (f : Nat) : Prop := c g = 6 ∧ ∃ ge, c ge = 6 ∧ TabAt w g ge f (TabMath.S ls f (2 ^ f)) (TT ls f ls.length)
def PT (w : World) (c : Nat → Nat) (g : Option Nat) (ls : Option (List Nat)) (f : Nat) : Prop := (∃ q l, g = some q ∧ ls = some l ∧ TabIn w c q l f) ∨ (g = none ∧ ls = none)
section
variable {B : Nat} {w w' : World} {c c' : Nat → Nat} {i : Nat}
theorem PF.turn {f p : Nat} {F : Nat → Prop} {bs : List Bool} {e : Bool} (h : PF B w c f F bs p e) (t : Turn i c c' w w') (hi : i ≠ 2) : PF B w' c' f F bs p e :=
  ⟨h.1.only t.only (fun k hk hs => hi (hs.symm.trans (h.2 k hk))), fun k hk => (t.col k (h.1.lt k hk).2).trans (h.2 k hk)⟩
theorem PW.turn {g S : Nat} {r : Option Nat} {all : List UInt8} (h : PW B w c g S r all) (t : Turn i c c' w w') (hi : i ≠ 3) : PW B w' c' g S r all :=
  ⟨h.1.only t.only (fun hs => hi (hs.symm.trans (h.2 g (.inl rfl)))) (fun k hk hs => hi (hs.symm.trans (h.2 k (.inr hk)))), fun k hk => (t.col k (h.1.flt k hk)).trans (h.2 k hk)⟩
theorem PO.turn {v : Value} {l : List UInt8} (h : PO B w c v l) (t : Turn i c c' w w') (hi : i ≠ 4) : PO B w' c' v l :=
  ⟨t.only.own h.1 (fun k hk hs => hi (hs.symm.trans (h.2 k hk))), fun k hk => (t.col k (World.ownsRow.lt h.1 k hk).2).trans (h.2 k hk)⟩
theorem PL.turn {v : Value} {l : List Nat} (h : PL B w c v l) (t : Turn i c c' w w') (hi : i ≠ 5) : PL B w' c' v l :=
  ⟨h.1.only t.only (fun k hk hs => hi (hs.symm.trans (h.2 k hk))), fun k hk => (t.col k (h.1.lt k hk)).trans (h.2 k hk)⟩
theorem TabIn.turn {g f : Nat} {ls : List Nat} (h : TabIn w c g ls f) (t : Turn i c c' w w') (hi : i ≠ 6) : TabIn w' c' g ls f := by
  obtain ⟨h1, ge, h2, h3⟩ := h
  refine ⟨(t.col g h3.lt.1).trans h1, ge, (t.col ge h3.lt.2).trans h2, h3.same (t.only.block g h3.lt.1 (fun hs => hi (hs.symm.trans h1))) (t.only.block ge h3.lt.2 (fun hs => hi (hs.symm.trans h2)))⟩
theorem PT.turn {g : Option Nat} {f : Nat} {ls : Option (List Nat)} (h : PT w c g ls f) (t : Turn i c c' w w') (hi : i ≠ 6) : PT w' c' g ls f := by
  rcases h with ⟨q, l, h1, h2, h3⟩ | h
  · exact .inl ⟨q, l, h1, h2, h3.turn t hi⟩
  · exact .inr h
end

/-- Where the parts lie. -/
structure Ad where
  c : Nat → Nat
  f : Nat
  F : Nat → Prop
  g : Nat
  r : Option Nat
  oa : Option Addr
  oc : Nat
  la : Option Addr
  lc : Nat
  ht : Option Nat
  fl : Option Nat
  fd : Option Nat
  lt : Option Nat
  dt : Option Nat

def cells (s : M) (d : Ad) : Array Value :=
  #[.bool s.wide, .int .i64 (s.most : Int), .pointer (some ⟨d.f, 0, none⟩), .pointer (some ⟨d.g, 0, none⟩), .slice d.oa s.out.length d.oc, .int .i64 (s.total : Int), .int .i64 (s.next : Int), .bool s.final, .int .i64 (s.left : Int),
    .int .i64 (s.hl : Int), .int .i64 (s.hd : Int), .int .i64 (s.hc : Int), .slice d.la s.lens.length d.lc, ptr d.ht, ptr d.fl, ptr d.fd, ptr d.lt, ptr d.dt, .int .i64 (s.matching : Int), .int .i64 0, .int .i64 0]

structure Rs (B : Nat) (w : World) (x : Nat) (s : M) (d : Ad) : Prop where
  base : B ≤ x
  cx : d.c x = 1
  low : ∀ k, k < B → d.c k = 0
  feed : PF B w d.c d.f d.F s.bits s.pushed s.ended
  win : PW B w d.c d.g s.size d.r s.hist
  out : PO B w d.c (.slice d.oa s.out.length d.oc) s.out
  lens : PL B w d.c (.slice d.la s.lens.length d.lc) s.lens
  t1 : PT w d.c d.ht s.hcode 7
  t2 : PT w d.c d.fl (if s.fixed then some fixL else none) 9
  t3 : PT w d.c d.fd (if s.fixed then some fixD else none) 6
  t4 : PT w d.c d.lt s.lit 9
  t5 : PT w d.c d.dt s.dist 6
/-- An Inflate at x that stands where the machine stands. -/
structure At (B : Nat) (w : World) (x : Nat) (s : M) (d : Ad) : Prop where
  blk : Blk w x 99 (cells s d)
  rs : Rs B w x s d

/-- The same parts. -/
def Res (s s' : M) : Prop := s'.bits = s.bits ∧ s'.pushed = s.pushed ∧ s'.ended = s.ended ∧ s'.hist = s.hist ∧ s'.size = s.size ∧ s'.out = s.out ∧ s'.lens = s.lens ∧ s'.hcode = s.hcode ∧ s'.fixed = s.fixed ∧ s'.lit = s.lit ∧ s'.dist = s.dist
section
variable {B x : Nat} {w w' : World} {s s' : M} {d : Ad}
theorem Rs.res (h : Rs B w x s d) (hr : Res s s') : Rs B w x s' d := by
  obtain ⟨e1, e2, e3, e4, e5, e6, e7, e8, e9, e10, e11⟩ := hr
  obtain ⟨h1, h2, h3, h4, h5, h6, h7, h8, h9, h10, h11, h12⟩ := h
  exact ⟨h1, h2, h3, by rw [e1, e2, e3]; exact h4, by rw [e4, e5]; exact h5, by rw [e6]; exact h6, by rw [e7]; exact h7, by rw [e8]; exact h8, by rw [e9]; exact h9, by rw [e9]; exact h10, by rw [e10]; exact h11, by rw [e11]; exact h12⟩
theorem Rs.lt (h : Rs B w x s d) : B ≤ w.heap.size := by
  have h1 := h.feed.1.lt _ h.feed.1.self
  omega
theorem At.lt (h : At B w x s d) : x < w.heap.size := h.blk.lt
/-- The block of x alone has turned, or nothing has. -/
theorem Rs.turn1 (h : Rs B w x s d) {c' : Nat → Nat} (t : Turn 1 d.c c' w w') (hx : c' x = 1) (hl : ∀ k, k < B → c' k = 0) : Rs B w' x s { d with c := c' } :=
  ⟨h.base, hx, hl, h.feed.turn t (by decide), h.win.turn t (by decide), h.out.turn t (by decide), h.lens.turn t (by decide), h.t1.turn t (by decide), h.t2.turn t (by decide), h.t3.turn t (by decide), h.t4.turn t (by decide), h.t5.turn t (by decide)⟩
theorem turn_x (hx : d.c x = 1) (hk : Only (fun k => k = x) w w') : Turn 1 d.c d.c w w' := ⟨hk.mono (fun k _ e => by subst e; exact hx), fun _ _ => rfl⟩
theorem Rs.only (h : Rs B w x s d) (hk : Only (fun k => k = x) w w') : Rs B w' x s d := h.turn1 (turn_x h.cx hk) h.cx h.low
theorem only_set (w : World) (x i : Nat) (u : Value) : Only (fun k => k = x) w (w.setCell ⟨x, i, none⟩ u) := ((Only.refl (fun k => x = k) w).setCell (p := ⟨x, i, none⟩) (fun _ => rfl) u).mono (fun _ _ h => h.symm)
/-- A number of x is set. -/
theorem At.set (h : At B w x s d) (i : Nat) (u : Value) (s' : M) (hc : (cells s d).setIfInBounds i u = cells s' d) (hr : Res s s') : At B (w.setCell ⟨x, i, none⟩ u) x s' d :=
  ⟨by rw [← hc]; exact h.blk.set_ i u, (h.rs.only (only_set w x i u)).res hr⟩
theorem At.set_mv (h : At B w x s d) (i : Nat) (u : Value) : Mv d.c d.c w (w.setCell ⟨x, i, none⟩ u) := (turn_x h.rs.cx (only_set w x i u)).mv (by decide)
theorem At.later (h : At B w x s d) (hb : Below w.heap.size w w') : At B w' x s d :=
  ⟨h.blk.same (hb.block x h.lt), h.rs.turn1 (Turn.of_below hb 1 d.c) h.rs.cx h.rs.low⟩
theorem At.drewN (h : At B w x s d) (n : Nat) : At B (w.drewN n) x s d := h.later ⟨rfl, rfl, rfl, Nat.le_refl _, fun _ _ => rfl⟩
theorem low_recol {n i : Nat} {c : Nat → Nat} (hl : ∀ k, k < B → c k = 0) (hB : B ≤ n) : ∀ k, k < B → recol n c i k = 0 := fun k hk => (recol_old c (by omega)).trans (hl k hk)
/-- A call on the feed. -/
theorem At.fed (h : At B w x s d) {bs : List Bool} {p : Nat} {e : Bool} (hd : Done B d.f d.F w bs p e w') :
    ∃ d', At B w' x { s with bits := bs, pushed := p, ended := e } d' ∧ Mv d.c d'.c w w' := by
  obtain ⟨F', h1, h2, h3⟩ := hd
  have hB := h.rs.lt
  have t : Turn 2 d.c (recol w.heap.size d.c 2) w w' := ⟨h2.mono (fun k _ hk => h.rs.feed.2 k hk), fun k hk => recol_old d.c hk⟩
  refine ⟨{ d with c := recol w.heap.size d.c 2, F := F' }, ⟨h.blk.same (t.only.block x h.lt (by rw [h.rs.cx]; decide)), h.rs.base, (recol_old d.c h.lt).trans h.rs.cx, low_recol h.rs.low hB, ⟨h1, fun k hk => ?_⟩, h.rs.win.turn t (by decide), h.rs.out.turn t (by decide), h.rs.lens.turn t (by decide), h.rs.t1.turn t (by decide), h.rs.t2.turn t (by decide), h.rs.t3.turn t (by decide), h.rs.t4.turn t (by decide), h.rs.t5.turn t (by decide)⟩, t.mv (by decide)⟩
  by_cases hk2 : k < w.heap.size
  · rcases h3 k hk with hF | hF
    · exact (recol_old d.c hk2).trans (h.rs.feed.2 k hF)
    · omega
  · exact recol_new d.c (by omega)
/-- A call on the window. -/
theorem At.wind (h : At B w x s d) {all : List UInt8} (hp : WinC.Left B d.g s.size d.r w all w') :
    ∃ d', At B w' x { s with hist := all } d' ∧ Mv d.c d'.c w w' ∧ d'.oa = d.oa ∧ d'.oc = d.oc := by
  obtain ⟨r', h1, h2, h3⟩ := hp
  have hB := h.rs.lt
  have t : Turn 3 d.c (recol w.heap.size d.c 3) w w' := ⟨h2.mono (fun k _ hk => h.rs.win.2 k hk), fun k hk => recol_old d.c hk⟩
  refine ⟨{ d with c := recol w.heap.size d.c 3, r := r' }, ⟨h.blk.same (t.only.block x h.lt (by rw [h.rs.cx]; decide)), h.rs.base, (recol_old d.c h.lt).trans h.rs.cx, low_recol h.rs.low hB, h.rs.feed.turn t (by decide), ⟨h1, fun k hk => ?_⟩, h.rs.out.turn t (by decide), h.rs.lens.turn t (by decide), h.rs.t1.turn t (by decide), h.rs.t2.turn t (by decide), h.rs.t3.turn t (by decide), h.rs.t4.turn t (by decide), h.rs.t5.turn t (by decide)⟩, t.mv (by decide), rfl, rfl⟩
  by_cases hk2 : k < w.heap.size
  · refine (recol_old d.c hk2).trans ?_
    rcases hk with rfl | hk
    · exact h.rs.win.2 _ (.inl rfl)
    · rcases h3 with rfl | ⟨j, rfl, hj⟩
      · exact h.rs.win.2 k (.inr hk)
      · injection hk with hk; omega
  · exact recol_new d.c (by omega)
end
end Go.Proofs.YtdbcendnibgcaaaGreatDoor.InfC
end

section
/-
  What gives up: fail, lack, room; reading numbers: behind, number; close.
-/
namespace Go.Proofs.YtdbcendnibgcaaaGreatDoor.InfC
open Go.RowKit Go.My BitMath CanMath TabMath WinMath FeedC TabC CanC
open WinC (Wn)
open InfMath (M Ok Steps Ends CodeOk mu lack fixL fixD)

/-- What is thrown. -/
def fault (c : Nat) : Value := .iface 125 (.agg #[.int .i64 (c : Int), .int .i64 0])
def Thrown (c : Nat) (e : Ending) : Prop := e = .panicked [{ v := fault c, recovered := false }]

theorem fail_any (c : Nat) (w : World) : Calls Tryz.prog 88 #[.int .i64 (c : Int)] w fun e w' => Thrown c e ∧ w = w' := by
  go_enter Tryz.func88, Tryz.ntmps88
  go_wp2_with fail
  exact ⟨rfl, rfl, rfl⟩

section
variable {B x : Nat} {w : World} {s : M} {d : Ad}
theorem lack_any (h : Hid (At B w x s d)) : Calls Tryz.prog 90 #[.pointer (some ⟨x, 0, none⟩)] w fun e w' => Thrown (lack s) e ∧ w = w' := by
  have h2 : w.cell? ⟨x, 2, none⟩ = some (.pointer (some ⟨d.f, 0, none⟩)) := h.out.blk.cell 2
  have HL : Hid (lack s = if s.ended then 2 else 5) := Lib.hid rfl
  have HF := Lib.hid h.out.rs.feed.1
  generalize s.ended = en at *
  go_enter Tryz.func90, Tryz.ntmps90
  go_wp2_with fail
  refine (ended_any _ _ _ _ _ _ w HF.out).mono ?_
  rintro e w' ⟨rfl, rfl⟩
  cases en
  · go_wp2_with fail
    refine (fail_any 5 w).mono ?_
    rintro e w' ⟨rfl, rfl⟩
    go_wp2_with fail
    exact ⟨rfl, by rw [HL.out]; rfl, rfl⟩
  · go_wp2_with fail
    refine (fail_any 2 w).mono ?_
    rintro e w' ⟨rfl, rfl⟩
    go_wp2_with fail
    exact ⟨rfl, by rw [HL.out]; rfl, rfl⟩

theorem room_any (n : Nat) (h : Hid (At B w x s d)) (ht : s.total ≤ s.most) (hm : s.most ≤ 1073741824) :
    Calls Tryz.prog 92 #[.pointer (some ⟨x, 0, none⟩), .int .i64 (n : Int)] w fun e w' => (s.most < s.total + n ∧ Thrown 3 e ∨ s.total + n ≤ s.most ∧ e = .returned (.tuple #[])) ∧ ∃ k, w' = w.drewN k := by
  have h1 : w.cell? ⟨x, 1, none⟩ = some (.int .i64 (s.most : Int)) := h.out.blk.cell 1
  have h5 : w.cell? ⟨x, 5, none⟩ = some (.int .i64 (s.total : Int)) := h.out.blk.cell 5
  generalize s.most = P at *
  generalize s.total = Q at *
  have w1 : IntKind.i64.wrap ((P : Int) - (Q : Int)) = (P : Int) - (Q : Int) := IntWalk.i64_in _ (by omega)
  clear h
  by_cases hlt : P < Q + n
  · have hd : decide ((n : Int) > (P : Int) - (Q : Int)) = true := by simp; omega
    go_enter Tryz.func92, Tryz.ntmps92
    go_wp2_with fail
    go_quiet (fail)
    go_wp2_with fail
    refine (fail_any 3 _).mono ?_
    rintro e w' ⟨rfl, rfl⟩
    go_wp2_with fail
    exact ⟨rfl, .inl ⟨hlt, rfl⟩, _, rfl⟩
  · have hd : decide ((n : Int) > (P : Int) - (Q : Int)) = false := by simp; omega
    go_enter Tryz.func92, Tryz.ntmps92
    go_wp2_with fail
    go_quiet (fail)
    go_wp2_with fail
    go_end0
    exact ⟨.inr ⟨by omega, rfl⟩, _, rfl⟩

theorem close_any (h : Hid (At B w x s d)) :
    Calls Tryz.prog 91 #[.pointer (some ⟨x, 0, none⟩)] w fun e w' => e = .returned (.tuple #[]) ∧ At B w' x (InfMath.close s) d ∧ Mv d.c d.c w w' := by
  have h6 : w.cell? ⟨x, 6, none⟩ = some (.int .i64 (s.next : Int)) := h.out.blk.cell 6
  have f6 := h.out.blk.frozen 6
  have hA1 : At B (w.setCell ⟨x, 6, none⟩ (.int .i64 1)) x { s with next := 1 } d := h.out.set 6 _ _ rfl ⟨rfl, rfl, rfl, rfl, rfl, rfl, rfl, rfl, rfl, rfl, rfl⟩
  have hm1 := h.out.set_mv 6 (.int .i64 1)
  have h7 : (w.setCell ⟨x, 6, none⟩ (.int .i64 1)).cell? ⟨x, 7, none⟩ = some (.bool s.final) := hA1.blk.cell 7
  have g6 : (w.setCell ⟨x, 6, none⟩ (.int .i64 1)).cell? ⟨x, 6, none⟩ = some (.int .i64 1) := hA1.blk.cell 6
  have f61 := hA1.blk.frozen 6
  have HA1 := Lib.hid hA1
  have HM1 := Lib.hid hm1
  have HC : Hid (InfMath.close s = { s with next := if s.final then 11 else 1 }) := Lib.hid rfl
  have HE : Hid (∀ b, s.final = b → InfMath.close s = { s with next := if b then 11 else 1 }) := Lib.hid (fun b hb => by rw [HC.out, hb])
  obtain ⟨b, hb⟩ : ∃ b, b = s.final := ⟨_, rfl⟩
  rw [← hb] at h7
  have HB := Lib.hid hb
  clear h hA1 hm1 hb HC
  go_enter Tryz.func91, Tryz.ntmps91
  cases b
  · go_wp2_with fail
    go_end0
    rw [HE.out false HB.out.symm]
    exact ⟨rfl, HA1.out, HM1.out⟩
  · go_wp2_with fail
    go_end0
    rw [HE.out true HB.out.symm]
    exact ⟨rfl, HA1.out.set 6 _ _ rfl ⟨rfl, rfl, rfl, rfl, rfl, rfl, rfl, rfl, rfl, rfl, rfl⟩, HM1.out.trans (HA1.out.set_mv 6 _)⟩

theorem num_behind (bs : List Bool) (k n : Nat) (h : k + n ≤ bs.length) : num (bs.take (k + n)) / 2 ^ k = num ((bs.drop k).take n) := by
  have e : bs.take (k + n) = bs.take k ++ (bs.drop k).take n := by rw [List.take_add]
  have hl : (bs.take k).length = k := by simp; omega
  have h1 := num_lt (bs.take k)
  rw [e, num_append, hl, Nat.add_mul_div_left _ _ (Nat.two_pow_pos k), Nat.div_eq_of_lt (by rw [hl] at h1; exact h1), Nat.zero_add]

theorem peek_take (bs : List Bool) (m : Nat) (h : m ≤ 32) : peekV bs (m : Int) = num (bs.take m) := by
  unfold peekV
  by_cases h1 : 1 ≤ m
  · rw [if_pos (by omega)]; simp
  · obtain rfl : m = 0 := by omega
    rfl

theorem behind_any (k n : Nat) (h : Hid (At B w x s d)) (hk : k + n ≤ 32) (hb : s.bits.length ≤ 1000000000) :
    Calls Tryz.prog 105 #[.pointer (some ⟨x, 0, none⟩), .int .i64 (k : Int), .int .i64 (n : Int)] w fun e w' =>
      (s.bits.length < k + n ∧ Thrown (lack s) e ∨ k + n ≤ s.bits.length ∧ e = .returned (.int .i64 (num ((s.bits.drop k).take n) : Int))) ∧ ∃ j, w' = w.drewN j := by
  have h2 : w.cell? ⟨x, 2, none⟩ = some (.pointer (some ⟨d.f, 0, none⟩)) := h.out.blk.cell 2
  have HF := Lib.hid h.out.rs.feed.1
  have w1 : IntKind.i64.wrap ((k : Int) + (n : Int)) = ((k + n : Nat) : Int) := by rw [IntWalk.i64_in _ (by omega)]; omega
  go_enter Tryz.func105, Tryz.ntmps105
  go_wp2_with fail
  refine (bits_any _ _ _ _ _ _ w HF.out (by omega)).mono ?_
  rintro e w' ⟨rfl, j, rfl⟩
  have HX := Lib.hid (h.out.drewN j)
  have h2' : (w.drewN j).cell? ⟨x, 2, none⟩ = some (.pointer (some ⟨d.f, 0, none⟩)) := HX.out.blk.cell 2
  by_cases hlt : s.bits.length < k + n
  · go_wp2_with fail
    refine (lack_any HX).mono ?_
    rintro e w' ⟨rfl, rfl⟩
    go_wp2_with fail
    exact ⟨rfl, .inl ⟨hlt, rfl⟩, _, rfl⟩
  · go_wp2_with fail
    refine (peek_any ((k + n : Nat) : Int) _ _ _ _ _ _ _ HX.out.rs.feed.1).mono ?_
    rw [peek_take _ _ hk]
    rintro e w' ⟨rfl, j2, rfl⟩
    go_wp2_with fail
    go_ret
    refine ⟨.inr ⟨by omega, ?_⟩, _, rfl⟩
    rw [← num_behind _ _ _ (by omega)]
    have hl : num (s.bits.take (k + n)) < 4294967296 := Nat.lt_of_lt_of_le (num_lt _) (by rw [show 4294967296 = 2 ^ 32 from rfl]; exact Nat.pow_le_pow_right (by omega) (by simp; omega))
    have he : (num (s.bits.take (k + n)) : Int) / 2 ^ k = ((num (s.bits.take (k + n)) / 2 ^ k : Nat) : Int) := by push_cast; rfl
    have hd := Nat.div_le_self (num (s.bits.take (k + n))) (2 ^ k)
    refine ret_int ?_
    rw [he]
    generalize num (s.bits.take (k + n)) / 2 ^ k = q at *
    unfold wrap64
    omega

/-- n bits fewer. -/
theorem skip_at (n : Nat) (h : Hid (At B w x s d)) (hn : n ≤ s.bits.length) (hb : s.bits.length ≤ 1000000000) :
    Calls Tryz.prog 100 #[.pointer (some ⟨d.f, 0, none⟩), .int .i64 (n : Int)] w fun e w' => e = .returned (.int .i64 0) ∧ ∃ d', Hid (At B w' x { s with bits := s.bits.drop n } d') ∧ Hid (Mv d.c d'.c w w') := by
  refine (skip_any (n : Int) _ _ _ _ _ _ w h.out.rs.feed.1 (by omega)).mono ?_
  rintro e w' ⟨rfl, hd⟩
  have e1 : skipCode s.bits (n : Int) = 0 := by unfold skipCode; rw [if_neg (by omega), if_neg (by omega)]
  have e2 : skipBits s.bits (n : Int) = s.bits.drop n := by unfold skipBits; rw [if_neg (by omega), if_neg (by omega), Int.toNat_natCast]
  rw [e2] at hd
  obtain ⟨d', h1, h2⟩ := h.out.fed hd
  exact ⟨by rw [e1], d', Lib.hid h1, Lib.hid h2⟩

/-- A number of n bits is read. -/
theorem number_any (n : Nat) (h : Hid (At B w x s d)) (hn : n ≤ 32) (hb : s.bits.length ≤ 1000000000) :
    Calls Tryz.prog 86 #[.pointer (some ⟨x, 0, none⟩), .int .i64 (n : Int)] w fun e w' =>
      (s.bits.length < n ∧ Thrown (lack s) e ∧ ∃ j, w' = w.drewN j) ∨ (n ≤ s.bits.length ∧ e = .returned (.int .i64 (num (s.bits.take n) : Int)) ∧ ∃ d', Hid (At B w' x { s with bits := s.bits.drop n } d') ∧ Hid (Mv d.c d'.c w w')) := by
  go_enter Tryz.func86, Tryz.ntmps86
  go_wp2_with fail
  refine (behind_any 0 n h (by omega) hb).mono ?_
  rw [List.drop_zero, Nat.zero_add]
  rintro e w' ⟨h1, j, rfl⟩
  rcases h1 with ⟨h1, rfl⟩ | ⟨h1, rfl⟩
  · go_wp2_with fail
    exact ⟨rfl, .inl ⟨h1, rfl, _, rfl⟩⟩
  · have HX := Lib.hid (h.out.drewN j)
    have h2' : (w.drewN j).cell? ⟨x, 2, none⟩ = some (.pointer (some ⟨d.f, 0, none⟩)) := HX.out.blk.cell 2
    go_wp2_with fail
    refine (skip_at n HX h1 hb).mono ?_
    rintro e w2 ⟨rfl, d', H1, H2⟩
    go_wp2_with fail
    go_ret
    exact .inr ⟨h1, rfl, d', H1, Lib.hid ((Mv.of_below (quiet_below w j) d.c).trans H2.out)⟩
end
end Go.Proofs.YtdbcendnibgcaaaGreatDoor.InfC
end

section
/-
  What Base, Far answer (no program's function).
-/
namespace Go.Proofs.YtdbcendnibgcaaaGreatDoor.InfC
open Go.RowKit Go.My BitMath CanMath TabMath WinMath CanC
open InfMath (M Ok Steps Ends CodeOk mu lack fixL fixD)

/-- What Base, Far answer. -/
def ansB (o : Option (Nat × Nat)) : Value := match o with | none => .tuple #[.int .i64 0, .int .i64 0, .bool false] | some (l, x) => .tuple #[.int .i64 (l : Int), .int .i64 (x : Int), .bool true]
def baseZ (z : Int) (wide : Bool) : Option (Nat × Nat) := if z < 0 then none else InfMath.base z.toNat wide
def farZ (z : Int) (wide : Bool) : Option (Nat × Nat) := if z < 0 then none else InfMath.far z.toNat wide
theorem baseZ_nat (v : Nat) (wide : Bool) : baseZ (v : Int) wide = InfMath.base v wide := by unfold baseZ; rw [if_neg (by omega), Int.toNat_natCast]
theorem farZ_nat (v : Nat) (wide : Bool) : farZ (v : Int) wide = InfMath.far v wide := by unfold farZ; rw [if_neg (by omega), Int.toNat_natCast]

theorem lastD_le (wide : Bool) : InfMath.lastD wide ≤ 31 := by cases wide <;> decide

theorem kind_kd (l : List Nat) : CanC.kindN l = ((InfMath.kd l : Nat) : Int) := by
  unfold CanC.kindN InfMath.kd
  repeat' split
  all_goals rfl
end Go.Proofs.YtdbcendnibgcaaaGreatDoor.InfC
end

section
/-
  Lengths' and distances' symbols: Base, Far, lastDistance.
-/
namespace Go.Proofs.YtdbcendnibgcaaaGreatDoor.InfC
open Go.RowKit Go.My BitMath CanMath TabMath WinMath FeedC TabC CanC
open WinC (Wn)
open InfMath (M Ok Steps Ends CodeOk mu lack fixL fixD)

theorem base_no (z : Int) (wide : Bool) (w : World) (h : z < 257 ∨ 285 < z) :
    Calls Tryz.prog 102 #[.int .i64 z, .bool wide] w fun e w' => e = .returned (.tuple #[.int .i64 0, .int .i64 0, .bool false]) ∧ w = w' := by
  by_cases h1 : z < 257
  · go_enter Tryz.func102, Tryz.ntmps102
    go_wp2_with fail
    go_ret3
    exact ⟨rfl, rfl⟩
  · have h2 : decide (z > 285) = true := by simp; omega
    go_enter Tryz.func102, Tryz.ntmps102
    go_wp2_with fail
    go_ret3
    exact ⟨rfl, rfl⟩
theorem base_low (v : Nat) (wide : Bool) (w : World) (h1 : 257 ≤ v) (h2 : v < 265) :
    Calls Tryz.prog 102 #[.int .i64 (v : Int), .bool wide] w fun e w' => e = .returned (.tuple #[.int .i64 ((v - 254 : Nat) : Int), .int .i64 0, .bool true]) ∧ w = w' := by
  rcases (by omega : v = 257 ∨ v = 258 ∨ v = 259 ∨ v = 260 ∨ v = 261 ∨ v = 262 ∨ v = 263 ∨ v = 264) with rfl | rfl | rfl | rfl | rfl | rfl | rfl | rfl
  all_goals
    clear h1 h2
    go_enter Tryz.func102, Tryz.ntmps102
    go_wp2_with fail
    go_ret3
    exact ⟨rfl, rfl⟩
theorem base_mid (v : Nat) (wide : Bool) (w : World) (h1 : 265 ≤ v) (h2 : v < 285) :
    Calls Tryz.prog 102 #[.int .i64 (v : Int), .bool wide] w fun e w' => e = .returned (.tuple #[.int .i64 ((3 + (4 + (v - 265) % 4) * 2 ^ ((v - 265) / 4 + 1) : Nat) : Int), .int .i64 (((v - 265) / 4 + 1 : Nat) : Int), .bool true]) ∧ w = w' := by
  rcases (by omega : v = 265 ∨ v = 266 ∨ v = 267 ∨ v = 268 ∨ v = 269 ∨ v = 270 ∨ v = 271 ∨ v = 272 ∨ v = 273 ∨ v = 274 ∨ v = 275 ∨ v = 276 ∨ v = 277 ∨ v = 278 ∨ v = 279 ∨ v = 280 ∨ v = 281 ∨ v = 282 ∨ v = 283 ∨ v = 284) with rfl | rfl | rfl | rfl | rfl | rfl | rfl | rfl | rfl | rfl | rfl | rfl | rfl | rfl | rfl | rfl | rfl | rfl | rfl | rfl
  all_goals
    clear h1 h2
    go_enter Tryz.func102, Tryz.ntmps102
    go_wp2_with fail
    go_ret3
    exact ⟨rfl, rfl⟩
theorem base_top (wide : Bool) (w : World) :
    Calls Tryz.prog 102 #[.int .i64 285, .bool wide] w fun e w' => e = .returned (ansB (InfMath.base 285 wide)) ∧ w = w' := by
  cases wide
  all_goals
    go_enter Tryz.func102, Tryz.ntmps102
    go_wp2_with fail
    go_ret3
    exact ⟨rfl, rfl⟩
theorem base_any (z : Int) (wide : Bool) (w : World) :
    Calls Tryz.prog 102 #[.int .i64 z, .bool wide] w fun e w' => e = .returned (ansB (baseZ z wide)) ∧ w = w' := by
  by_cases h : z < 257 ∨ 285 < z
  · have e : baseZ z wide = none := by
      unfold baseZ InfMath.base
      by_cases h0 : z < 0
      · rw [if_pos h0]
      · rw [if_neg h0, if_pos (by omega)]
    rw [e]
    exact base_no z wide w h
  · obtain ⟨v, rfl⟩ : ∃ v : Nat, z = (v : Int) := ⟨z.toNat, by omega⟩
    rw [baseZ_nat]
    by_cases h1 : v < 265
    · have e : InfMath.base v wide = some (v - 254, 0) := by unfold InfMath.base; rw [if_neg (by omega), if_pos h1]
      rw [e]
      exact base_low v wide w (by omega) h1
    · by_cases h2 : v < 285
      · have e : InfMath.base v wide = some (3 + (4 + (v - 265) % 4) * 2 ^ ((v - 265) / 4 + 1), (v - 265) / 4 + 1) := by unfold InfMath.base; rw [if_neg (by omega), if_neg h1, if_pos h2]
        rw [e]
        exact base_mid v wide w (by omega) h2
      · obtain rfl : v = 285 := by omega
        exact base_top wide w

theorem last_any (wide : Bool) (w : World) : Calls Tryz.prog 94 #[.bool wide] w fun e w' => e = .returned (.int .i64 ((InfMath.lastD wide : Nat) : Int)) ∧ w = w' := by
  cases wide
  all_goals
    go_enter Tryz.func94, Tryz.ntmps94
    go_wp2_with fail
    go_ret
    exact ⟨rfl, rfl⟩
theorem far_neg (z : Int) (wide : Bool) (w : World) (h : z < 0) :
    Calls Tryz.prog 104 #[.int .i64 z, .bool wide] w fun e w' => e = .returned (.tuple #[.int .i64 0, .int .i64 0, .bool false]) ∧ w = w' := by
  go_enter Tryz.func104, Tryz.ntmps104
  go_wp2_with fail
  go_ret3
  exact ⟨rfl, rfl⟩
theorem far_no (v : Nat) (wide : Bool) (w : World) (h : InfMath.lastD wide < v) :
    Calls Tryz.prog 104 #[.int .i64 (v : Int), .bool wide] w fun e w' => e = .returned (.tuple #[.int .i64 0, .int .i64 0, .bool false]) ∧ w = w' := by
  have h0 : decide ((v : Int) < 0) = false := by simp
  have HL := Lib.hid (last_any wide w)
  generalize InfMath.lastD wide = L at *
  go_enter Tryz.func104, Tryz.ntmps104
  go_wp2_with fail
  refine HL.out.mono ?_
  rintro e w' ⟨rfl, rfl⟩
  go_wp2_with fail
  go_ret3
  exact ⟨rfl, rfl⟩
theorem far_low (v : Nat) (wide : Bool) (w : World) (h : v < 4) :
    Calls Tryz.prog 104 #[.int .i64 (v : Int), .bool wide] w fun e w' => e = .returned (.tuple #[.int .i64 ((1 + v : Nat) : Int), .int .i64 0, .bool true]) ∧ w = w' := by
  have HL := Lib.hid (last_any wide w)
  have hle : 29 ≤ InfMath.lastD wide := by cases wide <;> decide
  generalize InfMath.lastD wide = L at *
  rcases (by omega : v = 0 ∨ v = 1 ∨ v = 2 ∨ v = 3) with rfl | rfl | rfl | rfl
  all_goals
    go_enter Tryz.func104, Tryz.ntmps104
    go_wp2_with fail
    refine HL.out.mono ?_
    rintro e w' ⟨rfl, rfl⟩
    go_wp2_with fail
    go_ret3
    exact ⟨rfl, rfl⟩
theorem far_mid (v : Nat) (wide : Bool) (w : World) (h1 : 4 ≤ v) (h : v ≤ InfMath.lastD wide) :
    Calls Tryz.prog 104 #[.int .i64 (v : Int), .bool wide] w fun e w' => e = .returned (.tuple #[.int .i64 ((1 + (2 + v % 2) * 2 ^ (v / 2 - 1) : Nat) : Int), .int .i64 ((v / 2 - 1 : Nat) : Int), .bool true]) ∧ w = w' := by
  have HL := Lib.hid (last_any wide w)
  have hle := lastD_le wide
  generalize InfMath.lastD wide = L at *
  rcases (by omega : v = 4 ∨ v = 5 ∨ v = 6 ∨ v = 7 ∨ v = 8 ∨ v = 9 ∨ v = 10 ∨ v = 11 ∨ v = 12 ∨ v = 13 ∨ v = 14 ∨ v = 15 ∨ v = 16 ∨ v = 17 ∨ v = 18 ∨ v = 19 ∨ v = 20 ∨ v = 21 ∨ v = 22 ∨ v = 23 ∨ v = 24 ∨ v = 25 ∨ v = 26 ∨ v = 27 ∨ v = 28 ∨ v = 29 ∨ v = 30 ∨ v = 31) with
    rfl | rfl | rfl | rfl | rfl | rfl | rfl | rfl | rfl | rfl | rfl | rfl | rfl | rfl | rfl | rfl | rfl | rfl | rfl | rfl | rfl | rfl | rfl | rfl | rfl | rfl | rfl | rfl
  all_goals
    go_enter Tryz.func104, Tryz.ntmps104
    go_wp2_with fail
    refine HL.out.mono ?_
    rintro e w' ⟨rfl, rfl⟩
    go_wp2_with fail
    go_ret3
    exact ⟨rfl, rfl⟩
theorem far_any (z : Int) (wide : Bool) (w : World) :
    Calls Tryz.prog 104 #[.int .i64 z, .bool wide] w fun e w' => e = .returned (ansB (farZ z wide)) ∧ w = w' := by
  by_cases h : z < 0
  · have e : farZ z wide = none := by unfold farZ; rw [if_pos h]
    rw [e]
    exact far_neg z wide w h
  · obtain ⟨v, rfl⟩ : ∃ v : Nat, z = (v : Int) := ⟨z.toNat, by omega⟩
    rw [farZ_nat]
    by_cases h1 : InfMath.lastD wide < v
    · have e : InfMath.far v wide = none := by unfold InfMath.far; rw [if_pos h1]
      rw [e]
      exact far_no v wide w h1
    · by_cases h2 : v < 4
      · have e : InfMath.far v wide = some (1 + v, 0) := by unfold InfMath.far; rw [if_neg h1, if_pos h2]
        rw [e]
        exact far_low v wide w h2
      · have e : InfMath.far v wide = some (1 + (2 + v % 2) * 2 ^ (v / 2 - 1), v / 2 - 1) := by unfold InfMath.far; rw [if_neg h1, if_neg h2]
        rw [e]
        exact far_mid v wide w (by omega) (by omega)
end Go.Proofs.YtdbcendnibgcaaaGreatDoor.InfC
end

section
/-
  symbol: which symbol stands in front; put: a byte comes out.
-/
namespace Go.Proofs.YtdbcendnibgcaaaGreatDoor.InfC
open Go.RowKit Go.My BitMath CanMath TabMath WinMath FeedC TabC CanC
open WinC (Wn)
open InfMath (M Ok Steps Ends CodeOk mu lack fixL fixD)

theorem ans_sym (ls : List Nat) (bs : List Bool) : ansV (who ls (num (bs.take 15))) (min bs.length 15) = .tuple #[.int .i64 ((InfMath.sym ls bs).1 : Int), .int .i64 ((InfMath.sym ls bs).2.1 : Int), .int .i64 ((InfMath.sym ls bs).2.2 : Int)] := by
  unfold ansV InfMath.sym
  split
  · rfl
  · split
    · rfl
    · rfl
theorem cl_len (n : Nat) : cl (n : Int) = min n 15 := by unfold cl; omega

section
variable {B x : Nat} {w : World} {s : M} {d : Ad}
theorem find_at (g f : Nat) (ls : List Nat) (bs : List Bool) (c : Nat → Nat) (w : World) (ht : TabIn w c g ls f) (hc : CodeOk ls) (h1 : 1 ≤ f) (h2 : f ≤ 15) :
    Calls Tryz.prog 117 #[.pointer (some ⟨g, 0, none⟩), .int .u32 ((num (bs.take 15) : Nat) : Int), .int .i64 (bs.length : Int)] w fun e w' =>
      e = .returned (.tuple #[.int .i64 ((InfMath.sym ls bs).1 : Int), .int .i64 ((InfMath.sym ls bs).2.1 : Int), .int .i64 ((InfMath.sym ls bs).2.2 : Int)]) ∧ Below w.heap.size w w' := by
  have hv : num (bs.take 15) < 2 ^ min bs.length 15 := Nat.lt_of_lt_of_le (num_lt _) (by rw [List.length_take, Nat.min_comm]; exact Nat.le_refl _)
  have h15 : 2 ^ min bs.length 15 ≤ 2 ^ 15 := Nat.pow_le_pow_right (by omega) (by omega)
  have hit : IsTab 0 w g (nat (ints ls)) f := by
    obtain ⟨_, ge, _, h3⟩ := ht
    rw [nat_ints]
    exact ⟨Nat.zero_le _, ge, Nat.zero_le _, h3⟩
  refine (find_is (v := num (bs.take 15)) (n := (bs.length : Int)) hit (good_code hc) (by rw [nat_ints]; exact hc.kr) h1 h2 (by omega)).mono ?_
  rintro e w' ⟨rfl, hb⟩
  refine ⟨?_, hb⟩
  rw [nat_ints, cl_len, Nat.mod_eq_of_lt hv, ans_sym]

set_option maxHeartbeats 1000000 in
theorem symbol_any (g f : Nat) (ls : List Nat) (h : Hid (At B w x s d)) (ht : TabIn w d.c g ls f) (hc : CodeOk ls) (h1 : 1 ≤ f) (h2 : f ≤ 15) (hb : s.bits.length ≤ 1000000000) :
    Calls Tryz.prog 99 #[.pointer (some ⟨x, 0, none⟩), .pointer (some ⟨g, 0, none⟩)] w fun e w' =>
      ((InfMath.sym ls s.bits).2.2 ≠ 0 ∧ Thrown (InfMath.bad s (InfMath.sym ls s.bits).2.2) e ∨ (InfMath.sym ls s.bits).2.2 = 0 ∧ e = .returned (.tuple #[.int .i64 ((InfMath.sym ls s.bits).1 : Int), .int .i64 ((InfMath.sym ls s.bits).2.1 : Int)])) ∧ Below w.heap.size w w' := by
  have h2' : ∀ p : Later w, p.at'.cell? ⟨x, 2, none⟩ = some (.pointer (some ⟨d.f, 0, none⟩)) := fun p => (h.out.later p.kept).blk.cell 2
  have HF : Hid (∀ p : Later w, Fed B p.at' d.f d.F s.bits s.pushed s.ended) := Lib.hid (fun p => (h.out.later p.kept).rs.feed.1)
  have HP : Hid (∀ p : Later w, Calls Tryz.prog 118 #[.pointer (some ⟨d.f, 0, none⟩), .int .i64 15] p.at' fun e w' => e = .returned (.int .u32 ((num (s.bits.take 15) : Nat) : Int)) ∧ Below p.at'.heap.size p.at' w') := Lib.hid (fun p => by
    refine (peek_any 15 _ _ _ _ _ _ p.at' (HF.out p)).mono ?_
    rw [show peekV s.bits 15 = num (s.bits.take 15) from peek_take s.bits 15 (by omega)]
    rintro e w' ⟨rfl, k, rfl⟩
    exact ⟨rfl, quiet_below _ k⟩)
  have HB : Hid (∀ p : Later w, Calls Tryz.prog 75 #[.pointer (some ⟨d.f, 0, none⟩)] p.at' fun e w' => e = .returned (.int .i64 (s.bits.length : Int)) ∧ Below p.at'.heap.size p.at' w') := Lib.hid (fun p => by
    refine (bits_any _ _ _ _ _ _ p.at' (HF.out p) (by omega)).mono ?_
    rintro e w' ⟨rfl, k, rfl⟩
    exact ⟨rfl, quiet_below _ k⟩)
  have HT : Hid (∀ p : Later w, Calls Tryz.prog 117 #[.pointer (some ⟨g, 0, none⟩), .int .u32 ((num (s.bits.take 15) : Nat) : Int), .int .i64 (s.bits.length : Int)] p.at' fun e w' =>
      e = .returned (.tuple #[.int .i64 ((InfMath.sym ls s.bits).1 : Int), .int .i64 ((InfMath.sym ls s.bits).2.1 : Int), .int .i64 ((InfMath.sym ls s.bits).2.2 : Int)]) ∧ Below p.at'.heap.size p.at' w') := Lib.hid (fun p => find_at g f ls s.bits d.c p.at' (ht.turn (Turn.of_below p.kept 0 d.c) (by decide)) hc h1 h2)
  have HS := Lib.hid (InfMath.sym_code ls s.bits)
  generalize num (s.bits.take 15) = N at *
  generalize (s.bits.length : Int) = L at *
  obtain ⟨V, hV⟩ : ∃ V, V = InfMath.sym ls s.bits := ⟨_, rfl⟩
  rw [← hV] at HT HS ⊢
  clear hV
  obtain ⟨v, n, cc⟩ := V
  simp only at HT HS ⊢
  go_enter Tryz.func99, Tryz.ntmps99
  go_wp2_with (refine wp_region_later (by kernel_rfl) (by kernel_rfl) ?_)
  repeat (go_big_quiet_step (first
    | (go_at_call 118; refine later_of (HP.out _))
    | (go_at_call 75; refine later_of (HB.out _))
    | (go_at_call 117; refine later_of (HT.out _))))
  refine wpQuiet_nil ?_
  rintro _ ⟨p, rfl⟩
  have HX := Lib.hid (h.out.later p.kept)
  have HK := Lib.hid p.kept
  clear h2' HF HP HB HT
  generalize p.at' = w2 at *
  rcases HS.out with rfl | rfl | rfl
  · go_wp2_with fail
    go_ret2
    exact ⟨rfl, HK.out⟩
  · go_wp2_with fail
    refine (fail_any 2 w2).mono ?_
    rintro e w' ⟨rfl, rfl⟩
    go_wp2_with fail
    exact ⟨rfl, .inl ⟨by decide, rfl⟩, HK.out⟩
  · go_wp2_with fail
    refine (lack_any HX).mono ?_
    rintro e w' ⟨rfl, rfl⟩
    go_wp2_with fail
    exact ⟨rfl, .inl ⟨by decide, rfl⟩, HK.out⟩
end
end Go.Proofs.YtdbcendnibgcaaaGreatDoor.InfC
end
