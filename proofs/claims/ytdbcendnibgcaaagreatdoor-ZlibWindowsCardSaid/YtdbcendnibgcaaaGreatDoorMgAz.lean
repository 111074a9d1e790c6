import Derived.Test.YtdbcendnibgcaaaGreatDoorMgAy

section
/-
  What a reading leaves; tables of codes: made, fixedCodes.
-/
namespace Go.Proofs.YtdbcendnibgcaaaGreatDoor.InfC
open Go.RowKit Go.My BitMath CanMath TabMath WinMath FeedC TabC CanC
open WinC (Wn)
open InfMath (M Ok CodeOk mu lack fixL fixD)

def Steps1 (s t : M) : Prop := ∃ u, InfMath.step s = .more u ∧ InfMath.Steps u t
/-- What a reading leaves: the machine went on, or came to an end. -/
def Goes (B x : Nat) (s : M) (d : Ad) (w : World) (e : Ending) (w' : World) : Prop :=
  ∃ d', Hid (Mv d.c d'.c w w') ∧ ((e = .returned (.tuple #[]) ∧ ∃ t, Steps1 s t ∧ (t.next = 10 → t.total + t.matching ≤ t.most) ∧ Hid (At B w' x t d')) ∨
    (∃ c t t', Thrown c e ∧ InfMath.Ends s t c ∧ Hid (At B w' x t' d') ∧ t'.out = t.out ∧ t'.total = t.total ∧ (c = 5 ∨ c = 0 → t' = t)))
section
variable {B x : Nat} {w w' : World} {s t t' : M} {d d' : Ad} {e : Ending} {c : Nat}
theorem Goes.more (hs : InfMath.step s = .more t) (h : Hid (At B w' x t d')) (m : Hid (Mv d.c d'.c w w')) (hr : t.next = 10 → t.total + t.matching ≤ t.most := by (intro h; simp at h; done)) : Goes B x s d w (.returned (.tuple #[])) w' :=
  ⟨d', m, .inl ⟨rfl, t, ⟨t, hs, .refl _⟩, hr, h⟩⟩
theorem close_ne (s : M) : (InfMath.close s).next ≠ 10 := by unfold InfMath.close; simp only; split <;> decide
theorem Goes.halt (hs : InfMath.step s = .halt c) (h : Hid (At B w' x s d')) (m : Hid (Mv d.c d'.c w w')) (he : Thrown c e) : Goes B x s d w e w' :=
  ⟨d', m, .inr ⟨c, s, s, he, ⟨.refl _, hs⟩, h, rfl, rfl, fun _ => rfl⟩⟩
theorem Goes.fail (hs : InfMath.step s = .halt c) (hc : ¬ (c = 5 ∨ c = 0)) (h : Hid (At B w' x t' d')) (ho : t'.out = s.out) (ht : t'.total = s.total) (m : Hid (Mv d.c d'.c w w')) (he : Thrown c e) : Goes B x s d w e w' :=
  ⟨d', m, .inr ⟨c, s, t', he, ⟨.refl _, hs⟩, h, ho, ht, fun h => absurd h hc⟩⟩
theorem At.move (hb : Blk w' x 99 (cells t d')) (ho : Only (fun k => k = x) w w') (hr : Rs B w x t d') : At B w' x t d' := ⟨hb, hr.only ho⟩
theorem At.move_mv (h : At B w x s d) (ho : Only (fun k => k = x) w w') : Mv d.c d.c w w' := (turn_x h.rs.cx ho).mv (by decide)
theorem only_two (w : World) (x i j : Nat) (u v : Value) : Only (fun k => k = x) w ((w.setCell ⟨x, i, none⟩ u).setCell ⟨x, j, none⟩ v) :=
  (only_set w x i u).trans (only_set _ x j v) (fun _ _ h => h)
end

/-- Only blocks without a colour have turned; new ones have none. -/
theorem At.turn0 {B x : Nat} {w w' : World} {s : M} {d : Ad} (h : At B w x s d) {c' : Nat → Nat} (t : Turn 0 d.c c' w w') (hl : ∀ k, k < B → c' k = 0) : At B w' x s { d with c := c' } :=
  ⟨h.blk.same (t.only.block x h.lt (by rw [h.rs.cx]; decide)), ⟨h.rs.base, (t.col x h.lt).trans h.rs.cx, hl, h.rs.feed.turn t (by decide), h.rs.win.turn t (by decide), h.rs.out.turn t (by decide), h.rs.lens.turn t (by decide), h.rs.t1.turn t (by decide), h.rs.t2.turn t (by decide), h.rs.t3.turn t (by decide), h.rs.t4.turn t (by decide), h.rs.t5.turn t (by decide)⟩⟩
/-- New blocks without a colour. -/
theorem At.color {B x : Nat} {w w' : World} {s : M} {d : Ad} (h : At B w x s d) (hb : Below w.heap.size w w') (i : Nat) : At B w' x s { d with c := recol w.heap.size d.c i } ∧ Mv d.c (recol w.heap.size d.c i) w w' :=
  ⟨h.turn0 ⟨Only.of_below hb _, fun _ hk => recol_old d.c hk⟩ (low_recol h.rs.low h.rs.lt), ⟨Only.of_below hb _, fun _ hk => recol_old d.c hk⟩⟩
theorem At.plain {B x : Nat} {w w' : World} {s : M} {d : Ad} (h : At B w x s d) (hb : Below w.heap.size w w') : At B w' x s { d with c := recol w.heap.size d.c 0 } ∧ Mv d.c (recol w.heap.size d.c 0) w w' :=
  ⟨h.turn0 ⟨Only.of_below hb _, fun _ hk => recol_old d.c hk⟩ (low_recol h.rs.low h.rs.lt), ⟨Only.of_below hb _, fun _ hk => recol_old d.c hk⟩⟩
theorem At.other {B x r : Nat} {w : World} {s : M} {d : Ad} (h : At B w x s d) (hr : d.c r = 0) (i : Nat) (u : Value) : At B (w.setCell ⟨r, i, none⟩ u) x s d :=
  h.turn0 ⟨(only_set w r i u).mono (fun k _ e => by subst e; exact hr), fun _ _ => rfl⟩ h.rs.low
theorem Mv.set {c c' : Nat → Nat} {w w' : World} (m : Mv c c' w w') {r : Nat} (hr : w.heap.size ≤ r) (i : Nat) (u : Value) : Mv c c' w (w'.setCell ⟨r, i, none⟩ u) :=
  ⟨m.only.setCell (p := ⟨r, i, none⟩) (fun h => absurd h (by simp only; omega)) u, m.col⟩
theorem Mv.blk {c c' : Nat → Nat} {w w' : World} (m : Mv c c' w w') {r : Nat} {t : TypeId} {cs : Array Value} (h : Blk w r t cs) (hr : c r = 0) : Blk w' r t cs := m.only.blk h (fun e => e hr)

theorem isTab_in {w w' : World} {g f : Nat} {ls : List Nat} (c : Nat → Nat) (h : IsTab w.heap.size w' g ls f) : TabIn w' (recol w.heap.size c 6) g ls f := by
  obtain ⟨h1, ge, h2, h3⟩ := h
  exact ⟨recol_new c h1, ge, recol_new c h2, h3⟩
set_option maxHeartbeats 1000000 in
theorem made_any (l : List Nat) (f : Nat) (a : Option Addr) (cap : Nat) (w : World) (h : RowIn w a l.length cap ((ints l).map iv)) (hc : CodeOk l) (h1 : 1 ≤ f) (h2 : f ≤ 15) :
    Calls Tryz.prog 96 #[.slice a l.length cap, .int .i64 (f : Int)] w fun e w' => ∃ g, e = .returned (.pointer (some ⟨g, 0, none⟩)) ∧ IsTab w.heap.size w' g l f ∧ Below w.heap.size w w' := by
  have HQ : Hid (Calls Tryz.prog 115 #[.slice a l.length cap, .int .i64 (f : Int)] w fun e w' => ∃ g, e = .returned (.tuple #[.pointer (some ⟨g, 0, none⟩), .int .i64 0]) ∧ IsTab w.heap.size w' g l f ∧ Below w.heap.size w w') := Lib.hid (by
    have := new_ok f h (good_code hc) (by rw [nat_ints]; exact hc.kr) h1 h2
    rw [nat_ints] at this
    exact this)
  clear h
  go_enter Tryz.func96, Tryz.ntmps96
  go_wp2_with fail
  refine HQ.out.mono ?_
  rintro e w' ⟨g, rfl, ht, hb⟩
  have HT := Lib.hid (And.intro ht hb)
  clear ht hb
  go_wp2_with fail
  go_ret
  exact ⟨g, rfl, HT.out.1, HT.out.2⟩

/-- A row of the call's own of n numbers alike. -/
theorem ints_rep (n v : Nat) : (ints (List.replicate n v)).map iv = List.replicate n (iv (v : Int)) := by simp [ints]
theorem one_row (w : World) (z : Int) : RowIn (w.alloc (.cells #[iv z] 3)) (some ⟨w.heap.size, 0, none⟩) 1 1 [iv z] :=
  (OwnV.lit 3 w #[iv z] (Nat.le_refl _) (by simp)).rowIn rfl

theorem eql_none (w : World) : (binOp .eql 97 (.agg #[.pointer none, .pointer none]) (.agg #[.pointer none, .pointer none])).run Tryz.prog w = .ok (.bool true) w := by kernel_rfl
theorem eql_some (g1 g2 : Nat) (w : World) : (binOp .eql 97 (.agg #[.pointer (some ⟨g1, 0, none⟩), .pointer (some ⟨g2, 0, none⟩)]) (.agg #[.pointer none, .pointer none])).run Tryz.prog w = .ok (.bool false) w := by kernel_rfl
theorem guard_codes : Tryz.prog.eqGuardType Tryz.prog.depth 97 = false := by kernel_rfl

theorem codes_ret {a : Act} {w : World} {r : Nat} {u v : Value} {R : Ending → World → Prop} (hd : a.defers = []) (hp : a.tmps.getD 2 undef = .pointer (some ⟨r, 0, none⟩))
    (hg : Blk w r 97 #[u, v]) (h : R (.returned (.agg #[u, v])) w) :
    bodyPost Tryz.prog Tryz.f87 R .ret a w := by
  refine bodyPost_ret (v := .agg #[u, v]) ?_ hd h
  have hp' : a.tmps[2]?.getD undef = .pointer (some ⟨r, 0, none⟩) := by simpa using hp
  simp [results, Tryz.results87, hp', asAddr, run_loadVar_row (P := Tryz.prog) w r 97 97 #[u, v] (0, 0) _ hg Tryz.underlying97 rfl (by kernel_rfl)]
/-- The four rows of the fixed literals' lengths. -/
def fixR : Nat → List Value
  | 0 => List.replicate 144 (iv 8)
  | 1 => List.replicate 112 (iv 9)
  | 2 => List.replicate 24 (iv 7)
  | _ => List.replicate 8 (iv 8)
theorem cat_fix : SlcC.cat fixR 4 = (ints fixL).map iv := by
  simp only [SlcC.cat, fixR, fixL, ints, List.map_append, List.map_replicate, List.nil_append]
  rfl
theorem fixL_len : fixL.length = 288 := by decide +kernel
theorem fixD_len : fixD.length = 32 := by decide +kernel
theorem fixD_ints : (ints fixD).map iv = List.replicate 32 (iv 5) := by simp only [fixD, ints, List.map_replicate]; rfl

section
variable {B x : Nat} {w : World} {s : M} {d : Ad}
set_option maxRecDepth 100000 in
set_option maxHeartbeats 4000000 in
theorem fixed_any (h : Hid (At B w x s d)) :
    Calls Tryz.prog 87 #[.pointer (some ⟨x, 0, none⟩)] w fun e w' => ∃ g1 g2 d', e = .returned (.agg #[.pointer (some ⟨g1, 0, none⟩), .pointer (some ⟨g2, 0, none⟩)]) ∧ d'.fl = some g1 ∧ d'.fd = some g2 ∧
      Hid (At B w' x { s with fixed := true } d') ∧ Hid (Mv d.c d'.c w w') := by
  obtain ⟨b, hbq⟩ : ∃ b, b = s.fixed := ⟨_, rfl⟩
  have hF1 := h.out.rs.t2
  have hF2 := h.out.rs.t3
  rw [← hbq] at hF1 hF2
  cases b
  · simp only [PT] at hF1 hF2
    obtain ⟨e1, e2⟩ : d.fl = none ∧ d.fd = none := by
      constructor
      · rcases hF1 with ⟨q, l, _, hl, _⟩ | hF1
        · simp at hl
        · exact hF1.1
      · rcases hF2 with ⟨q, l, _, hl, _⟩ | hF2
        · simp at hl
        · exact hF2.1
    obtain ⟨w0, hw0⟩ : ∃ w0, w0 = w.alloc (.cells #[.pointer none, .pointer none] 97) := ⟨_, rfl⟩
    obtain ⟨hA0, hM0⟩ := h.out.plain (w' := w0) (by rw [hw0]; exact (Below.refl _ _).alloc (Nat.le_refl _) _)
    have hr0 : Blk w0 w.heap.size 97 #[.pointer none, .pointer none] := by rw [hw0]; exact Blk.new w _ _
    have hrc : (recol w.heap.size d.c 0) w.heap.size = 0 := recol_new d.c (Nat.le_refl _)
    obtain ⟨d0, hd0⟩ : ∃ d0, d0 = { d with c := recol w.heap.size d.c 0 } := ⟨_, rfl⟩
    rw [← hd0] at hA0
    obtain ⟨r, hr⟩ : ∃ r, r = w.heap.size := ⟨_, rfl⟩
    have HR : Hid (r = w.heap.size ∧ d0.c r = 0 ∧ d0.fl = d.fl ∧ d0.fd = d.fd) := Lib.hid ⟨hr, by rw [hd0, hr]; exact hrc, by rw [hd0], by rw [hd0]⟩
    have HA0 := Lib.hid hA0
    have HM0 : Hid (Mv d.c d0.c w w0) := Lib.hid (by rw [hd0]; exact hM0)
    have h14 : w0.cell? ⟨x, 14, none⟩ = some (.pointer none) := by have := hA0.blk.cell 14; rw [this]; show some (ptr d0.fl) = _; rw [HR.out.2.2.1, e1]; rfl
    have h15 : w0.cell? ⟨x, 15, none⟩ = some (.pointer none) := by have := hA0.blk.cell 15; rw [this]; show some (ptr d0.fd) = _; rw [HR.out.2.2.2, e2]; rfl
    rw [← hr] at hr0
    have HB0 := Lib.hid hr0
    have HB := Lib.hid hbq
    have HN := Lib.hid (And.intro e1 e2)
    have heq := eql_none
    have hgc := guard_codes
    clear hA0 hM0 hr0 hrc hd0 hF1 hF2 e1 e2 hbq
    go_enter Tryz.func87, Tryz.ntmps87
    go_upto_region 1 with (fail)
    rw [← hw0, ← hr]
    clear hw0 hr
    go_wp2_with fail
    clear heq hgc h14 h15
    refine (SlcC.repeat_any 8 144 (by omega) (by omega) _ _ _ (one_row w0 8)).mono ?_
    rintro e w1 ⟨ga, rfl, hown, hb⟩
    have H1 : Hid (RowIn w1 (some ⟨ga, 0, none⟩) 144 144 (fixR 0)) := Lib.hid (hown.rowIn (by simp))
    have HB1 : Hid (Below w0.heap.size w0 w1) := Lib.hid (((Below.refl w0.heap.size w0).alloc (Nat.le_refl _) _).trans (hb.mono (by simp)))
    clear hown hb
    go_wp2_with fail
    refine (SlcC.repeat_any 9 112 (by omega) (by omega) _ _ _ (one_row w1 9)).mono ?_
    rintro e w2 ⟨gb, rfl, hown, hb⟩
    have hb2 : Below w1.heap.size w1 w2 := ((Below.refl w1.heap.size w1).alloc (Nat.le_refl _) _).trans (hb.mono (by simp))
    have H1' : Hid (RowIn w2 (some ⟨ga, 0, none⟩) 144 144 (fixR 0)) := Lib.hid (H1.out.below (Nat.le_refl _) hb2)
    have H2 : Hid (RowIn w2 (some ⟨gb, 0, none⟩) 112 112 (fixR 1)) := Lib.hid (hown.rowIn (by simp))
    have HB2 : Hid (Below w0.heap.size w0 w2) := Lib.hid (HB1.out.trans (hb2.mono HB1.out.size))
    clear hown hb hb2 H1 HB1
    go_wp2_with fail
    refine (SlcC.repeat_any 7 24 (by omega) (by omega) _ _ _ (one_row w2 7)).mono ?_
    rintro e w3 ⟨gc, rfl, hown, hb⟩
    have hb3 : Below w2.heap.size w2 w3 := ((Below.refl w2.heap.size w2).alloc (Nat.le_refl _) _).trans (hb.mono (by simp))
    have H1 : Hid (RowIn w3 (some ⟨ga, 0, none⟩) 144 144 (fixR 0)) := Lib.hid (H1'.out.below (Nat.le_refl _) hb3)
    have H2' : Hid (RowIn w3 (some ⟨gb, 0, none⟩) 112 112 (fixR 1)) := Lib.hid (H2.out.below (Nat.le_refl _) hb3)
    have H3 : Hid (RowIn w3 (some ⟨gc, 0, none⟩) 24 24 (fixR 2)) := Lib.hid (hown.rowIn (by simp))
    have HB3 : Hid (Below w0.heap.size w0 w3) := Lib.hid (HB2.out.trans (hb3.mono HB2.out.size))
    clear hown hb hb3 H1' H2 HB2
    go_wp2_with fail
    refine (SlcC.repeat_any 8 8 (by omega) (by omega) _ _ _ (one_row w3 8)).mono ?_
    rintro e w4 ⟨gd, rfl, hown, hb⟩
    have hb4 : Below w3.heap.size w3 w4 := ((Below.refl w3.heap.size w3).alloc (Nat.le_refl _) _).trans (hb.mono (by simp))
    have h1 : RowIn w4 (some ⟨ga, 0, none⟩) 144 144 (fixR 0) := H1.out.below (Nat.le_refl _) hb4
    have h2 : RowIn w4 (some ⟨gb, 0, none⟩) 112 112 (fixR 1) := H2'.out.below (Nat.le_refl _) hb4
    have h3 : RowIn w4 (some ⟨gc, 0, none⟩) 24 24 (fixR 2) := H3.out.below (Nat.le_refl _) hb4
    have h4 : RowIn w4 (some ⟨gd, 0, none⟩) 8 8 (fixR 3) := hown.rowIn (by simp)
    have HB4 : Hid (Below w0.heap.size w0 w4) := Lib.hid (HB3.out.trans (hb4.mono HB3.out.size))
    obtain ⟨f, hf⟩ : ∃ f : Nat → Value, f = fun i => if i = 0 then .slice (some ⟨ga, 0, none⟩) 144 144 else if i = 1 then .slice (some ⟨gb, 0, none⟩) 112 112 else if i = 2 then .slice (some ⟨gc, 0, none⟩) 24 24 else .slice (some ⟨gd, 0, none⟩) 8 8 := ⟨_, rfl⟩
    have hal : Below w4.heap.size w4 (w4.alloc (.cells #[.slice (some ⟨ga, 0, none⟩) 144 144, .slice (some ⟨gb, 0, none⟩) 112 112, .slice (some ⟨gc, 0, none⟩) 24 24, .slice (some ⟨gd, 0, none⟩) 8 8] 92)) := (Below.refl _ _).alloc (Nat.le_refl _) _
    have hrw : SlcC.Rws (w4.alloc (.cells #[.slice (some ⟨ga, 0, none⟩) 144 144, .slice (some ⟨gb, 0, none⟩) 112 112, .slice (some ⟨gc, 0, none⟩) 24 24, .slice (some ⟨gd, 0, none⟩) 8 8] 92)) (some ⟨w4.heap.size, 0, none⟩) 4 4 f fixR := by
      refine ⟨?_, fun i hi => ?_, fun i _ u hu => ?_⟩
      · have := (OwnV.lit 92 w4 #[.slice (some ⟨ga, 0, none⟩) 144 144, .slice (some ⟨gb, 0, none⟩) 112 112, .slice (some ⟨gc, 0, none⟩) 24 24, .slice (some ⟨gd, 0, none⟩) 8 8] (Nat.le_refl _) (by simp)).rowIn rfl
        rw [hf]
        exact this
      · rw [hf]
        rcases (by omega : i = 0 ∨ i = 1 ∨ i = 2 ∨ i = 3) with rfl | rfl | rfl | rfl
        · exact ⟨_, _, rfl, h1.below (Nat.le_refl _) hal⟩
        · exact ⟨_, _, rfl, h2.below (Nat.le_refl _) hal⟩
        · exact ⟨_, _, rfl, h3.below (Nat.le_refl _) hal⟩
        · exact ⟨_, _, rfl, h4.below (Nat.le_refl _) hal⟩
      · unfold fixR at hu
        split at hu <;> (rw [(List.mem_replicate.1 hu).2]; rfl)
    have HRW := Lib.hid hrw
    clear hown hb hb4 h1 h2 h3 h4 hal hrw hf H1 H2' H3 HB3
    go_wp2_with fail
    refine (SlcC.concat_any _ 4 4 f fixR _ HRW.out (by omega) (by rw [cat_fix]; simp [ints, fixL_len]) (by rw [cat_fix]; simp [ints, fixL_len])).mono ?_
    rw [cat_fix]
    rintro e w5 ⟨a5, c5, rfl, hown, hb⟩
    have e288 : ((ints fixL).map iv).length = fixL.length := by simp [ints]
    have H5 : Hid (RowIn w5 a5 fixL.length c5 ((ints fixL).map iv)) := Lib.hid (by rw [← e288]; exact hown.rowIn rfl)
    have hb5 : Below w0.heap.size w0 w5 := HB4.out.trans ((((Below.refl w4.heap.size w4).alloc (Nat.le_refl _) _).trans (hb.mono (by simp))).mono HB4.out.size)
    rw [e288]
    obtain ⟨hA5, hM5⟩ := HA0.out.color hb5 0
    obtain ⟨d5, hd5⟩ : ∃ d5, d5 = { d0 with c := recol w0.heap.size d0.c 0 } := ⟨_, rfl⟩
    have HA5 : Hid (At B w5 x s d5) := Lib.hid (by rw [hd5]; exact hA5)
    have HM5 : Hid (Mv d0.c d5.c w0 w5) := Lib.hid (by rw [hd5]; exact hM5)
    have HN5 : Hid (d5.fl = none ∧ d5.fd = none) := Lib.hid (by rw [hd5]; exact ⟨HR.out.2.2.1.trans HN.out.1, HR.out.2.2.2.trans HN.out.2⟩)
    clear hown hb hb5 hA5 hM5 hd5 e288 HRW HB4
    go_wp2_with fail
    refine (made_any fixL 9 a5 c5 w5 H5.out InfMath.fixL_ok (by omega) (by omega)).mono ?_
    rintro e w6 ⟨g1, rfl, ht, hb⟩
    obtain ⟨hA6, hM6⟩ := HA5.out.color hb 6
    obtain ⟨d6, hd6⟩ : ∃ d6, d6 = { d5 with c := recol w5.heap.size d5.c 6 } := ⟨_, rfl⟩
    have HA6 : Hid (At B w6 x s d6) := Lib.hid (by rw [hd6]; exact hA6)
    have HM6 : Hid (Mv d0.c d6.c w0 w6) := Lib.hid (by rw [hd6]; exact HM5.out.trans hM6)
    have HT6 : Hid (TabIn w6 d6.c g1 fixL 9) := Lib.hid (by rw [hd6]; exact isTab_in d5.c ht)
    have HN6 : Hid (d6.fl = none ∧ d6.fd = none) := Lib.hid (by rw [hd6]; exact HN5.out)
    clear ht hb hA6 hM6 hd6 H5 HA5 HM5 HN5
    go_wp2_with fail
    refine (SlcC.repeat_any 5 32 (by omega) (by omega) _ _ _ (one_row w6 5)).mono ?_
    rintro e w7 ⟨g7, rfl, hown, hb⟩
    have hb7 : Below w6.heap.size w6 w7 := ((Below.refl w6.heap.size w6).alloc (Nat.le_refl _) _).trans (hb.mono (by simp))
    have H7 : Hid (RowIn w7 (some ⟨g7, 0, none⟩) fixD.length 32 ((ints fixD).map iv)) := Lib.hid (by rw [fixD_ints, fixD_len]; exact hown.rowIn (by simp))
    obtain ⟨hA7, hM7⟩ := HA6.out.color hb7 0
    obtain ⟨d7, hd7⟩ : ∃ d7, d7 = { d6 with c := recol w6.heap.size d6.c 0 } := ⟨_, rfl⟩
    have HA7 : Hid (At B w7 x s d7) := Lib.hid (by rw [hd7]; exact hA7)
    have HM7 : Hid (Mv d0.c d7.c w0 w7) := Lib.hid (by rw [hd7]; exact HM6.out.trans hM7)
    have HT7 : Hid (TabIn w7 d7.c g1 fixL 9) := Lib.hid (by rw [hd7]; exact HT6.out.turn (i := 0) ⟨Only.of_below hb7 _, fun k hk => recol_old d6.c hk⟩ (by decide))
    have HN7 : Hid (d7.fl = none ∧ d7.fd = none) := Lib.hid (by rw [hd7]; exact HN6.out)
    have HQ := Lib.hid (made_any fixD 6 (some ⟨g7, 0, none⟩) 32 w7 H7.out InfMath.fixD_ok (by omega) (by omega))
    rw [fixD_len] at HQ
    clear hown hb hb7 hA7 hM7 hd7 HA6 HM6 HT6 HN6
    go_wp2_with fail
    refine HQ.out.mono ?_
    rintro e w8 ⟨g2, rfl, ht, hb⟩
    obtain ⟨hA8, hM8⟩ := HA7.out.color hb 6
    obtain ⟨d8, hd8⟩ : ∃ d8, d8 = { d7 with c := recol w7.heap.size d7.c 6 } := ⟨_, rfl⟩
    rw [← hd8] at hA8
    have hM8' : Mv d0.c d8.c w0 w8 := by rw [hd8]; exact HM7.out.trans hM8
    have hT8 : TabIn w8 d8.c g1 fixL 9 := by rw [hd8]; exact HT7.out.turn (i := 0) ⟨Only.of_below hb _, fun k hk => recol_old d7.c hk⟩ (by decide)
    have hT8b : TabIn w8 d8.c g2 fixD 6 := by rw [hd8]; exact isTab_in d7.c ht
    have hN8 : d8.fl = none ∧ d8.fd = none := by rw [hd8]; exact HN7.out
    have h14 : w8.cell? ⟨x, 14, none⟩ = some (ptr d8.fl) := hA8.blk.cell 14
    have h15 : w8.cell? ⟨x, 15, none⟩ = some (ptr d8.fd) := hA8.blk.cell 15
    have f14 := hA8.blk.frozen 14
    have f15 := hA8.blk.frozen 15
    rw [hN8.1] at h14
    rw [hN8.2] at h15
    have hb8 : Blk w8 r 97 #[.pointer none, .pointer none] := hM8'.blk HB0.out HR.out.2.1
    obtain ⟨w9, hw9⟩ : ∃ w9, w9 = (w8.setCell ⟨x, 14, none⟩ (.pointer (some ⟨g1, 0, none⟩))).setCell ⟨x, 15, none⟩ (.pointer (some ⟨g2, 0, none⟩)) := ⟨_, rfl⟩
    have hx9 : Only (fun k => k = x) w8 w9 := by rw [hw9]; exact only_two w8 x 14 15 _ _
    have hrx : r ≠ x := fun e => by have h1 := hA8.rs.cx; rw [← e, hM8'.col r HB0.out.lt, HR.out.2.1] at h1; cases h1
    have hb9 : Blk w9 r 97 #[.pointer none, .pointer none] := hx9.blk hb8 hrx
    obtain ⟨d9, hd9⟩ : ∃ d9, d9 = { d8 with fl := some g1, fd := some g2 } := ⟨_, rfl⟩
    have hA9 : At B w9 x { s with fixed := true } d9 := by
      have hk := (hA8.blk.set_ 14 (.pointer (some ⟨g1, 0, none⟩))).set_ 15 (.pointer (some ⟨g2, 0, none⟩))
      rw [← hw9] at hk
      obtain ⟨r1, r2, r3, r4, r5, r6, r7, r8, r9, r10, r11, r12⟩ := hA8.rs
      have hr : Rs B w8 x { s with fixed := true } d9 := by
        rw [hd9]
        exact ⟨r1, r2, r3, r4, r5, r6, r7, r8, .inl ⟨g1, fixL, rfl, rfl, hT8⟩, .inl ⟨g2, fixD, rfl, rfl, hT8b⟩, r11, r12⟩
      exact ⟨by rw [hd9]; exact hk, hr.only hx9⟩
    have h14b : w9.cell? ⟨x, 14, none⟩ = some (.pointer (some ⟨g1, 0, none⟩)) := by have := hA9.blk.cell 14; rw [this, hd9]; rfl
    have h15b : w9.cell? ⟨x, 15, none⟩ = some (.pointer (some ⟨g2, 0, none⟩)) := by have := hA9.blk.cell 15; rw [this, hd9]; rfl
    have hM9 : Mv d0.c d9.c w0 w9 := by
      have := hM8'.trans ((turn_x hA8.rs.cx hx9).mv (by decide))
      rw [hd9]; exact this
    have HA9 := Lib.hid hA9
    have HM9 := Lib.hid (HM0.out.trans hM9)
    have HD9 : Hid (d9.fl = some g1 ∧ d9.fd = some g2 ∧ d9.c r = 0) := Lib.hid (by
      have h1 := hM9.col r HB0.out.lt
      rw [HR.out.2.1] at h1
      rw [hd9] at h1 ⊢; exact ⟨rfl, rfl, h1⟩)
    have hc0 : w9.cell? ⟨r, 0, none⟩ = some (.pointer none) := hb9.cell 0
    have hc1 : w9.cell? ⟨r, 1, none⟩ = some (.pointer none) := hb9.cell 1
    have hf0 := hb9.frozen 0
    have hf1 := hb9.frozen 1
    have HB9 := Lib.hid ((hb9.set_ 0 (.pointer (some ⟨g1, 0, none⟩))).set_ 1 (.pointer (some ⟨g2, 0, none⟩)))
    rw [hw9] at h14b h15b hc0 hc1 hf0 hf1 HB9 HA9 HM9
    clear ht hb hA8 hM8 hM8' hd8 hT8 hT8b hN8 hb8 hw9 hx9 hrx hb9 hd9 hA9 hM9 HQ HT7 HN7 HM7 HA7 H7
    go_wp2_with fail
    refine codes_ret (r := r) rfl rfl HB9.out ?_
    have hr := HR.out
    have hd := HD9.out
    exact ⟨g1, g2, d9, rfl, hd.1, hd.2.1, Lib.hid ((HA9.out.other hd.2.2 0 _).other hd.2.2 1 _), Lib.hid ((HM9.out.set (by omega) 0 _).set (by omega) 1 _)⟩
  · obtain ⟨g1, hg1, -⟩ : ∃ g1, d.fl = some g1 ∧ True := by
      rcases hF1 with ⟨q, l, e, _, _⟩ | hF1
      · exact ⟨q, e, trivial⟩
      · simp at hF1
    obtain ⟨g2, hg2, -⟩ : ∃ g2, d.fd = some g2 ∧ True := by
      rcases hF2 with ⟨q, l, e, _, _⟩ | hF2
      · exact ⟨q, e, trivial⟩
      · simp at hF2
    clear hF1 hF2
    have HG := Lib.hid (And.intro hg1 hg2)
    have HB := Lib.hid hbq
    clear hg1 hg2 hbq
    obtain ⟨w0, hw0⟩ : ∃ w0, w0 = w.alloc (.cells #[.pointer none, .pointer none] 97) := ⟨_, rfl⟩
    obtain ⟨hA0, hM0⟩ := h.out.plain (w' := w0) (by rw [hw0]; exact (Below.refl _ _).alloc (Nat.le_refl _) _)
    have hr0 : Blk w0 w.heap.size 97 #[.pointer none, .pointer none] := by rw [hw0]; exact Blk.new w _ _
    have hrc : (recol w.heap.size d.c 0) w.heap.size = 0 := recol_new d.c (Nat.le_refl _)
    obtain ⟨d0, hd0⟩ : ∃ d0, d0 = { d with c := recol w.heap.size d.c 0 } := ⟨_, rfl⟩
    rw [← hd0] at hA0
    obtain ⟨r, hr⟩ : ∃ r, r = w.heap.size := ⟨_, rfl⟩
    have HR : Hid (r = w.heap.size ∧ d0.c r = 0 ∧ d0.fl = d.fl ∧ d0.fd = d.fd) := Lib.hid ⟨hr, by rw [hd0, hr]; exact hrc, by rw [hd0], by rw [hd0]⟩
    have HA0 := Lib.hid hA0
    have HM0 : Hid (Mv d.c d0.c w w0) := Lib.hid (by rw [hd0]; exact hM0)
    have h14 : w0.cell? ⟨x, 14, none⟩ = some (.pointer (some ⟨g1, 0, none⟩)) := by have := hA0.blk.cell 14; rw [this]; show some (ptr d0.fl) = _; rw [HR.out.2.2.1, HG.out.1]; rfl
    have h15 : w0.cell? ⟨x, 15, none⟩ = some (.pointer (some ⟨g2, 0, none⟩)) := by have := hA0.blk.cell 15; rw [this]; show some (ptr d0.fd) = _; rw [HR.out.2.2.2, HG.out.2]; rfl
    rw [← hr] at hr0
    have HB0 := Lib.hid hr0
    have heq := eql_some g1 g2
    have hgc := guard_codes
    clear hA0 hM0 hr0 hrc hd0
    have hc0 : w0.cell? ⟨r, 0, none⟩ = some (.pointer none) := HB0.out.cell 0
    have hc1 : w0.cell? ⟨r, 1, none⟩ = some (.pointer none) := HB0.out.cell 1
    have hf0 := HB0.out.frozen 0
    have hf1 := HB0.out.frozen 1
    go_enter Tryz.func87, Tryz.ntmps87
    go_upto_region 1 with (fail)
    rw [← hw0, ← hr]
    clear hw0 hr
    have hb1 := (HB0.out.set_ 0 (.pointer (some ⟨g1, 0, none⟩))).set_ 1 (.pointer (some ⟨g2, 0, none⟩))
    have HB1 : Hid (Blk ((w0.setCell ⟨r, 0, none⟩ (.pointer (some ⟨g1, 0, none⟩))).setCell ⟨r, 1, none⟩ (.pointer (some ⟨g2, 0, none⟩))) r 97 #[.pointer (some ⟨g1, 0, none⟩), .pointer (some ⟨g2, 0, none⟩)]) := Lib.hid hb1
    clear hb1
    go_wp2_with fail
    refine codes_ret (r := r) rfl rfl HB1.out ?_
    have hsf : { s with fixed := true } = s := by
      have := HB.out
      cases s
      simp_all
    have hr := HR.out
    exact ⟨g1, g2, d0, rfl, by rw [hr.2.2.1, HG.out.1], by rw [hr.2.2.2, HG.out.2], Lib.hid (by rw [hsf]; exact (HA0.out.other hr.2.1 0 _).other hr.2.1 1 _), Lib.hid ((HM0.out.set (by omega) 0 _).set (by omega) 1 _)⟩
end
end Go.Proofs.YtdbcendnibgcaaaGreatDoor.InfC
end

section
/-
  open: a block's first bits.
-/
namespace Go.Proofs.YtdbcendnibgcaaaGreatDoor.InfC
open Go.RowKit Go.My BitMath CanMath TabMath WinMath FeedC TabC CanC
open WinC (Wn)
open InfMath (M Ok CodeOk mu lack fixL fixD)

section
variable {B x : Nat} {w : World} {s : M} {d : Ad}
theorem At.mv_drew (h : At B w x s d) (n : Nat) : Hid (At B (w.drewN n) x s d) ∧ Hid (Mv d.c d.c w (w.drewN n)) := ⟨Lib.hid (h.drewN n), Lib.hid ((Mv.refl d.c w).drewN n)⟩

/-- The codes in use are stored. -/
theorem At.codes (h : At B w x s d) {g1 g2 : Nat} {l1 l2 : List Nat} (t1 : TabIn w d.c g1 l1 9) (t2 : TabIn w d.c g2 l2 6) :
    At B ((w.setCell ⟨x, 16, none⟩ (.pointer (some ⟨g1, 0, none⟩))).setCell ⟨x, 17, none⟩ (.pointer (some ⟨g2, 0, none⟩))) x { s with lit := some l1, dist := some l2 } { d with lt := some g1, dt := some g2 } ∧
      Mv d.c d.c w ((w.setCell ⟨x, 16, none⟩ (.pointer (some ⟨g1, 0, none⟩))).setCell ⟨x, 17, none⟩ (.pointer (some ⟨g2, 0, none⟩))) := by
  have hx := only_two w x 16 17 (.pointer (some ⟨g1, 0, none⟩)) (.pointer (some ⟨g2, 0, none⟩))
  have hk := (h.blk.set_ 16 (.pointer (some ⟨g1, 0, none⟩))).set_ 17 (.pointer (some ⟨g2, 0, none⟩))
  refine ⟨?_, (turn_x h.rs.cx hx).mv (by decide)⟩
  obtain ⟨r1, r2, r3, r4, r5, r6, r7, r8, r9, r10, r11, r12⟩ := h.rs
  have hr : Rs B w x { s with lit := some l1, dist := some l2 } { d with lt := some g1, dt := some g2 } := ⟨r1, r2, r3, r4, r5, r6, r7, r8, r9, r10, .inl ⟨g1, l1, rfl, rfl, t1⟩, .inl ⟨g2, l2, rfl, rfl, t2⟩⟩
  exact ⟨hk, hr.only hx⟩
theorem PT.some_ {w : World} {c : Nat → Nat} {g f : Nat} {l : List Nat} {o : Option Nat} (h : PT w c o (some l) f) (ho : o = some g) : TabIn w c g l f := by
  rcases h with ⟨q, l', h1, h2, h3⟩ | ⟨h1, h2⟩
  · rw [ho] at h1
    injection h1 with h1
    injection h2 with h2
    subst h1 h2
    exact h3
  · cases h2
set_option maxHeartbeats 2000000 in
theorem open_any (h : Hid (At B w x s d)) (hn : s.next = 1) (hb : s.bits.length ≤ 1000000000) :
    Calls Tryz.prog 78 #[.pointer (some ⟨x, 0, none⟩)] w (Goes B x s d w) := by
  have HS : Hid (InfMath.step s = InfMath.opening s) := Lib.hid (by unfold InfMath.step; rw [hn]; rfl)
  go_enter Tryz.func78, Tryz.ntmps78
  go_wp2_with fail
  refine (number_any 3 h (by omega) hb).mono ?_
  rintro e w1 h1
  rcases h1 with ⟨h1, rfl, j, rfl⟩ | ⟨h1, rfl, d1, H1, M1⟩
  · go_wp2_with fail
    exact ⟨rfl, Goes.halt (by rw [HS.out]; unfold InfMath.opening; rw [if_pos h1]) (h.out.mv_drew j).1 (h.out.mv_drew j).2 rfl⟩
  · have hlt : num (s.bits.take 3) < 8 := InfMath.num_take_lt s.bits 3
    have HO : Hid (InfMath.step s = InfMath.opening s ∧ ¬ s.bits.length < 3) := Lib.hid ⟨HS.out, by omega⟩
    obtain ⟨v, hv⟩ : ∃ v, v = num (s.bits.take 3) := ⟨_, rfl⟩
    have HV := Lib.hid hv
    rw [← hv] at hlt ⊢
    have h7 : w1.cell? ⟨x, 7, none⟩ = some (.bool s.final) := H1.out.blk.cell 7
    have f7 := H1.out.blk.frozen 7
    have h6 : w1.cell? ⟨x, 6, none⟩ = some (.int .i64 (s.next : Int)) := H1.out.blk.cell 6
    have f6 := H1.out.blk.frozen 6
    obtain ⟨b, hbq⟩ : ∃ b, b = (v % 2 == 1) := ⟨_, rfl⟩
    obtain ⟨k, hk⟩ : ∃ k, k = v / 2 := ⟨_, rfl⟩
    have e2 : (bits .and .i64 (v : Int) 1 == 1) = b := by
      rw [hbq]
      rcases (by omega : v = 0 ∨ v = 1 ∨ v = 2 ∨ v = 3 ∨ v = 4 ∨ v = 5 ∨ v = 6 ∨ v = 7) with rfl | rfl | rfl | rfl | rfl | rfl | rfl | rfl <;> decide
    have e3 : (v : Int) / 2 = (k : Int) := by omega
    have hk4 : k < 4 := by omega
    have HQ : Hid (b = (num (s.bits.take 3) % 2 == 1) ∧ k = num (s.bits.take 3) / 2) := Lib.hid ⟨by rw [← HV.out]; exact hbq, by rw [← HV.out]; exact hk⟩
    have H2 : Hid (At B (w1.setCell ⟨x, 7, none⟩ (.bool b)) x { s with bits := s.bits.drop 3, final := b } d1) := Lib.hid (H1.out.set 7 _ _ rfl ⟨rfl, rfl, rfl, rfl, rfl, rfl, rfl, rfl, rfl, rfl, rfl⟩)
    have M2 := Lib.hid (M1.out.trans (H1.out.set_mv 7 (.bool b)))
    clear h h1 hv HS hn hbq hk hlt H1 M1 HV
    rcases (by omega : k = 0 ∨ k = 1 ∨ k = 2 ∨ k = 3) with rfl | rfl | rfl | rfl
    · have H3 : Hid (At B ((w1.setCell ⟨x, 7, none⟩ (.bool b)).setCell ⟨x, 6, none⟩ (.int .i64 2)) x { s with bits := s.bits.drop 3, final := b, next := 2 } d1) := Lib.hid (H2.out.set 6 _ _ rfl ⟨rfl, rfl, rfl, rfl, rfl, rfl, rfl, rfl, rfl, rfl, rfl⟩)
      have M3 := Lib.hid (M2.out.trans (H2.out.set_mv 6 (.int .i64 2)))
      clear H2 M2
      go_wp2_with fail
      go_end0
      refine Goes.more ?_ H3 M3
      rw [HO.out.1]; unfold InfMath.opening; rw [if_neg HO.out.2, if_pos HQ.out.2.symm, HQ.out.1]
    · go_wp2_with fail
      refine (fixed_any H2).mono ?_
      rintro e w3 ⟨g1, g2, d3, rfl, e1, e4, H3, M3⟩
      have h16 : w3.cell? ⟨x, 16, none⟩ = some (ptr d3.lt) := H3.out.blk.cell 16
      have h17 : w3.cell? ⟨x, 17, none⟩ = some (ptr d3.dt) := H3.out.blk.cell 17
      have h63 : w3.cell? ⟨x, 6, none⟩ = some (.int .i64 (s.next : Int)) := H3.out.blk.cell 6
      have f16 := H3.out.blk.frozen 16
      have f17 := H3.out.blk.frozen 17
      have f63 := H3.out.blk.frozen 6
      obtain ⟨h4, m4⟩ := H3.out.codes (H3.out.rs.t2.some_ e1) (H3.out.rs.t3.some_ e4)
      have H5 := Lib.hid (h4.set 6 (.int .i64 9) { s with bits := s.bits.drop 3, final := b, fixed := true, lit := some fixL, dist := some fixD, next := 9 } rfl ⟨rfl, rfl, rfl, rfl, rfl, rfl, rfl, rfl, rfl, rfl, rfl⟩)
      have M5 := Lib.hid (M2.out.trans (M3.out.trans (m4.trans (h4.set_mv 6 (.int .i64 9)))))
      clear h4 m4 e1 e4 H3 M3 M2 H2
      go_wp2_with fail
      go_end0
      refine Goes.more ?_ H5 M5
      rw [HO.out.1]; unfold InfMath.opening; rw [if_neg HO.out.2, ← HQ.out.2, if_neg (by decide), if_pos rfl, HQ.out.1]
    · have H3 : Hid (At B ((w1.setCell ⟨x, 7, none⟩ (.bool b)).setCell ⟨x, 6, none⟩ (.int .i64 4)) x { s with bits := s.bits.drop 3, final := b, next := 4 } d1) := Lib.hid (H2.out.set 6 _ _ rfl ⟨rfl, rfl, rfl, rfl, rfl, rfl, rfl, rfl, rfl, rfl, rfl⟩)
      have M3 := Lib.hid (M2.out.trans (H2.out.set_mv 6 (.int .i64 4)))
      clear H2 M2
      go_wp2_with fail
      go_end0
      refine Goes.more ?_ H3 M3
      rw [HO.out.1]; unfold InfMath.opening; rw [if_neg HO.out.2, ← HQ.out.2, if_neg (by decide), if_neg (by decide), if_pos rfl, HQ.out.1]
    · go_wp2_with fail
      refine (fail_any 2 _).mono ?_
      rintro e w' ⟨rfl, rfl⟩
      go_wp2_with fail
      refine ⟨rfl, Goes.fail ?_ (by decide) H2 rfl rfl M2 rfl⟩
      rw [HO.out.1]; unfold InfMath.opening; rw [if_neg HO.out.2, ← HQ.out.2, if_neg (by decide), if_neg (by decide), if_neg (by decide)]
end
end Go.Proofs.YtdbcendnibgcaaaGreatDoor.InfC
end

section
/-
  readCount: how many lengths there are.
-/
namespace Go.Proofs.YtdbcendnibgcaaaGreatDoor.InfC
open Go.RowKit Go.My BitMath CanMath TabMath WinMath FeedC TabC CanC
open WinC (Wn)
open InfMath (M Ok CodeOk mu lack fixL fixD)

/-- A header that is new. -/
def heads (w : World) (x n : Nat) : World := ((((w.setCell ⟨x, 9, none⟩ (.int .i64 (n : Int))).setCell ⟨x, 10, none⟩ (.int .i64 0)).setCell ⟨x, 11, none⟩ (.int .i64 0)).setCell ⟨x, 12, none⟩ (.slice none 0 0)).setCell ⟨x, 13, none⟩ (.pointer none)
section
variable {B x : Nat} {w : World} {s : M} {d : Ad}
theorem At.head (h : At B w x s d) (n : Nat) : At B (heads w x n) x { s with hl := n, hd := 0, hc := 0, lens := [], hcode := none } { d with la := none, lc := 0, ht := none } ∧ Mv d.c d.c w (heads w x n) := by
  have hx : Only (fun k => k = x) w (heads w x n) := by
    unfold heads
    exact ((((only_set w x 9 _).trans (only_set _ x 10 _) (fun _ _ h => h)).trans (only_set _ x 11 _) (fun _ _ h => h)).trans (only_set _ x 12 _) (fun _ _ h => h)).trans (only_set _ x 13 _) (fun _ _ h => h)
  have hk : Blk (heads w x n) x 99 _ := ((((h.blk.set_ 9 (.int .i64 (n : Int))).set_ 10 (.int .i64 0)).set_ 11 (.int .i64 0)).set_ 12 (.slice none 0 0)).set_ 13 (.pointer none)
  refine ⟨?_, (turn_x h.rs.cx hx).mv (by decide)⟩
  obtain ⟨r1, r2, r3, r4, r5, r6, r7, r8, r9, r10, r11, r12⟩ := h.rs
  have hr : Rs B w x { s with hl := n, hd := 0, hc := 0, lens := [], hcode := none } { d with la := none, lc := 0, ht := none } := ⟨r1, r2, r3, r4, r5, r6, ⟨OwnV.nil _ _ _, fun k hk => by cases hk⟩, .inr ⟨rfl, rfl⟩, r9, r10, r11, r12⟩
  exact ⟨hk, hr.only hx⟩

set_option maxHeartbeats 2000000 in
theorem count4 (h : Hid (At B w x s d)) (hn : s.next = 4) (hb : s.bits.length ≤ 1000000000) :
    Calls Tryz.prog 81 #[.pointer (some ⟨x, 0, none⟩)] w (Goes B x s d w) := by
  have HS : Hid (InfMath.step s = InfMath.readHlit s) := Lib.hid (by unfold InfMath.step; rw [hn]; rfl)
  have h6 : w.cell? ⟨x, 6, none⟩ = some (.int .i64 4) := by have := h.out.blk.cell 6; rw [this]; show some (Value.int .i64 (s.next : Int)) = _; rw [hn]; rfl
  go_enter Tryz.func81, Tryz.ntmps81
  go_wp2_with fail
  refine (number_any 5 h (by omega) hb).mono ?_
  rintro e w1 h1
  rcases h1 with ⟨h1, rfl, j, rfl⟩ | ⟨h1, rfl, d1, H1, M1⟩
  · go_wp2_with fail
    exact ⟨rfl, Goes.halt (by rw [HS.out]; unfold InfMath.readHlit; rw [if_pos h1]) (h.out.mv_drew j).1 (h.out.mv_drew j).2 rfl⟩
  · have hlt : num (s.bits.take 5) < 32 := InfMath.num_take_lt s.bits 5
    have HO : Hid (InfMath.step s = InfMath.readHlit s ∧ ¬ s.bits.length < 5) := Lib.hid ⟨HS.out, by omega⟩
    obtain ⟨v, hv⟩ : ∃ v, v = num (s.bits.take 5) := ⟨_, rfl⟩
    have HV := Lib.hid hv
    rw [← hv] at hlt ⊢
    have h9 : w1.cell? ⟨x, 9, none⟩ = some (.int .i64 (s.hl : Int)) := H1.out.blk.cell 9
    have h10 : w1.cell? ⟨x, 10, none⟩ = some (.int .i64 (s.hd : Int)) := H1.out.blk.cell 10
    have h11 : w1.cell? ⟨x, 11, none⟩ = some (.int .i64 (s.hc : Int)) := H1.out.blk.cell 11
    have h12 : w1.cell? ⟨x, 12, none⟩ = some (.slice d1.la s.lens.length d1.lc) := H1.out.blk.cell 12
    have h13 : w1.cell? ⟨x, 13, none⟩ = some (ptr d1.ht) := H1.out.blk.cell 13
    have h61 : w1.cell? ⟨x, 6, none⟩ = some (.int .i64 (s.next : Int)) := H1.out.blk.cell 6
    have f9 := H1.out.blk.frozen 9
    have f10 := H1.out.blk.frozen 10
    have f11 := H1.out.blk.frozen 11
    have f12 := H1.out.blk.frozen 12
    have f13 := H1.out.blk.frozen 13
    have f6 := H1.out.blk.frozen 6
    obtain ⟨h2, m2⟩ := H1.out.head (257 + v)
    have H2 := Lib.hid h2
    have M2 := Lib.hid (M1.out.trans m2)
    unfold heads at H2 M2
    rw [show ((257 + v : Nat) : Int) = 257 + (v : Int) from by omega] at H2 M2
    have w1' : IntKind.i64.wrap (257 + (v : Int)) = 257 + (v : Int) := IntWalk.i64_in _ (by omega)
    clear h h1 hv HS hn h6 h2 m2 H1 M1
    by_cases hgt : 29 < v
    · have hd1 : decide (257 + (v : Int) > 286) = true := by simp; omega
      go_wp2_with fail
      refine (fail_any 2 _).mono ?_
      rintro e w' ⟨rfl, rfl⟩
      go_wp2_with fail
      refine ⟨rfl, Goes.fail ?_ (by decide) H2 rfl rfl M2 rfl⟩
      rw [HO.out.1]; unfold InfMath.readHlit; rw [if_neg HO.out.2, ← HV.out, if_pos hgt]
    · have hd1 : decide (257 + (v : Int) > 286) = false := by simp; omega
      have H3 := Lib.hid (H2.out.set 6 (.int .i64 5) { s with bits := s.bits.drop 5, hl := 257 + v, hd := 0, hc := 0, lens := [], hcode := none, next := 5 } rfl ⟨rfl, rfl, rfl, rfl, rfl, rfl, rfl, rfl, rfl, rfl, rfl⟩)
      have M3 := Lib.hid (M2.out.trans (H2.out.set_mv 6 (.int .i64 5)))
      clear H2 M2
      go_wp2_with fail
      go_end0
      refine Goes.more ?_ H3 M3
      rw [HO.out.1]; unfold InfMath.readHlit; rw [if_neg HO.out.2, ← HV.out, if_neg hgt]

set_option maxHeartbeats 2000000 in
theorem count5 (h : Hid (At B w x s d)) (hn : s.next = 5) (hb : s.bits.length ≤ 1000000000) :
    Calls Tryz.prog 81 #[.pointer (some ⟨x, 0, none⟩)] w (Goes B x s d w) := by
  have HS : Hid (InfMath.step s = InfMath.readHdist s) := Lib.hid (by unfold InfMath.step; rw [hn]; rfl)
  have h6 : w.cell? ⟨x, 6, none⟩ = some (.int .i64 5) := by have := h.out.blk.cell 6; rw [this]; show some (Value.int .i64 (s.next : Int)) = _; rw [hn]; rfl
  go_enter Tryz.func81, Tryz.ntmps81
  go_wp2_with fail
  refine (number_any 5 h (by omega) hb).mono ?_
  rintro e w1 h1
  rcases h1 with ⟨h1, rfl, j, rfl⟩ | ⟨h1, rfl, d1, H1, M1⟩
  · go_wp2_with fail
    exact ⟨rfl, Goes.halt (by rw [HS.out]; unfold InfMath.readHdist; rw [if_pos h1]) (h.out.mv_drew j).1 (h.out.mv_drew j).2 rfl⟩
  · have hlt : num (s.bits.take 5) < 32 := InfMath.num_take_lt s.bits 5
    have HO : Hid (InfMath.step s = InfMath.readHdist s ∧ ¬ s.bits.length < 5) := Lib.hid ⟨HS.out, by omega⟩
    obtain ⟨v, hv⟩ : ∃ v, v = num (s.bits.take 5) := ⟨_, rfl⟩
    have HV := Lib.hid hv
    rw [← hv] at hlt ⊢
    have h10 : w1.cell? ⟨x, 10, none⟩ = some (.int .i64 (s.hd : Int)) := H1.out.blk.cell 10
    have f10 := H1.out.blk.frozen 10
    have w1' : IntKind.i64.wrap (1 + (v : Int)) = 1 + (v : Int) := IntWalk.i64_in _ (by omega)
    have H2 := Lib.hid (H1.out.set 10 (.int .i64 (1 + (v : Int))) { s with bits := s.bits.drop 5, hd := 1 + v } (by unfold cells; rw [show ((1 + v : Nat) : Int) = 1 + (v : Int) from by omega]; rfl) ⟨rfl, rfl, rfl, rfl, rfl, rfl, rfl, rfl, rfl, rfl, rfl⟩)
    have M2 := Lib.hid (M1.out.trans (H1.out.set_mv 10 (.int .i64 (1 + (v : Int)))))
    clear h h1 hv HS hn h6 M1
    go_wp2_with fail
    clear h10 f10 H1
    generalize (w1.setCell ⟨x, 10, none⟩ (.int .i64 (1 + (v : Int)))) = w2 at *
    have h10 : w2.cell? ⟨x, 10, none⟩ = some (.int .i64 (1 + (v : Int))) := by have := H2.out.blk.cell 10; rw [this]; show some (Value.int .i64 ((1 + v : Nat) : Int)) = _; rw [show ((1 + v : Nat) : Int) = 1 + (v : Int) from by omega]
    have h0 : w2.cell? ⟨x, 0, none⟩ = some (.bool s.wide) := H2.out.blk.cell 0
    have HL := Lib.hid (lastD_le s.wide)
    have HQ : Hid (∀ w, Calls Tryz.prog 94 #[.bool s.wide] w fun e w' => e = .returned (.int .i64 ((InfMath.lastD s.wide : Nat) : Int)) ∧ ∃ n, w' = w.drewN n) := Lib.hid (fun w => (last_any s.wide w).mono (fun e w' h => ⟨h.1, 0, h.2.symm⟩))
    obtain ⟨D, hD⟩ : ∃ D, D = InfMath.lastD s.wide := ⟨_, rfl⟩
    rw [← hD] at HL HQ
    have HD := Lib.hid hD
    have hDb := HL.out
    have w2' : IntKind.i64.wrap (1 + (D : Int)) = 1 + (D : Int) := IntWalk.i64_in _ (by omega)
    clear hD HL
    by_cases hgt : D < v
    · have hd1 : decide (1 + (v : Int) > 1 + (D : Int)) = true := by simp; omega
      go_quiet ((go_at_call 94; refine Calls.quiet_of (HQ.out _)))
      go_wp2_with fail
      refine (fail_any 2 _).mono ?_
      rintro e w' ⟨rfl, rfl⟩
      go_wp2_with fail
      refine ⟨rfl, Goes.fail ?_ (by decide) (Lib.hid (H2.out.drewN _)) rfl rfl (Lib.hid (M2.out.drewN _)) rfl⟩
      rw [HO.out.1]; unfold InfMath.readHdist; rw [if_neg HO.out.2, ← HV.out, ← HD.out, if_pos hgt]
    · have hd1 : decide (1 + (v : Int) > 1 + (D : Int)) = false := by simp; omega
      have h6 : ∀ n, (w2.drewN n).cell? ⟨x, 6, none⟩ = some (.int .i64 (s.next : Int)) := fun n => H2.out.blk.cell 6
      have f6 : ∀ n, (w2.drewN n).frozen? ⟨x, 6, none⟩ = false := fun n => H2.out.blk.frozen 6
      go_quiet ((go_at_call 94; refine Calls.quiet_of (HQ.out _)))
      have H3 : ∀ n, Hid (At B ((w2.drewN n).setCell ⟨x, 6, none⟩ (.int .i64 6)) x { s with bits := s.bits.drop 5, hd := 1 + v, next := 6 } d1) := fun n => Lib.hid ((H2.out.drewN n).set 6 (.int .i64 6) _ rfl ⟨rfl, rfl, rfl, rfl, rfl, rfl, rfl, rfl, rfl, rfl, rfl⟩)
      have M3 : ∀ n, Hid (Mv d.c d1.c w ((w2.drewN n).setCell ⟨x, 6, none⟩ (.int .i64 6))) := fun n => Lib.hid ((M2.out.drewN n).trans ((H2.out.drewN n).set_mv 6 (.int .i64 6)))
      clear H2 M2
      go_wp2_with fail
      go_end0
      refine Goes.more ?_ (H3 _) (M3 _)
      rw [HO.out.1]; unfold InfMath.readHdist; rw [if_neg HO.out.2, ← HV.out, ← HD.out, if_neg hgt]

set_option maxHeartbeats 2000000 in
theorem count6 (h : Hid (At B w x s d)) (hn : s.next = 6) (hb : s.bits.length ≤ 1000000000) :
    Calls Tryz.prog 81 #[.pointer (some ⟨x, 0, none⟩)] w (Goes B x s d w) := by
  have HS : Hid (InfMath.step s = InfMath.readHclen s) := Lib.hid (by unfold InfMath.step; rw [hn]; rfl)
  have h6 : w.cell? ⟨x, 6, none⟩ = some (.int .i64 6) := by have := h.out.blk.cell 6; rw [this]; show some (Value.int .i64 (s.next : Int)) = _; rw [hn]; rfl
  go_enter Tryz.func81, Tryz.ntmps81
  go_wp2_with fail
  refine (number_any 4 h (by omega) hb).mono ?_
  rintro e w1 h1
  rcases h1 with ⟨h1, rfl, j, rfl⟩ | ⟨h1, rfl, d1, H1, M1⟩
  · go_wp2_with fail
    exact ⟨rfl, Goes.halt (by rw [HS.out]; unfold InfMath.readHclen; rw [if_pos h1]) (h.out.mv_drew j).1 (h.out.mv_drew j).2 rfl⟩
  · have hlt : num (s.bits.take 4) < 16 := InfMath.num_take_lt s.bits 4
    have HO : Hid (InfMath.step s = InfMath.readHclen s ∧ ¬ s.bits.length < 4) := Lib.hid ⟨HS.out, by omega⟩
    obtain ⟨v, hv⟩ : ∃ v, v = num (s.bits.take 4) := ⟨_, rfl⟩
    have HV := Lib.hid hv
    rw [← hv] at hlt ⊢
    have h11 : w1.cell? ⟨x, 11, none⟩ = some (.int .i64 (s.hc : Int)) := H1.out.blk.cell 11
    have f11 := H1.out.blk.frozen 11
    have h61 : w1.cell? ⟨x, 6, none⟩ = some (.int .i64 (s.next : Int)) := H1.out.blk.cell 6
    have f6 := H1.out.blk.frozen 6
    have w1' : IntKind.i64.wrap (4 + (v : Int)) = 4 + (v : Int) := IntWalk.i64_in _ (by omega)
    have h2 := H1.out.set 11 (.int .i64 (4 + (v : Int))) { s with bits := s.bits.drop 4, hc := 4 + v } (by unfold cells; rw [show ((4 + v : Nat) : Int) = 4 + (v : Int) from by omega]; rfl) ⟨rfl, rfl, rfl, rfl, rfl, rfl, rfl, rfl, rfl, rfl, rfl⟩
    have m2 := M1.out.trans (H1.out.set_mv 11 (.int .i64 (4 + (v : Int))))
    have H3 := Lib.hid (h2.set 6 (.int .i64 7) { s with bits := s.bits.drop 4, hc := 4 + v, next := 7 } rfl ⟨rfl, rfl, rfl, rfl, rfl, rfl, rfl, rfl, rfl, rfl, rfl⟩)
    have M3 := Lib.hid (m2.trans (h2.set_mv 6 (.int .i64 7)))
    clear h h1 hv HS hn h6 M1 h2 m2 H1
    go_wp2_with fail
    go_end0
    refine Goes.more ?_ H3 M3
    rw [HO.out.1]; unfold InfMath.readHclen; rw [if_neg HO.out.2, ← HV.out]
end
end Go.Proofs.YtdbcendnibgcaaaGreatDoor.InfC
end
