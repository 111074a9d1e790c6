import Derived.Test.YtdbcendnibgcaaaGreatDoorMgBa

section
/-
  readCodeLengths: the lengths of the code for the lengths, one by one.
-/
namespace Go.Proofs.YtdbcendnibgcaaaGreatDoor.InfC
open Go.RowKit Go.My BitMath CanMath TabMath WinMath FeedC TabC CanC
open WinC (Wn)
open InfMath (M Ok CodeOk mu lack fixL fixD)

theorem wp_throw {P : Program} {Q : Exit → Act → World → Prop} {o : Oper} {a : Act} {w : World} {K : Act → World → Prop} {f : FuncId} {args : Array Value} {R : Ending → World → Prop}
    (hr : (execOp a.eval o).run P w = .ok (.enter f args) w) (hc : Calls P f args w R) (h : ∀ e w', R e w' → ∃ c, e = .panicked c ∧ Q (.panic c) a w') : o.wp P a w K Q := by
  unfold Oper.wp
  rw [hr]
  simp only [Oper.upon]
  exact hc.mono fun e w' hR => by obtain ⟨c, rfl, hQ⟩ := h e w' hR; exact hQ
theorem step_append_row {P : Program} {w : World} {ops : Array Oper} {o : Oper} {a : Act} {K : Act → World → Prop} {Q : Exit → Act → World → Prop} {F : Prop} (hgd : o.guard = none) (s x : Operand) (t : TypeId)
    (ho : o.op = .call { callee := .builtin .append, args := #[s, x], argTypes := #[t, t] }) (base : Nat) (E : TypeId) (z : Value) (by_ : Nat) (ht : P.underlying t = some (.slice E))
    (hi : (P.info? E).map (fun i => (i.zero, i.size, i.bytes)) = some (some z, 1, by_)) (hz1 : z.cells.size = 1)
    (v : Value) (l : List Value) (n : Nat) (hn : l.length = n) (hs : a.eval s = v) (hown : OwnV E base w v l) (ad : Option Addr) (m c : Nat) (l2 : List Value) (hx : a.eval x = .slice ad m c) (hb : RowIn w ad m c l2) (hone : ∀ u ∈ l2, u.oneCell' = true)
    (hlen : (n + m) * by_ ≤ 140737488355328) (hlen2 : n + m ≤ 140737488355328) (hbase : base ≤ w.heap.size)
    (h : ∀ a' c' w', OwnV E base w' (.slice a' (n + m) c') (l ++ l2) → w.grownBy w' v.ownBlock → Nxt v.ownBlock w.heap.size (Value.ownBlock (.slice a' (n + m) c')) → K (a.put o.dst (.slice a' (n + m) c')) w') :
    if Region.wanted o (yielded ops a.tmps) = true then Oper.wp P o a w K Q else F := by
  subst hn
  have hw : Region.wanted o (yielded ops a.tmps) = true := by simp [Region.wanted, hgd]
  rw [if_pos hw]
  exact wp_append_row s x t ho base E z by_ ht hi hz1 v l hs hown ad m c l2 hx hb hone hlen hlen2 hbase fun v' w' h1 h2 h3 => by
    obtain ⟨a', c', rfl, _⟩ := h1.row
    rw [List.length_append, hb.len_eq] at *
    exact h a' c' w' h1 h2 h3

section
variable {B x : Nat} {w w1 : World} {s : M} {d : Ad}
theorem At.feds (h : At B w x s d) {w' : World} {bs : List Bool} {p : Nat} {e : Bool} (hd : Done B d.f d.F w bs p e w') :
    ∃ c F, At B w' x { s with bits := bs, pushed := p, ended := e } { d with c := c, F := F } ∧ Mv d.c c w w' := by
  obtain ⟨F', h1, h2, h3⟩ := hd
  have hB := h.rs.lt
  have t : Turn 2 d.c (recol w.heap.size d.c 2) w w' := ⟨h2.mono (fun k _ hk => h.rs.feed.2 k hk), fun k hk => recol_old d.c hk⟩
  refine ⟨recol w.heap.size d.c 2, F', ⟨h.blk.same (t.only.block x h.lt (by rw [h.rs.cx]; decide)), h.rs.base, (recol_old d.c h.lt).trans h.rs.cx, low_recol h.rs.low hB, ⟨h1, fun k hk => ?_⟩, h.rs.win.turn t (by decide), h.rs.out.turn t (by decide), h.rs.lens.turn t (by decide), h.rs.t1.turn t (by decide), h.rs.t2.turn t (by decide), h.rs.t3.turn t (by decide), h.rs.t4.turn t (by decide), h.rs.t5.turn t (by decide)⟩, t.mv (by decide)⟩
  by_cases hk2 : k < w.heap.size
  · rcases h3 k hk with hF | hF
    · exact (recol_old d.c hk2).trans (h.rs.feed.2 k hF)
    · omega
  · exact recol_new d.c (by omega)
theorem skip_keep (n : Nat) (h : Hid (At B w x s d)) (hn : n ≤ s.bits.length) (hb : s.bits.length ≤ 1000000000) :
    Calls Tryz.prog 100 #[.pointer (some ⟨d.f, 0, none⟩), .int .i64 (n : Int)] w fun e w' => e = .returned (.int .i64 0) ∧ ∃ c F, Hid (At B w' x { s with bits := s.bits.drop n } { d with c := c, F := F }) ∧ Hid (Mv d.c c w w') := by
  refine (skip_any (n : Int) _ _ _ _ _ _ w h.out.rs.feed.1 (by omega)).mono ?_
  rintro e w' ⟨rfl, hd⟩
  have e1 : skipCode s.bits (n : Int) = 0 := by unfold skipCode; rw [if_neg (by omega), if_neg (by omega)]
  have e2 : skipBits s.bits (n : Int) = s.bits.drop n := by unfold skipBits; rw [if_neg (by omega), if_neg (by omega), Int.toNat_natCast]
  rw [e2] at hd
  obtain ⟨c, F, h1, h2⟩ := h.out.feds hd
  exact ⟨by rw [e1], c, F, Lib.hid h1, Lib.hid h2⟩
/-- A number of n bits is read; where the rows lie stays. -/
theorem number_keep (n : Nat) (h : Hid (At B w x s d)) (hn : n ≤ 32) (hb : s.bits.length ≤ 1000000000) :
    Calls Tryz.prog 86 #[.pointer (some ⟨x, 0, none⟩), .int .i64 (n : Int)] w fun e w' =>
      (s.bits.length < n ∧ Thrown (lack s) e ∧ ∃ j, w' = w.drewN j) ∨ (n ≤ s.bits.length ∧ e = .returned (.int .i64 (num (s.bits.take n) : Int)) ∧ ∃ c F, Hid (At B w' x { s with bits := s.bits.drop n } { d with c := c, F := F }) ∧ Hid (Mv d.c c w w')) := by
  go_enter Tryz.func86, Tryz.ntmps86
  go_wp2_with fail
  refine (behind_any 0 n h (by omega) hb).mono ?_
  rw [List.drop_zero, Nat.zero_add]
  rintro e w' ⟨h1, j, rfl⟩
  rcases h1 with ⟨h1, rfl⟩ | ⟨h1, rfl⟩
  · go_wp2_with fail
    exact ⟨rfl, .inl ⟨h1, rfl, _, rfl⟩⟩
  · have HX := Lib.hid (h.out.drewN j)
    have h2' : (w.drewN j).cell? ⟨x, 2, none⟩ = some (.pointer (some ⟨d.f, 0, none⟩)) := HX.out.blk.cell 2
    go_wp2_with fail
    refine (skip_keep n HX h1 hb).mono ?_
    rintro e w2 ⟨rfl, c, F, H1, H2⟩
    go_wp2_with fail
    go_ret
    exact .inr ⟨h1, rfl, c, F, H1, Lib.hid ((Mv.of_below (quiet_below w j) d.c).trans H2.out)⟩

theorem number_short (n : Nat) (h : Hid (At B w x s d)) (hn : n ≤ 32) (hb : s.bits.length ≤ 1000000000) (hs : s.bits.length < n) :
    Calls Tryz.prog 86 #[.pointer (some ⟨x, 0, none⟩), .int .i64 (n : Int)] w fun e w' => Thrown (lack s) e ∧ ∃ j, w' = w.drewN j := by
  refine (number_keep n h hn hb).mono ?_
  rintro e w' (⟨_, h1, h2⟩ | ⟨h1, _⟩)
  · exact ⟨h1, h2⟩
  · omega
theorem number_long (n : Nat) (h : Hid (At B w x s d)) (hn : n ≤ 32) (hb : s.bits.length ≤ 1000000000) (hs : n ≤ s.bits.length) :
    Calls Tryz.prog 86 #[.pointer (some ⟨x, 0, none⟩), .int .i64 (n : Int)] w fun e w' =>
      e = .returned (.int .i64 (num (s.bits.take n) : Int)) ∧ ∃ c F, Hid (At B w' x { s with bits := s.bits.drop n } { d with c := c, F := F }) ∧ Hid (Mv d.c c w w') := by
  refine (number_keep n h hn hb).mono ?_
  rintro e w' (⟨h1, _⟩ | ⟨_, h1, h2⟩)
  · omega
  · exact ⟨h1, h2⟩
theorem At.lens_blk (h : At B w x s d) (hg : w.grownBy w1 (Value.ownBlock (.slice d.la s.lens.length d.lc))) : Blk w1 x 99 (cells s d) :=
  h.blk.grown hg (fun e => by have := h.rs.lens.2 x e.symm; rw [h.rs.cx] at this; cases this)
/-- Lengths behind the lengths. -/
theorem At.app_lens (h : At B w x s d) {l2 : List Nat} {m c2 : Nat} {a2 : Option Addr} (hl : l2.length = m) (hown : OwnV 3 B w1 (.slice a2 (s.lens.length + m) c2) ((ints (s.lens ++ l2)).map iv))
    (hg : w.grownBy w1 (Value.ownBlock (.slice d.la s.lens.length d.lc))) {H : Nat} (hH : w.heap.size ≤ H) (hn : Nxt (Value.ownBlock (.slice d.la s.lens.length d.lc)) H (Value.ownBlock (.slice a2 (s.lens.length + m) c2))) :
    ∃ d', At B (w1.setCell ⟨x, 12, none⟩ (.slice a2 (s.lens.length + m) c2)) x { s with lens := s.lens ++ l2 } d' ∧ Mv d.c d'.c w (w1.setCell ⟨x, 12, none⟩ (.slice a2 (s.lens.length + m) c2)) := by
  have hB := h.rs.lt
  have hb : Blk w1 x 99 (cells s d) := h.blk.grown hg (fun e => by have := h.rs.lens.2 x e.symm; rw [h.rs.cx] at this; cases this)
  have t : Turn 5 d.c (recol w.heap.size d.c 5) w w1 := ⟨(Only.refl _ w).grown hg (fun k _ hk => h.rs.lens.2 k hk), fun k hk => recol_old d.c hk⟩
  have hx : (recol w.heap.size d.c 5) x = 1 := (recol_old d.c h.lt).trans h.rs.cx
  have t2 : Turn 1 (recol w.heap.size d.c 5) (recol w.heap.size d.c 5) w1 (w1.setCell ⟨x, 12, none⟩ (.slice a2 (s.lens.length + m) c2)) := ⟨(only_set w1 x 12 _).mono (fun k _ e => by subst e; exact hx), fun _ _ => rfl⟩
  have hlen : (s.lens ++ l2).length = s.lens.length + m := by rw [List.length_append, hl]
  refine ⟨{ d with c := recol w.heap.size d.c 5, la := a2, lc := c2 }, ⟨?_, h.rs.base, hx, low_recol h.rs.low hB, (h.rs.feed.turn t (by decide)).turn t2 (by decide), (h.rs.win.turn t (by decide)).turn t2 (by decide), (h.rs.out.turn t (by decide)).turn t2 (by decide), ?_, (h.rs.t1.turn t (by decide)).turn t2 (by decide), (h.rs.t2.turn t (by decide)).turn t2 (by decide), (h.rs.t3.turn t (by decide)).turn t2 (by decide), (h.rs.t4.turn t (by decide)).turn t2 (by decide), (h.rs.t5.turn t (by decide)).turn t2 (by decide)⟩, (t.mv (by decide)).trans (t2.mv (by decide))⟩
  · have e := hb.set_ 12 (.slice a2 (s.lens.length + m) c2)
    unfold cells
    simp only [hlen]
    exact e
  · have ho : PL B w1 (recol w.heap.size d.c 5) (.slice a2 (s.lens.length + m) c2) (s.lens ++ l2) := by
      refine ⟨hown, fun k hk => ?_⟩
      rcases hn with e | ⟨j, e, hj⟩
      · have hk2 : Value.ownBlock (.slice d.la s.lens.length d.lc) = some k := by rw [← e]; exact hk
        exact (recol_old d.c (h.rs.lens.1.lt k hk2)).trans (h.rs.lens.2 k hk2)
      · rw [e] at hk
        injection hk with hk
        exact recol_new d.c (by omega)
    have := ho.turn t2 (by decide)
    simp only [hlen]
    exact this
end

/-- How many lengths were read. -/
def lensAt (w : World) (x : Nat) : Nat := match w.cell? ⟨x, 12, none⟩ with | some (.slice _ n _) => n | _ => 0
theorem lensAt_of {B x : Nat} {w : World} {s : M} {d : Ad} (h : At B w x s d) : lensAt w x = s.lens.length := by
  have e : w.cell? ⟨x, 12, none⟩ = some (.slice d.la s.lens.length d.lc) := h.blk.cell 12
  unfold lensAt
  rw [e]
theorem ints_app (a b : List Nat) : (ints (a ++ b)).map iv = (ints a).map iv ++ (ints b).map iv := by simp [ints]

/-- The order of the code lengths lies in memory, below B. -/
structure Ordr (B : Nat) (w : World) : Prop where
  lt : 0 < B
  cell : ∀ i, i < 19 → w.cell? ⟨0, i, none⟩ = some (.int .i64 ((InfMath.order.getD i 0 : Nat) : Int))
theorem Ordr.mv {B : Nat} {w w' : World} {c c' : Nat → Nat} (h : Ordr B w) (hl : ∀ k, k < B → c k = 0) (hB : B ≤ w.heap.size) (m : Mv c c' w w') : Ordr B w' :=
  ⟨h.lt, fun i hi => by
    rw [m.only.cell (p := ⟨0, i, none⟩) (Nat.lt_of_lt_of_le h.lt hB) (fun e => e (hl _ h.lt))]
    exact h.cell i hi⟩
theorem order_lt : ∀ i, i < 19 → InfMath.order.getD i 0 < 19 := by
  have h : ∀ i : Fin 19, InfMath.order.getD i.val 0 < 19 := by decide
  exact fun i hi => h ⟨i, hi⟩
theorem ints_set (l : List Nat) (i v : Nat) : (ints (l.set i v)).map iv = ((ints l).map iv).set i (iv (v : Int)) := by simp [ints, List.map_set]
section
variable {B x : Nat} {w : World} {s : M} {d : Ad}
/-- The code for the lengths is stored, the lengths are let go. -/
theorem At.hcode (h : At B w x s d) {g : Nat} {l : List Nat} (t : TabIn w d.c g l 7) :
    At B ((w.setCell ⟨x, 13, none⟩ (.pointer (some ⟨g, 0, none⟩))).setCell ⟨x, 12, none⟩ (.slice none 0 0)) x { s with hcode := some l, lens := [] } { d with ht := some g, la := none, lc := 0 } ∧
      Mv d.c d.c w ((w.setCell ⟨x, 13, none⟩ (.pointer (some ⟨g, 0, none⟩))).setCell ⟨x, 12, none⟩ (.slice none 0 0)) := by
  have hx := only_two w x 13 12 (.pointer (some ⟨g, 0, none⟩)) (.slice none 0 0)
  have hk := (h.blk.set_ 13 (.pointer (some ⟨g, 0, none⟩))).set_ 12 (.slice none 0 0)
  refine ⟨?_, (turn_x h.rs.cx hx).mv (by decide)⟩
  obtain ⟨r1, r2, r3, r4, r5, r6, r7, r8, r9, r10, r11, r12⟩ := h.rs
  have hr : Rs B w x { s with hcode := some l, lens := [] } { d with ht := some g, la := none, lc := 0 } := ⟨r1, r2, r3, r4, r5, r6, ⟨OwnV.nil _ _ _, fun k hk => by cases hk⟩, .inl ⟨g, l, rfl, rfl, t⟩, r9, r10, r11, r12⟩
  exact ⟨hk, hr.only hx⟩
end
/-- The machine stands where lengths are read. -/
def Reads (B x : Nat) (s : M) (d : Ad) (w : World) (t : M) (d' : Ad) (w' : World) : Prop :=
  InfMath.Steps s t ∧ Ok t ∧ t.next = 7 ∧ At B w' x t d' ∧ Mv d.c d'.c w w'
section
variable {B x : Nat} {w : World} {s : M} {d : Ad}
set_option maxRecDepth 100000 in
set_option maxHeartbeats 4000000 in
theorem codelens_any (h : Hid (At B w x s d)) (hok : Ok s) (hn : s.next = 7) (hO : Ordr B w) :
    Calls Tryz.prog 82 #[.pointer (some ⟨x, 0, none⟩)] w (Goes B x s d w) := by
  go_enter Tryz.func82, Tryz.ntmps82
  go_wp2_with fail
  go_loopw [] (fun wr => ∃ t d', Hid (Reads B x s d w t d' wr)) (fun wr => 19 - lensAt wr x)
  case atStart => exact ⟨s, d, Lib.hid ⟨.refl _, hok, hn, h.out, Mv.refl _ _⟩⟩
  case round =>
    have HOrd : Hid (Ordr B w ∧ (∀ k, k < B → d.c k = 0) ∧ B ≤ w.heap.size) := Lib.hid ⟨hO, h.out.rs.low, h.out.rs.lt⟩
    clear h hok hn hO
    obtain ⟨t, d1, HR⟩ := hrel
    have hA := HR.out.2.2.2.1
    have h11 : wr.cell? ⟨x, 11, none⟩ = some (.int .i64 (t.hc : Int)) := hA.blk.cell 11
    have h12 : wr.cell? ⟨x, 12, none⟩ = some (.slice d1.la t.lens.length d1.lc) := hA.blk.cell 12
    have HS : Hid (InfMath.step t = InfMath.readCodeLengths t) := Lib.hid (by unfold InfMath.step; rw [HR.out.2.2.1]; rfl)
    have hhc := HR.out.2.1.hc HR.out.2.2.1
    have hb : t.bits.length ≤ 1000000000 := by have := HR.out.2.1.bnd; have := HR.out.2.1.psh; omega
    have HL := Lib.hid (lensAt_of hA)
    clear hA
    by_cases hlt : t.lens.length < t.hc
    · go_wp2_with fail
      go_quiet (fail)
      have HA1 : Hid (At B (wr.drewN nq) x t d1) := Lib.hid (HR.out.2.2.2.1.drewN _)
      have HM1 : Hid (Mv d.c d1.c w (wr.drewN nq)) := Lib.hid (HR.out.2.2.2.2.drewN _)
      clear h11 h12
      generalize wr.drewN nq = w1 at *
      go_upto_region 1 with (fail)
      have h12 : w1.drew.cell? ⟨x, 12, none⟩ = some (.slice d1.la t.lens.length d1.lc) := HA1.out.blk.cell 12
      have HD1 : Hid (At B w1.drew x t d1) := Lib.hid (HA1.out.drewN 1)
      by_cases hsh : t.bits.length < 3
      · have HQ := Lib.hid (number_short 3 HD1 (by omega) hb hsh)
        have HG : ∀ j, Goes B x s d w (.panicked [{ v := fault (lack t), recovered := false }]) (w1.drew.drewN j) := fun j => by
          refine ⟨d1, Lib.hid ((HM1.out.drewN 1).drewN j), .inr ⟨_, t, t, rfl, ⟨HR.out.1, ?_⟩, Lib.hid (HD1.out.drewN j), rfl, rfl, fun _ => rfl⟩⟩
          rw [HS.out]; unfold InfMath.readCodeLengths; rw [if_pos hlt, if_pos hsh]
        have HG' := Lib.hid HG
        clear HG
        refine wp_region_held (S := fun w' => w'.cell? ⟨x, 12, none⟩ = some (.slice d1.la t.lens.length d1.lc)) (by kernel_rfl) ?_
        change wpAnyH _ _ _ _ _ 14 _ _ w1.drew
        refine ord_take (i := 0) (d := some 17) (.pointer (some ⟨x, 0, none⟩)) rfl (by kernel_rfl) (by kernel_rfl) (by kernel_rfl) (by kernel_rfl) (fun _ _ _ h => h) (by kernel_rfl) (fun w _ => by kernel_rfl) h12 ?_
        refine ord_take (i := 1) (d := some 18) (.pointer (some ⟨x, 0, none⟩)) rfl (by kernel_rfl) (by kernel_rfl) (by kernel_rfl) (by kernel_rfl) (fun _ _ _ h => h) (by kernel_rfl) (fun w _ => by kernel_rfl) h12 ?_
        refine ord_take (i := 2) (d := some 19) (.pointer (some ⟨x, 0, none⟩)) rfl (by kernel_rfl) (by kernel_rfl) (by kernel_rfl) (by kernel_rfl) (fun _ _ _ h => h) (by kernel_rfl) (fun w _ => by kernel_rfl) h12 ?_
        refine ord_take (i := 3) (d := some 20) (.pointer (some ⟨x, 9, none⟩)) rfl (by kernel_rfl) (by kernel_rfl) (by kernel_rfl) (by kernel_rfl) (fun _ _ _ h => h) (by kernel_rfl) (fun w _ => by kernel_rfl) h12 ?_
        refine ord_take (i := 4) (d := some 21) (.pointer (some ⟨x, 12, none⟩)) rfl (by kernel_rfl) (by kernel_rfl) (by kernel_rfl) (by kernel_rfl) (fun _ _ _ h => h) (by kernel_rfl) (fun w _ => by kernel_rfl) h12 ?_
        refine ord_take (i := 5) (d := some 22) (.slice d1.la t.lens.length d1.lc) rfl (by kernel_rfl) (by kernel_rfl) (by kernel_rfl) (by kernel_rfl) (fun _ _ _ h => h) (by kernel_rfl) (fun w' hw' => by go_simp) h12 ?_
        refine ord_take (i := 6) (d := some 23) (.pointer (some ⟨x, 0, none⟩)) rfl (by kernel_rfl) (by kernel_rfl) (by kernel_rfl) (by kernel_rfl) (fun _ _ _ h => h) (by kernel_rfl) (fun w _ => by kernel_rfl) h12 ?_
        refine ord_alone (i := 7) rfl (by kernel_rfl) (by kernel_rfl) ?_
        refine wp_throw (by kernel_rfl) HQ.out ?_
        rintro e w2 ⟨rfl, j, rfl⟩
        exact ⟨_, rfl, And.intro rfl (HG'.out j)⟩
      · have HQ := Lib.hid (number_long 3 HD1 (by omega) hb (by omega))
        have hv7 := InfMath.num_take_lt t.bits 3
        obtain ⟨v, hv⟩ : ∃ v, v = num (t.bits.take 3) := ⟨_, rfl⟩
        have HV := Lib.hid hv
        rw [← hv] at HQ
        clear hv hv7
        go_region_law (first
          | (refine step_append_row (by rfl) _ _ _ (by rfl) B 3 (.int .i64 0) 8 Tryz.underlying92 SlcC.info_int rfl (.slice d1.la t.lens.length d1.lc) ((ints t.lens).map iv) t.lens.length (by simp [ints]) (by rfl) HX.out.rs.lens.1 _ 1 1 [iv (v : Int)] (by rfl) HY.out (by simp [iv]; rfl) (by omega) (by omega) hBX ?_; intro a3 c3 w3 hown hgrow hnext; have hb3 := HX.out.lens_blk hgrow; have h12c : w3.cell? ⟨x, 12, none⟩ = some (.slice d1.la t.lens.length d1.lc) := hb3.cell 12; have f12c := hb3.frozen 12)
          | (go_simp; go_at_call 86; refine HQ.out.mono ?_; rintro e w2 ⟨rfl, c2, F2, H2, M2⟩; have HX := Lib.hid (H2.out.later ((Below.refl w2.heap.size w2).alloc (Nat.le_refl _) (.cells #[iv (v : Int)] 3))); have HY := Lib.hid (one_row w2 (v : Int)); have hBX := HX.out.rs.lt; have h12b : w2.cell? ⟨x, 12, none⟩ = some (.slice d1.la t.lens.length d1.lc) := H2.out.blk.cell 12; have h12e : (w2.alloc (.cells #[.int .i64 (v : Int)] 3)).cell? ⟨x, 12, none⟩ = some (.slice d1.la t.lens.length d1.lc) := HX.out.blk.cell 12))
        all_goals
          obtain ⟨d4, hA4, hM4⟩ := HX.out.app_lens (l2 := [v]) (m := 1) rfl (by rw [ints_app]; exact hown) hgrow (by simp) hnext
          have hM5 : Mv d.c d4.c w (w3.setCell ⟨x, 12, none⟩ (.slice a3 (t.lens.length + 1) c3)) := (HM1.out.drewN 1).trans (M2.out.trans ((Mv.of_below ((Below.refl w2.heap.size w2).alloc (Nat.le_refl _) _) c2).trans hM4))
          have hst : InfMath.step t = .more { t with bits := t.bits.drop 3, lens := t.lens ++ [v] } := by
            rw [HS.out]; unfold InfMath.readCodeLengths; rw [if_pos hlt, if_neg hsh, HV.out]
          have hRR : Reads B x s d w { t with bits := t.bits.drop 3, lens := t.lens ++ [v] } d4 (w3.setCell ⟨x, 12, none⟩ (.slice a3 (t.lens.length + 1) c3)) := ⟨HR.out.1.snoc hst, HR.out.2.1.step hst, HR.out.2.2.1, hA4, hM5⟩
          have hme : lensAt (w3.setCell ⟨x, 12, none⟩ (.slice a3 (t.lens.length + 1) c3)) x = t.lens.length + 1 := by rw [lensAt_of hA4]; simp
          have HME := Lib.hid hme
          have HRR := Lib.hid hRR
          clear hme hRR hst hM5 hA4 hM4
          go_wp2_with fail
          go_roundw
          case rel => exact ⟨_, d4, HRR⟩
          case measure => rw [HME.out, HL.out]; omega
    · have hle := HR.out.2.1.l7 HR.out.2.2.1
      have hd0 : decide ((t.lens.length : Int) < (t.hc : Int)) = false := by simp; omega
      have HLL := Lib.hid hle
      have HHC := Lib.hid hhc
      go_wp2_with fail
      go_quiet (fail)
      have HA1 : Hid (At B (wr.drewN nq) x t d1) := Lib.hid (HR.out.2.2.2.1.drewN _)
      have HM1 : Hid (Mv d.c d1.c w (wr.drewN nq)) := Lib.hid (HR.out.2.2.2.2.drewN _)
      clear h11 h12 hle hhc
      generalize wr.drewN nq = wq at *
      obtain ⟨N, hN⟩ : ∃ N, N = t.lens.length := ⟨_, rfl⟩
      have HN : Hid (N = t.lens.length ∧ N = t.hc ∧ N ≤ 19) := Lib.hid ⟨hN, by have := HLL.out; omega, by have := HLL.out; have := HHC.out; omega⟩
      have hN19 := HN.out.2.2
      have h12 : wq.cell? ⟨x, 12, none⟩ = some (.slice d1.la N d1.lc) := by rw [hN]; exact HA1.out.blk.cell 12
      have HRow : Hid (RowIn wq d1.la N d1.lc ((ints t.lens).map iv)) := Lib.hid (by rw [hN]; exact HA1.out.rs.lens.1.rowIn (by simp [ints]))
      have HOq := Lib.hid (HOrd.out.1.mv HOrd.out.2.1 HOrd.out.2.2 HM1.out)
      have HBq : Hid (B ≤ wq.heap.size) := Lib.hid HA1.out.rs.lt
      clear hN hlt hd0
      go_wp2_with (at_make; refine wpList_make_row _ rfl (.const (.int .i64 19)) (.const (.int .i64 19)) 92 rfl wq.heap.size 3 (.int .i64 0) 8 Tryz.underlying92 SlcC.info_int rfl .i64 .i64 19 rfl rfl (by omega) (by omega) (Nat.le_refl _) ?_)
      intro w3 hown hg
      have hb3 : Below wq.heap.size wq w3 := (Below.refl _ wq).grown hg (Nat.le_refl _) (fun k hk => by cases hk)
      have h123 : w3.cell? ⟨x, 12, none⟩ = some (.slice d1.la N d1.lc) := by rw [hb3.cell (p := ⟨x, 12, none⟩) HA1.out.lt]; exact h12
      obtain ⟨g3, hg3⟩ : ∃ g3, g3 = wq.heap.size := ⟨_, rfl⟩
      have HG3 : Hid (wq.heap.size ≤ g3) := Lib.hid (by omega)
      have HO3 : Hid (OwnV 3 wq.heap.size w3 (.slice (some ⟨g3, 0, none⟩) 19 19) ((ints (InfMath.scat t.lens 0)).map iv)) := Lib.hid (by rw [hg3]; simpa [InfMath.scat, ints, iv] using hown)
      have HB3 := Lib.hid hb3
      rw [← hg3]
      clear hown hg hb3 hg3 h12
      go_wp2_with fail
      clear h123
      go_loopw [3, 4, 37] (fun _ _ i wx => ∃ k : Nat, k ≤ N ∧ i = .int .i64 (k : Int) ∧ Hid (OwnV 3 wq.heap.size wx (.slice (some ⟨g3, 0, none⟩) 19 19) ((ints (InfMath.scat t.lens k)).map iv)) ∧ Hid (Below wq.heap.size wq wx)) (fun _ _ i _ => N - (intOf i).toNat)
      case atStart => exact ⟨0, Nat.zero_le _, rfl, HO3, HB3⟩
      case round =>
        clear HO3 HB3
        obtain ⟨k, hk, rfl, HO3, HB3⟩ := hrel
        by_cases hlt : k < N
        · obtain ⟨b, off, hla⟩ := HRow.out.some_ (by omega)
          have hkl : k < t.lens.length := by rw [← HN.out.1]; exact hlt
          obtain ⟨n, hn⟩ : ∃ n, n = t.lens.getD k 0 := ⟨_, rfl⟩
          obtain ⟨q, hq⟩ : ∃ q, q = InfMath.order.getD k 0 := ⟨_, rfl⟩
          have hq19 : q < 19 := by rw [hq]; exact order_lt k (by omega)
          have hrow : wr.cell? ⟨b, off + k, none⟩ = some (.int .i64 (n : Int)) := by
            have h1 := HRow.out
            rw [hla] at h1
            rw [HB3.out.cell (p := ⟨b, off + k, none⟩) (h1.lt (by omega)), h1.get k (by simp [ints]; exact hkl), hn]
            simp [ints, iv, List.getD_eq_getElem?_getD, List.getElem?_eq_getElem hkl]
          have hord : wr.cell? ⟨0, k, none⟩ = some (.int .i64 (q : Int)) := by
            rw [HB3.out.cell (p := ⟨0, k, none⟩) (Nat.lt_of_lt_of_le HOq.out.lt HBq.out), hq]
            exact HOq.out.cell k (by omega)
          have hl19 : ((ints (InfMath.scat t.lens k)).map iv).length = 19 := by simp [ints, InfMath.scat_len]
          obtain ⟨cv, hcell⟩ : ∃ cv, wr.cell? ⟨g3, q, none⟩ = some cv := ⟨_, HO3.out.cell hl19 q (by rw [hl19]; exact hq19)⟩
          have hfree := HO3.out.free hl19 q
          have HO4 : Hid (OwnV 3 wq.heap.size (wr.setCell ⟨g3, q, none⟩ (.int .i64 (n : Int))) (.slice (some ⟨g3, 0, none⟩) 19 19) ((ints (InfMath.scat t.lens (k + 1))).map iv)) := Lib.hid (by
            rw [InfMath.scat, ints_set, ← hn, ← hq]
            exact HO3.out.store hl19 q (iv (n : Int)))
          have HB4 := Lib.hid (HB3.out.setCell (p := ⟨g3, q, none⟩) HG3.out (.int .i64 (n : Int)))
          rw [hla]
          clear hn hq hla hl19 HO3 HB3
          go_wp2_with fail
          go_roundw
          case rel => exact ⟨k + 1, by omega, by go_num, HO4, HB4⟩
          case measure => simp [intOf]; omega
        · obtain rfl : k = N := by omega
          obtain ⟨L, hLq⟩ : ∃ L, L = InfMath.scat t.lens t.lens.length := ⟨_, rfl⟩
          have HLq := Lib.hid hLq
          have hLL : L.length = 19 := by rw [hLq]; exact InfMath.scat_len _ _
          have hLa : ∀ x ∈ L, x ≤ 7 := by rw [hLq]; exact InfMath.scat_all _ 7 HLL.out.2 _
          have HRL : Hid (RowIn wr (some ⟨g3, 0, none⟩) 19 19 ((ints L).map iv)) := Lib.hid (by
            have h1 := HO3.out
            rw [HN.out.1, ← hLq] at h1
            exact h1.rowIn (by simp [ints, hLL]))
          have HGd : Hid (CanC.Good (ints L)) := Lib.hid (ints_good (by omega) (fun x hx => by have := hLa x hx; omega))
          have HK := Lib.hid (kind_good HRL.out HGd.out)
          rw [nat_ints, kind_kd] at HK
          have HLA := Lib.hid hLa
          have HL19 := Lib.hid hLL
          obtain ⟨K, hK⟩ : ∃ K, K = InfMath.kd L := ⟨_, rfl⟩
          rw [← hK] at HK
          have HKq := Lib.hid hK
          clear hLq hLL hLa hK
          go_wp2_with fail
          refine HK.out.mono ?_
          rintro e w5 ⟨rfl, hb5⟩
          have hbq : Below wq.heap.size wq w5 := HB3.out.trans (hb5.mono HB3.out.size)
          obtain ⟨hA5, hM5⟩ := HA1.out.color hbq 0
          obtain ⟨d5, hd5⟩ : ∃ d5, d5 = { d1 with c := recol wq.heap.size d1.c 0 } := ⟨_, rfl⟩
          have HA5 : Hid (At B w5 x t d5) := Lib.hid (by rw [hd5]; exact hA5)
          have HM5 : Hid (Mv d.c d5.c w w5) := Lib.hid (by rw [hd5]; exact HM1.out.trans hM5)
          have HRL5 : Hid (RowIn w5 (some ⟨g3, 0, none⟩) L.length 19 ((ints L).map iv)) := Lib.hid (by rw [HL19.out]; exact HRL.out.below (Nat.le_refl _) hb5)
          have HStep : Hid (InfMath.step t = if K ≠ 1 then .halt 2 else .more { t with hcode := some L, lens := [], next := 8 }) := Lib.hid (by
            rw [HS.out]
            unfold InfMath.readCodeLengths
            rw [if_neg (by have := HN.out; omega), ← HLq.out, ← HKq.out])
          clear hb5 hbq hA5 hM5 hd5 HRL HK HO3 HB3
          by_cases hK1 : K = 1
          · have hkr := InfMath.kd_kr (ls := L) (k := 1) (by rw [← HKq.out]; exact hK1) (by decide)
            subst hK1
            have HQ := Lib.hid (made_any L 7 (some ⟨g3, 0, none⟩) 19 w5 HRL5.out ⟨by rw [HL19.out]; omega, fun x hx => by have := HLA.out x hx; omega, hkr⟩ (by omega) (by omega))
            rw [HL19.out] at HQ
            clear hkr
            go_wp2_with fail
            refine HQ.out.mono ?_
            rintro e w6 ⟨g, rfl, ht, hb⟩
            obtain ⟨hA6, hM6⟩ := HA5.out.color hb 6
            obtain ⟨d6, hd6⟩ : ∃ d6, d6 = { d5 with c := recol w5.heap.size d5.c 6 } := ⟨_, rfl⟩
            rw [← hd6] at hA6
            have hT6 : TabIn w6 d6.c g L 7 := by rw [hd6]; exact isTab_in d5.c ht
            have h13 : w6.cell? ⟨x, 13, none⟩ = some (ptr d6.ht) := hA6.blk.cell 13
            have h12 : w6.cell? ⟨x, 12, none⟩ = some (.slice d6.la t.lens.length d6.lc) := hA6.blk.cell 12
            have h6 : w6.cell? ⟨x, 6, none⟩ = some (.int .i64 (t.next : Int)) := hA6.blk.cell 6
            have f13 := hA6.blk.frozen 13
            have f12 := hA6.blk.frozen 12
            have f6 := hA6.blk.frozen 6
            obtain ⟨hA7, hM7⟩ := hA6.hcode hT6
            have H8 := Lib.hid (hA7.set 6 (.int .i64 8) { t with hcode := some L, lens := [], next := 8 } rfl ⟨rfl, rfl, rfl, rfl, rfl, rfl, rfl, rfl, rfl, rfl, rfl⟩)
            have M8 := Lib.hid ((show Mv d.c d6.c w w6 by rw [hd6]; exact HM5.out.trans hM6).trans (hM7.trans (hA7.set_mv 6 (.int .i64 8))))
            clear ht hb hA6 hM6 hd6 hT6 hA7 hM7 HQ
            go_wp2_with fail
            go_end0
            refine ⟨{ d6 with ht := some g, la := none, lc := 0 }, M8, .inl ⟨rfl, _, steps1_of HR.out.1 ?_, (fun h => by simp at h), H8⟩⟩
            rw [HStep.out, if_neg (by decide)]
          · have hne : ((K : Int) != 1) = true := by simp; omega
            go_wp2_with fail
            refine (fail_any 2 w5).mono ?_
            rintro e w' ⟨rfl, rfl⟩
            go_wp2_with fail
            refine ⟨rfl, d5, HM5, .inr ⟨2, t, t, rfl, ⟨HR.out.1, ?_⟩, HA5, rfl, rfl, fun h => by simp at h⟩⟩
            rw [HStep.out, if_pos hK1]
end
end Go.Proofs.YtdbcendnibgcaaaGreatDoor.InfC
end

section
/-
  usable, previous.
-/
namespace Go.Proofs.YtdbcendnibgcaaaGreatDoor.InfC
open Go.RowKit Go.My BitMath CanMath TabMath WinMath FeedC TabC CanC
open WinC (Wn)
open InfMath (M Ok CodeOk mu lack fixL fixD)

theorem kd_le (l : List Nat) : InfMath.kd l ≤ 4 := by
  unfold InfMath.kd
  repeat' split
  all_goals omega
set_option maxHeartbeats 1000000 in
theorem usable_any (l : List Nat) (a : Option Addr) (cap : Nat) (w : World) (h : RowIn w a l.length cap ((ints l).map iv)) (h1 : l.length ≤ 65536) (h2 : ∀ x ∈ l, x ≤ 15) :
    Calls Tryz.prog 98 #[.slice a l.length cap] w fun e w' => e = .returned (.bool (InfMath.usable l)) ∧ Below w.heap.size w w' := by
  have HK := Lib.hid (kind_good h (ints_good h1 h2))
  rw [nat_ints, kind_kd] at HK
  have hk4 := kd_le l
  have HU : Hid (InfMath.usable l = (InfMath.kd l == 1 || InfMath.kd l == 2)) := Lib.hid rfl
  generalize InfMath.kd l = K at *
  generalize InfMath.usable l = U at *
  clear h h1 h2
  rcases (by omega : K = 0 ∨ K = 1 ∨ K = 2 ∨ K = 3 ∨ K = 4) with rfl | rfl | rfl | rfl | rfl
  all_goals
    go_enter Tryz.func98, Tryz.ntmps98
    go_wp2_with fail
    refine HK.out.mono ?_
    rintro e w' ⟨rfl, hb⟩
    go_wp2_with fail
    go_ret
    exact ⟨by rw [HU.out]; rfl, hb⟩

section
variable {B x : Nat} {w : World} {s : M} {d : Ad}
set_option maxHeartbeats 1000000 in
theorem prev_any (h : Hid (At B w x s d)) (hl : s.lens.length ≤ 1000) :
    Calls Tryz.prog 116 #[.pointer (some ⟨x, 0, none⟩)] w fun e w' => (s.lens = [] ∧ Thrown 2 e ∨ s.lens ≠ [] ∧ e = .returned (.int .i64 ((s.lens.getLastD 0 : Nat) : Int))) ∧ ∃ n, w' = w.drewN n := by
  have h12 : w.cell? ⟨x, 12, none⟩ = some (.slice d.la s.lens.length d.lc) := h.out.blk.cell 12
  by_cases h0 : s.lens = []
  · rw [h0] at h12
    simp only [List.length_nil] at h12
    have H0 := Lib.hid h0
    clear h0
    go_enter Tryz.func116, Tryz.ntmps116
    go_wp2_with fail
    refine (fail_any 2 w).mono ?_
    rintro e w' ⟨rfl, rfl⟩
    go_wp2_with fail
    exact ⟨rfl, .inl ⟨H0.out, rfl⟩, 0, rfl⟩
  · have hpos : 0 < s.lens.length := List.length_pos_iff.2 h0
    have hrow := h.out.rs.lens.1.rowIn (by simp [ints])
    obtain ⟨b, off, hla⟩ := hrow.some_ hpos
    rw [hla] at hrow h12
    have hc : w.cell? ⟨b, off + (s.lens.length - 1), none⟩ = some (.int .i64 ((s.lens.getLastD 0 : Nat) : Int)) := by
      rw [hrow.get (s.lens.length - 1) (by simp [ints]; omega)]
      simp only [ints, iv, List.getElem_map]
      rw [List.getLastD_eq_getLast?, List.getLast?_eq_some_getLast h0, Option.getD_some, List.getLast_eq_getElem]
    have hz : ((s.lens.length : Int) == 0) = false := by simp; exact h0
    have H0 := Lib.hid h0
    obtain ⟨N, hN⟩ : ∃ N, N = s.lens.length - 1 := ⟨_, rfl⟩
    rw [← hN] at hc
    have hNl : N < s.lens.length := by omega
    have w1 : IntKind.i64.wrap ((s.lens.length : Int) - 1) = (N : Int) := by rw [IntWalk.i64_in _ (by omega)]; omega
    obtain ⟨W, hW⟩ : ∃ W, W = s.lens.length := ⟨_, rfl⟩
    rw [← hW] at h12 hz w1 hNl hl
    generalize s.lens.getLastD 0 = V at *
    clear h0 hpos hrow hla hN hW
    go_enter Tryz.func116, Tryz.ntmps116
    go_wp2_with fail
    go_quiet (fail)
    go_wp2_with fail
    go_ret
    exact ⟨.inr ⟨H0.out, rfl⟩, _, rfl⟩

theorem extra_le (v : Nat) : InfMath.extra v ≤ 7 := by
  unfold InfMath.extra
  repeat' split
  all_goals omega
theorem least_le (v : Nat) : 1 ≤ InfMath.least v ∧ InfMath.least v ≤ 11 := by
  unfold InfMath.least
  repeat' split
  all_goals omega
/-- What a reading of one step leaves. -/
def Goes1 (B x : Nat) (s : M) (d : Ad) (w : World) (e : Ending) (w' : World) : Prop :=
  ∃ d', Hid (Mv d.c d'.c w w') ∧ ((e = .returned (.tuple #[]) ∧ ∃ t, InfMath.step s = .more t ∧ Hid (At B w' x t d')) ∨
    (∃ c t t', Thrown c e ∧ InfMath.Ends s t c ∧ Hid (At B w' x t' d') ∧ t'.out = t.out ∧ t'.total = t.total ∧ (c = 5 ∨ c = 0 → t' = t)))
theorem Goes1.more {w' : World} {t : M} {d' : Ad} (hs : InfMath.step s = .more t) (h : Hid (At B w' x t d')) (m : Hid (Mv d.c d'.c w w')) : Goes1 B x s d w (.returned (.tuple #[])) w' :=
  ⟨d', m, .inl ⟨rfl, t, hs, h⟩⟩
theorem Goes1.halt {w' : World} {d' : Ad} {e : Ending} {c : Nat} (hs : InfMath.step s = .halt c) (h : Hid (At B w' x s d')) (m : Hid (Mv d.c d'.c w w')) (he : Thrown c e) : Goes1 B x s d w e w' :=
  ⟨d', m, .inr ⟨c, s, s, he, ⟨.refl _, hs⟩, h, rfl, rfl, fun _ => rfl⟩⟩
theorem PT.get {w : World} {c : Nat → Nat} {g : Option Nat} {o : Option (List Nat)} {f : Nat} {l : List Nat} (h : PT w c g o f) (ho : o = some l) : ∃ q, g = some q ∧ TabIn w c q l f := by
  rcases h with ⟨q, l', h1, h2, h3⟩ | ⟨_, h2⟩
  · rw [ho] at h2
    injection h2 with h2
    subst h2
    exact ⟨q, h1, h3⟩
  · rw [ho] at h2; cases h2

set_option maxRecDepth 100000 in
set_option maxHeartbeats 4000000 in
theorem length_any (h : Hid (At B w x s d)) (hok : Ok s) (hn : s.next = 8) (hlt : s.lens.length < s.hl + s.hd) :
    Calls Tryz.prog 97 #[.pointer (some ⟨x, 0, none⟩)] w (Goes1 B x s d w) := by
  obtain ⟨hlb, hall, hs, hhs, hck, hs19⟩ := hok.l8 hn
  have hb : s.bits.length ≤ 1000000000 := by have := hok.bnd; have := hok.psh; omega
  have HS : Hid (InfMath.step s = InfMath.readLength s hs) := Lib.hid (by
    unfold InfMath.step; rw [hn]
    show InfMath.readLengths s = _
    unfold InfMath.readLengths
    rw [if_pos hlt, hhs]; rfl)
  have hhl := hok.hl (by omega) (by omega)
  have hhd := hok.hd (by omega) (by omega)
  obtain ⟨g, hg, ht⟩ := h.out.rs.t1.get hhs
  have h13 : w.cell? ⟨x, 13, none⟩ = some (.pointer (some ⟨g, 0, none⟩)) := by have := h.out.blk.cell 13; rw [this]; show some (ptr d.ht) = _; rw [hg]; rfl
  have HL := Lib.hid (And.intro hlb (And.intro hall (And.intro hhl hhd)))
  have HQ := Lib.hid (symbol_any g 7 hs h ht hck (by omega) (by omega) hb)
  clear ht hg hhs hlb hall hhl hhd
  go_enter Tryz.func97, Tryz.ntmps97
  go_wp2_with fail
  refine HQ.out.mono ?_
  rintro e w1 ⟨hsym, hb1⟩
  have H1 := Lib.hid (h.out.later hb1)
  have M1 := Lib.hid (Mv.of_below hb1 d.c)
  clear hb1 h13 HQ
  rcases hsym with ⟨hc0, rfl⟩ | ⟨hc0, rfl⟩
  · go_wp2_with fail
    refine ⟨rfl, Goes1.halt ?_ H1 M1 rfl⟩
    rw [HS.out]; unfold InfMath.readLength; rw [if_pos hc0]
  · obtain ⟨-, -, s1, s2, s3, s4⟩ := InfMath.sym_ok hc0
    have HS2 : Hid (InfMath.step s = InfMath.readLen s (InfMath.sym hs s.bits).1 (InfMath.sym hs s.bits).2.1) := Lib.hid (by
      rw [HS.out]; unfold InfMath.readLength; rw [if_neg (by omega)])
    rw [hs19] at s4
    obtain ⟨v, hv⟩ : ∃ v, v = (InfMath.sym hs s.bits).1 := ⟨_, rfl⟩
    obtain ⟨n, hnq⟩ : ∃ n, n = (InfMath.sym hs s.bits).2.1 := ⟨_, rfl⟩
    rw [← hv] at HS2 s4 ⊢
    rw [← hnq] at HS2 s1 s2 s3 ⊢
    clear hc0 hv hnq HS hck hs19
    go_upto_block 0 with (fail)
    go_cut [4, 5, 6] (fun a b c wx => (v = 16 → s.lens ≠ []) ∧ a = .int .i64 ((InfMath.length_ v s.lens : Nat) : Int) ∧ b = .int .i64 ((InfMath.least v : Nat) : Int) ∧ c = .int .i64 ((InfMath.extra v : Nat) : Int) ∧ ∃ j, wx = w1.drewN j)
    case first =>
      by_cases h16 : v = 16
      · subst h16
        go_wp2_with fail
        refine (prev_any H1 (by have := HL.out; omega)).mono ?_
        rintro e w2 ⟨hp, j, rfl⟩
        rcases hp with ⟨hp, rfl⟩ | ⟨hp, rfl⟩
        · go_wp2_with fail
          refine ⟨rfl, Goes1.halt ?_ (Lib.hid (H1.out.drewN j)) (Lib.hid (M1.out.drewN j)) rfl⟩
          rw [HS2.out]; unfold InfMath.readLen; rw [if_pos ⟨rfl, hp⟩]
        · go_wp2_with fail
          go_meet
          case rel => exact ⟨fun _ => hp, by simp [InfMath.length_], rfl, rfl, j, rfl⟩
      · have z16 : ((v : Int) == 16) = false := by simp; omega
        by_cases h17 : v = 17
        · subst h17
          go_wp2_with fail
          go_meet
          case rel => exact ⟨fun e => absurd e h16, rfl, rfl, rfl, 0, rfl⟩
        · have z17 : ((v : Int) == 17) = false := by simp; omega
          by_cases h18 : v = 18
          · subst h18
            go_wp2_with fail
            go_meet
            case rel => exact ⟨fun e => absurd e h16, rfl, rfl, rfl, 0, rfl⟩
          · have z18 : ((v : Int) == 18) = false := by simp; omega
            have e1 : InfMath.length_ v s.lens = v := by unfold InfMath.length_; rw [if_neg h16, if_neg h17, if_neg h18]
            have e2 : InfMath.least v = 1 := by unfold InfMath.least; rw [if_neg h16, if_neg h17, if_neg h18]
            have e3 : InfMath.extra v = 0 := by unfold InfMath.extra; rw [if_neg h16, if_neg h17, if_neg h18]
            have HE := Lib.hid (And.intro e1 (And.intro e2 e3))
            clear e1 e2 e3
            go_wp2_with fail
            go_meet
            case rel => exact ⟨fun e => absurd e h16, by rw [HE.out.1], by rw [HE.out.2.1]; rfl, by rw [HE.out.2.2]; rfl, 0, rfl⟩
    case rest =>
      obtain ⟨h16, rfl, rfl, rfl, j, hj⟩ := hcut
      have H2 : Hid (At B wc x s d) := Lib.hid (by rw [hj]; exact H1.out.drewN j)
      have M2 : Hid (Mv d.c d.c w wc) := Lib.hid (by rw [hj]; exact M1.out.drewN j)
      clear hj H1 M1 h
      have HRL : Hid (InfMath.step s = if s.bits.length < n + InfMath.extra v then .halt (lack s) else if s.hl + s.hd < s.lens.length + (InfMath.least v + num ((s.bits.drop n).take (InfMath.extra v))) then .halt 2
          else .more { s with bits := s.bits.drop (n + InfMath.extra v), lens := s.lens ++ List.replicate (InfMath.least v + num ((s.bits.drop n).take (InfMath.extra v))) (InfMath.length_ v s.lens) }) := Lib.hid (by
        rw [HS2.out]; unfold InfMath.readLen; rw [if_neg (fun hh => h16 hh.1 hh.2)])
      have hex := extra_le v
      have hle := least_le v
      obtain ⟨ex, hexq⟩ : ∃ ex, ex = InfMath.extra v := ⟨_, rfl⟩
      obtain ⟨tm, htm⟩ : ∃ tm, tm = InfMath.least v := ⟨_, rfl⟩
      obtain ⟨lv, hlv⟩ : ∃ lv, lv = InfMath.length_ v s.lens := ⟨_, rfl⟩
      rw [← hexq] at HRL hex ⊢
      rw [← htm] at HRL hle ⊢
      rw [← hlv] at HRL ⊢
      clear hexq htm hlv HS2 h16
      have hz := InfMath.num_take_lt (s.bits.drop n) ex
      have hp7 : 2 ^ ex ≤ 2 ^ 7 := Nat.pow_le_pow_right (by omega) hex
      have hz128 : num ((s.bits.drop n).take ex) < 128 := by omega
      have HBH := Lib.hid (behind_any n ex H2 (by omega) hb)
      obtain ⟨z, hzq⟩ : ∃ z, z = num ((s.bits.drop n).take ex) := ⟨_, rfl⟩
      rw [← hzq] at HRL hz128 HBH
      clear hz hp7 hzq
      go_wp2_with fail
      refine HBH.out.mono ?_
      rintro e w3 ⟨hbh, j3, hj3⟩
      have H3 : Hid (At B w3 x s d) := Lib.hid (by rw [hj3]; exact H2.out.drewN j3)
      have M3 : Hid (Mv d.c d.c w w3) := Lib.hid (by rw [hj3]; exact M2.out.drewN j3)
      clear hj3 H2 M2 HBH
      rcases hbh with ⟨hbl, rfl⟩ | ⟨hbl, rfl⟩
      · go_wp2_with fail
        refine ⟨rfl, Goes1.halt ?_ H3 M3 rfl⟩
        rw [HRL.out, if_pos hbl]
      · have w1' : IntKind.i64.wrap ((tm : Int) + (z : Int)) = ((tm + z : Nat) : Int) := by rw [IntWalk.i64_in _ (by omega)]; omega
        obtain ⟨T, hT⟩ : ∃ T, T = tm + z := ⟨_, rfl⟩
        rw [← hT] at HRL w1'
        have hTb : 1 ≤ T ∧ T ≤ 139 := by omega
        have h9 : w3.cell? ⟨x, 9, none⟩ = some (.int .i64 (s.hl : Int)) := H3.out.blk.cell 9
        have h10 : w3.cell? ⟨x, 10, none⟩ = some (.int .i64 (s.hd : Int)) := H3.out.blk.cell 10
        have h12 : w3.cell? ⟨x, 12, none⟩ = some (.slice d.la s.lens.length d.lc) := H3.out.blk.cell 12
        have hb' := HL.out
        have w2' : IntKind.i64.wrap ((s.lens.length : Int) + (T : Int)) = (s.lens.length : Int) + (T : Int) := IntWalk.i64_in _ (by omega)
        have w3' : IntKind.i64.wrap ((s.hl : Int) + (s.hd : Int)) = (s.hl : Int) + (s.hd : Int) := IntWalk.i64_in _ (by omega)
        have w4' : IntKind.i64.wrap ((n : Int) + (ex : Int)) = ((n + ex : Nat) : Int) := by rw [IntWalk.i64_in _ (by omega)]; omega
        clear hT hz128 hle hb'
        by_cases hov : s.hl + s.hd < s.lens.length + T
        · have hdd : decide ((s.lens.length : Int) + (T : Int) > (s.hl : Int) + (s.hd : Int)) = true := by simp; omega
          go_wp2_with fail
          go_quiet (fail)
          go_wp2_with fail
          refine (fail_any 2 _).mono ?_
          rintro e w' ⟨rfl, rfl⟩
          go_wp2_with fail
          refine ⟨rfl, Goes1.halt ?_ (Lib.hid (H3.out.drewN _)) (Lib.hid (M3.out.drewN _)) rfl⟩
          rw [HRL.out, if_neg (by omega), if_pos hov]
        · have hdd : decide ((s.lens.length : Int) + (T : Int) > (s.hl : Int) + (s.hd : Int)) = false := by simp; omega
          have h2 : w3.cell? ⟨x, 2, none⟩ = some (.pointer (some ⟨d.f, 0, none⟩)) := H3.out.blk.cell 2
          go_wp2_with fail
          go_quiet (fail)
          go_wp2_with fail
          refine (skip_keep (n + ex) (Lib.hid (H3.out.drewN _)) hbl hb).mono ?_
          rintro e w4 ⟨rfl, c4, F4, H4, M4⟩
          have M5 := Lib.hid ((M3.out.drewN _).trans M4.out)
          clear h9 h10 h12 h2 w1' w2' w3' w4' H3 M3 M4
          go_wp2_with fail
          have hlb2 : s.lens.length + T ≤ 1000 := by have := HL.out; omega
          have h12a : w4.drew.cell? ⟨x, 12, none⟩ = some (.slice d.la s.lens.length d.lc) := H4.out.blk.cell 12
          have HA4 : Hid (At B (w4.alloc (.cells #[iv (lv : Int)] 3)).drew x { s with bits := s.bits.drop (n + ex) } { d with c := c4, F := F4 }) := Lib.hid ((H4.out.later ((Below.refl _ _).alloc (Nat.le_refl _) _)).drewN 1)
          have h12b : (w4.alloc (.cells #[.int .i64 (lv : Int)] 3)).cell? ⟨x, 12, none⟩ = some (.slice d.la s.lens.length d.lc) := HA4.out.blk.cell 12
          have HQ := Lib.hid (SlcC.repeat_any (lv : Int) T hTb.1 (by omega) _ _ (w4.alloc (.cells #[iv (lv : Int)] 3)).drew ((one_row w4 (lv : Int)).below (Nat.le_refl _) ((Below.refl _ _).drew)))
          go_region_law (first
            | (refine step_append_row (by rfl) _ _ _ (by rfl) B 3 (.int .i64 0) 8 Tryz.underlying92 SlcC.info_int rfl (.slice d.la s.lens.length d.lc) ((ints s.lens).map iv) s.lens.length (by simp [ints]) (by rfl) HX.out.rs.lens.1 _ T T (List.replicate T (iv (lv : Int))) (by rfl) HR5.out (fun u hu => by rw [(List.mem_replicate.1 hu).2]; rfl) (by omega) (by omega) hBX ?_; intro a6 c6 w6 hown hgrow hnext; have hb6 := HX.out.lens_blk hgrow; have h12d : w6.cell? ⟨x, 12, none⟩ = some (.slice d.la s.lens.length d.lc) := hb6.cell 12; have f12d := hb6.frozen 12)
            | (go_simp; (go_at_call 107; refine HQ.out.mono ?_; rintro e w5 ⟨g5, rfl, hown5, hb5⟩; have HX := Lib.hid (HA4.out.later hb5); have HR5 := Lib.hid (hown5.rowIn (by simp)); have hBX := HX.out.rs.lt; have h12c : w5.cell? ⟨x, 12, none⟩ = some (.slice d.la s.lens.length d.lc) := HX.out.blk.cell 12)))
          all_goals
            have hM5 : Mv c4 c4 w4 w5 := Mv.of_below ((((Below.refl w4.heap.size w4).alloc (Nat.le_refl _) _).drew).trans (hb5.mono (by simp [World.drew]))) c4
            obtain ⟨d7, hA7, hM7⟩ := HX.out.app_lens (l2 := List.replicate T lv) (m := T) (by simp) (by rw [ints_app, ints_rep]; exact hown) hgrow (Nat.le_refl _) hnext
            have HA7 := Lib.hid hA7
            have HM7 := Lib.hid (M5.out.trans (hM5.trans hM7))
            clear hA7 hM7 hM5
            go_wp2_with fail
            go_end0
            refine Goes1.more ?_ HA7 HM7
            rw [HRL.out, if_neg (by omega), if_neg hov]
end
end Go.Proofs.YtdbcendnibgcaaaGreatDoor.InfC
end
