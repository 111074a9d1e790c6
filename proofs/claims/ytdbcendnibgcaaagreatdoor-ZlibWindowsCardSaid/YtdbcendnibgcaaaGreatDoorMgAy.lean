import Derived.Test.YtdbcendnibgcaaaGreatDoorMgAx
import Derived.Test.YtdbcendnibgcaaaGreatDoorMgAq
import Derived.Laws.CopyOwn
import Derived.Deep.RegionLaw
import Derived.Lib.AppendZerosOnto
import Derived.StillTailTactics

section
/-
  value: what a symbol and its further bits stand for.
-/
namespace Go.Proofs.YtdbcendnibgcaaaGreatDoor.InfC
open Go.RowKit Go.My BitMath CanMath TabMath WinMath FeedC TabC CanC
open WinC (Wn)
open InfMath (M Ok Steps Ends CodeOk mu lack fixL fixD)

/-- What value answers where by tells o: an error, or a number and so many bits fewer. -/
def Valued (B x : Nat) (s : M) (d : Ad) (n : Nat) (o : Option (Nat × Nat)) (w : World) (e : Ending) (w' : World) : Prop :=
  (o = none ∧ Thrown 2 e ∧ w' = w) ∨
  (∃ l y, o = some (l, y) ∧ (s.bits.length < n + y ∧ Thrown (lack s) e ∧ Below w.heap.size w w' ∨
    n + y ≤ s.bits.length ∧ e = .returned (.int .i64 ((l + num ((s.bits.drop n).take y) : Nat) : Int)) ∧ ∃ d', Hid (At B w' x { s with bits := s.bits.drop (n + y) } d') ∧ Hid (Mv d.c d'.c w w')))
section
variable {B x : Nat} {w : World} {s : M} {d : Ad}
set_option maxHeartbeats 1000000 in
theorem value_base (v n : Nat) (h : Hid (At B w x s d)) (hn : n ≤ 15) (hb : s.bits.length ≤ 1000000000) :
    Calls Tryz.prog 101 #[.pointer (some ⟨x, 0, none⟩), .int .i64 (v : Int), .int .i64 (n : Int), .func (.func 102) #[] #[]] w (Valued B x s d n (InfMath.base v s.wide) w) := by
  have h0 : w.cell? ⟨x, 0, none⟩ = some (.bool s.wide) := h.out.blk.cell 0
  have h2 : w.cell? ⟨x, 2, none⟩ = some (.pointer (some ⟨d.f, 0, none⟩)) := h.out.blk.cell 2
  have HV := Lib.hid (base_any (v : Int) s.wide w)
  rw [baseZ_nat] at HV
  obtain ⟨o, ho⟩ : ∃ o, o = InfMath.base v s.wide := ⟨_, rfl⟩
  have HO := Lib.hid ho
  rw [← ho] at HV ⊢
  clear ho
  go_enter Tryz.func101, Tryz.ntmps101
  go_wp2_with fail
  refine HV.out.mono ?_
  rintro e w' ⟨rfl, rfl⟩
  rcases o with _ | ⟨l, y⟩
  · dsimp only [ansB]
    go_wp2_with fail
    refine (fail_any 2 w).mono ?_
    rintro e w' ⟨rfl, rfl⟩
    go_wp2_with fail
    exact ⟨rfl, .inl ⟨rfl, rfl, rfl⟩⟩
  · obtain ⟨q1, q2, q3⟩ := InfMath.base_le HO.out.symm
    have hz := InfMath.num_take_lt (s.bits.drop n) y
    have w1 : IntKind.i64.wrap ((l : Int) + (num ((s.bits.drop n).take y) : Int)) = ((l + num ((s.bits.drop n).take y) : Nat) : Int) := by rw [IntWalk.i64_in _ (by omega)]; omega
    have w2 : IntKind.i64.wrap ((n : Int) + (y : Int)) = ((n + y : Nat) : Int) := by rw [IntWalk.i64_in _ (by omega)]; omega
    have HZ : Hid (l + num ((s.bits.drop n).take y) ≤ 65538) := Lib.hid (by omega)
    have HY : Hid (y ≤ 16) := Lib.hid (by omega)
    clear q1 q2 q3 hz HO
    dsimp only [ansB]
    go_wp2_with fail
    refine (behind_any n y h (by have := HY.out; omega) hb).mono ?_
    rintro e w' ⟨h1, j, rfl⟩
    rcases h1 with ⟨h1, rfl⟩ | ⟨h1, rfl⟩
    · go_wp2_with fail
      exact ⟨rfl, .inr ⟨l, y, rfl, .inl ⟨h1, rfl, quiet_below _ _⟩⟩⟩
    · have HX := Lib.hid (h.out.drewN j)
      have h2' : (w.drewN j).cell? ⟨x, 2, none⟩ = some (.pointer (some ⟨d.f, 0, none⟩)) := HX.out.blk.cell 2
      generalize hN : num ((s.bits.drop n).take y) = N at *
      have HN := Lib.hid hN
      have hNb := HZ.out
      have w3 : IntKind.i64.wrap ((l : Int) + (N : Int)) = (l : Int) + (N : Int) := IntWalk.i64_in _ (by omega)
      clear hN
      go_wp2_with fail
      refine (skip_at (n + y) HX h1 hb).mono ?_
      rintro e w2 ⟨rfl, d', H1, H2⟩
      go_wp2_with fail
      go_ret
      refine .inr ⟨l, y, rfl, .inr ⟨h1, ?_, d', H1, Lib.hid ((Mv.of_below (quiet_below w j) d.c).trans H2.out)⟩⟩
      rw [HN.out]
      exact ret_int (by simp)
set_option maxHeartbeats 1000000 in
theorem value_far (v n : Nat) (h : Hid (At B w x s d)) (hn : n ≤ 15) (hb : s.bits.length ≤ 1000000000) :
    Calls Tryz.prog 101 #[.pointer (some ⟨x, 0, none⟩), .int .i64 (v : Int), .int .i64 (n : Int), .func (.func 104) #[] #[]] w (Valued B x s d n (InfMath.far v s.wide) w) := by
  have h0 : w.cell? ⟨x, 0, none⟩ = some (.bool s.wide) := h.out.blk.cell 0
  have h2 : w.cell? ⟨x, 2, none⟩ = some (.pointer (some ⟨d.f, 0, none⟩)) := h.out.blk.cell 2
  have HV := Lib.hid (far_any (v : Int) s.wide w)
  rw [farZ_nat] at HV
  obtain ⟨o, ho⟩ : ∃ o, o = InfMath.far v s.wide := ⟨_, rfl⟩
  have HO := Lib.hid ho
  rw [← ho] at HV ⊢
  clear ho
  go_enter Tryz.func101, Tryz.ntmps101
  go_wp2_with fail
  refine HV.out.mono ?_
  rintro e w' ⟨rfl, rfl⟩
  rcases o with _ | ⟨l, y⟩
  · dsimp only [ansB]
    go_wp2_with fail
    refine (fail_any 2 w).mono ?_
    rintro e w' ⟨rfl, rfl⟩
    go_wp2_with fail
    exact ⟨rfl, .inl ⟨rfl, rfl, rfl⟩⟩
  · obtain ⟨q1, q2, q3⟩ := InfMath.far_le HO.out.symm
    have hz := InfMath.num_take_lt (s.bits.drop n) y
    have w1 : IntKind.i64.wrap ((l : Int) + (num ((s.bits.drop n).take y) : Int)) = ((l + num ((s.bits.drop n).take y) : Nat) : Int) := by rw [IntWalk.i64_in _ (by omega)]; omega
    have w2 : IntKind.i64.wrap ((n : Int) + (y : Int)) = ((n + y : Nat) : Int) := by rw [IntWalk.i64_in _ (by omega)]; omega
    have HZ : Hid (l + num ((s.bits.drop n).take y) ≤ 65538) := Lib.hid (by omega)
    have HY : Hid (y ≤ 16) := Lib.hid (by omega)
    clear q1 q2 q3 hz HO
    dsimp only [ansB]
    go_wp2_with fail
    refine (behind_any n y h (by have := HY.out; omega) hb).mono ?_
    rintro e w' ⟨h1, j, rfl⟩
    rcases h1 with ⟨h1, rfl⟩ | ⟨h1, rfl⟩
    · go_wp2_with fail
      exact ⟨rfl, .inr ⟨l, y, rfl, .inl ⟨h1, rfl, quiet_below _ _⟩⟩⟩
    · have HX := Lib.hid (h.out.drewN j)
      have h2' : (w.drewN j).cell? ⟨x, 2, none⟩ = some (.pointer (some ⟨d.f, 0, none⟩)) := HX.out.blk.cell 2
      generalize hN : num ((s.bits.drop n).take y) = N at *
      have HN := Lib.hid hN
      have hNb := HZ.out
      have w3 : IntKind.i64.wrap ((l : Int) + (N : Int)) = (l : Int) + (N : Int) := IntWalk.i64_in _ (by omega)
      clear hN
      go_wp2_with fail
      refine (skip_at (n + y) HX h1 hb).mono ?_
      rintro e w2 ⟨rfl, d', H1, H2⟩
      go_wp2_with fail
      go_ret
      refine .inr ⟨l, y, rfl, .inr ⟨h1, ?_, d', H1, Lib.hid ((Mv.of_below (quiet_below w j) d.c).trans H2.out)⟩⟩
      rw [HN.out]
      exact ret_int (by simp)
end
end Go.Proofs.YtdbcendnibgcaaaGreatDoor.InfC
end

section
/-
  put: a byte comes out.
-/
namespace Go.Proofs.YtdbcendnibgcaaaGreatDoor.InfC
open Go.RowKit Go.My BitMath CanMath TabMath WinMath FeedC TabC CanC
open WinC (Wn)
open InfMath (M Ok Steps Ends CodeOk mu lack fixL fixD)

section
variable {B x : Nat} {w w1 : World} {s : M} {d : Ad}
theorem At.own_col (h : At B w x s d) (k : Nat) (hk : Value.ownBlock (.slice d.oa s.out.length d.oc) = some k) : d.c k = 4 := h.rs.out.2 k hk
theorem At.app_blk (h : At B w x s d) (hg : w.grownBy w1 (Value.ownBlock (.slice d.oa s.out.length d.oc))) : Blk w1 x 99 (cells s d) :=
  h.blk.grown hg (fun e => by have := h.rs.out.2 x e.symm; rw [h.rs.cx] at this; cases this)
/-- Bytes behind the output. -/
theorem At.app (h : At B w x s d) {l2 : List UInt8} {m c2 : Nat} {a2 : Option Addr} (hl : l2.length = m) (hown : Own 5 B w1 (.slice a2 (s.out.length + m) c2) (s.out ++ l2))
    (hg : w.grownBy w1 (Value.ownBlock (.slice d.oa s.out.length d.oc))) {H : Nat} (hH : w.heap.size ≤ H) (hn : Nxt (Value.ownBlock (.slice d.oa s.out.length d.oc)) H (Value.ownBlock (.slice a2 (s.out.length + m) c2))) :
    ∃ d', At B (w1.setCell ⟨x, 4, none⟩ (.slice a2 (s.out.length + m) c2)) x { s with out := s.out ++ l2 } d' ∧ Mv d.c d'.c w (w1.setCell ⟨x, 4, none⟩ (.slice a2 (s.out.length + m) c2)) := by
  have hB := h.rs.lt
  have hb := h.app_blk hg
  have t : Turn 4 d.c (recol w.heap.size d.c 4) w w1 := ⟨(Only.refl _ w).grown hg (fun k _ hk => h.rs.out.2 k hk), fun k hk => recol_old d.c hk⟩
  have hx : (recol w.heap.size d.c 4) x = 1 := (recol_old d.c h.lt).trans h.rs.cx
  have t2 : Turn 1 (recol w.heap.size d.c 4) (recol w.heap.size d.c 4) w1 (w1.setCell ⟨x, 4, none⟩ (.slice a2 (s.out.length + m) c2)) := ⟨(only_set w1 x 4 _).mono (fun k _ e => by subst e; exact hx), fun _ _ => rfl⟩
  have hlen : (s.out ++ l2).length = s.out.length + m := by rw [List.length_append, hl]
  refine ⟨{ d with c := recol w.heap.size d.c 4, oa := a2, oc := c2 }, ⟨?_, h.rs.base, hx, low_recol h.rs.low hB, (h.rs.feed.turn t (by decide)).turn t2 (by decide), (h.rs.win.turn t (by decide)).turn t2 (by decide), ?_, (h.rs.lens.turn t (by decide)).turn t2 (by decide), (h.rs.t1.turn t (by decide)).turn t2 (by decide), (h.rs.t2.turn t (by decide)).turn t2 (by decide), (h.rs.t3.turn t (by decide)).turn t2 (by decide), (h.rs.t4.turn t (by decide)).turn t2 (by decide), (h.rs.t5.turn t (by decide)).turn t2 (by decide)⟩, (t.mv (by decide)).trans (t2.mv (by decide))⟩
  · have e := hb.set_ 4 (.slice a2 (s.out.length + m) c2)
    unfold cells
    simp only [hlen]
    exact e
  · have ho : PO B w1 (recol w.heap.size d.c 4) (.slice a2 (s.out.length + m) c2) (s.out ++ l2) := by
      refine ⟨hown, fun k hk => ?_⟩
      rcases hn with e | ⟨j, e, hj⟩
      · have hk2 : Value.ownBlock (.slice d.oa s.out.length d.oc) = some k := by rw [← e]; exact hk
        exact (recol_old d.c (World.ownsRow.lt h.rs.out.1 k hk2).2).trans (h.rs.out.2 k hk2)
      · rw [e] at hk
        injection hk with hk
        exact recol_new d.c (by omega)
    have := ho.turn t2 (by decide)
    simp only [hlen]
    exact this

set_option maxRecDepth 100000 in
set_option maxHeartbeats 2000000 in
theorem put_any (c : UInt8) (h : Hid (At B w x s d)) (ht : s.total ≤ 2000000000) (hh : s.hist.length ≤ 2000000000) (ho : s.out.length ≤ 2000000000) :
    Calls Tryz.prog 93 #[.pointer (some ⟨x, 0, none⟩), .int .u8 (c.toNat : Int)] w fun e w' => e = .returned (.tuple #[]) ∧ ∃ d', Hid (At B w' x (InfMath.put s c) d') ∧ Hid (Mv d.c d'.c w w') := by
  have h3 : w.cell? ⟨x, 3, none⟩ = some (.pointer (some ⟨d.g, 0, none⟩)) := h.out.blk.cell 3
  have w1 : IntKind.i64.wrap ((s.total : Int) + 1) = (s.total : Int) + 1 := IntWalk.i64_in _ (by omega)
  have HWin := Lib.hid h.out.rs.win.1
  go_enter Tryz.func93, Tryz.ntmps93
  go_wp2_with fail
  refine (WinC.put_any c _ _ _ _ _ w HWin.out (by omega)).mono ?_
  rintro e w1 ⟨rfl, hp⟩
  obtain ⟨d1, hA1, hM1, -, -⟩ := h.out.wind hp
  have HA1 := Lib.hid hA1
  have HM1 := Lib.hid hM1
  clear hA1 hM1 hp HWin h3
  have h4 : w1.cell? ⟨x, 4, none⟩ = some (.slice d1.oa s.out.length d1.oc) := HA1.out.blk.cell 4
  have HA2 : Hid (At B (w1.alloc (.cells #[.int .u8 (c.toNat : Int)] 5)) x { s with hist := s.hist ++ [c] } d1) := Lib.hid (HA1.out.later ((Below.refl _ _).alloc (Nat.le_refl _) _))
  have HB1 : Hid (Bytes (w1.alloc (.cells #[.int .u8 (c.toNat : Int)] 5)) (some ⟨w1.heap.size, 0, none⟩) 1 1 [c]) := Lib.hid (one_bytes 5 w1 c)
  have hB : B ≤ (w1.alloc (.cells #[.int .u8 (c.toNat : Int)] 5)).heap.size := HA2.out.rs.lt
  have hO : Own 5 B (w1.alloc (.cells #[.int .u8 (c.toNat : Int)] 5)) (.slice d1.oa s.out.length d1.oc) s.out := HA2.out.rs.out.1
  have HO := Lib.hid hO
  clear hO
  go_wp2_with (at_builtin; refine wpList_append_lie (by rfl) (.tmp 14) (.tmp 16) 22 (by rfl) B 5 Tryz.underlying22 WinC.info5 (.slice d1.oa s.out.length d1.oc) s.out (by rfl) HO.out (some ⟨w1.heap.size, 0, none⟩) 1 1 [c] (by rfl) HB1.out (by omega) hB ?_)
  intro a2 c2 w2 hown hgrow hnext
  have hb2 := HA2.out.app_blk hgrow
  have h42 : w2.cell? ⟨x, 4, none⟩ = some (.slice d1.oa s.out.length d1.oc) := hb2.cell 4
  have f42 := hb2.frozen 4
  obtain ⟨d3, hA3, hM3⟩ := HA2.out.app (m := 1) rfl hown hgrow (by rw [World.size_alloc]; exact Nat.le_refl _) hnext
  have HA3 := Lib.hid hA3
  have HM3 := Lib.hid (HM1.out.trans ((Mv.of_below ((Below.refl w1.heap.size w1).alloc (Nat.le_refl _) _) d1.c).trans hM3))
  clear hA3 hM3 hown hgrow hnext hb2 HA2 HO HB1 h4
  obtain ⟨w3, hw3⟩ : ∃ w3, w3 = w2.setCell ⟨x, 4, none⟩ (.slice a2 (s.out.length + 1) c2) := ⟨_, rfl⟩
  rw [← hw3] at HA3 HM3
  have h5 : w3.cell? ⟨x, 5, none⟩ = some (.int .i64 (s.total : Int)) := HA3.out.blk.cell 5
  have f5 := HA3.out.blk.frozen 5
  rw [hw3] at h5 f5
  have HA4 : Hid (At B (w3.setCell ⟨x, 5, none⟩ (.int .i64 ((s.total : Int) + 1))) x (InfMath.put s c) d3) := Lib.hid (HA3.out.set 5 _ _ rfl ⟨rfl, rfl, rfl, rfl, rfl, rfl, rfl, rfl, rfl, rfl, rfl⟩)
  have HM4 := Lib.hid (HM3.out.trans (HA3.out.set_mv 5 (.int .i64 ((s.total : Int) + 1))))
  rw [hw3] at HA4 HM4
  clear hw3 HA3 HM3
  go_wp2_with fail
  go_end0
  exact ⟨rfl, d3, HA4, HM4⟩
end
end Go.Proofs.YtdbcendnibgcaaaGreatDoor.InfC
end

section
/-
  Go's own slices: Repeat of one number; Mul.
-/
namespace Go.Proofs.YtdbcendnibgcaaaGreatDoor.SlcC
open Go.RowKit Go.My CanC

theorem info_int : (Tryz.prog.info? 3).map (fun i => (i.zero, i.size, i.bytes)) = some (some (.int .i64 0), 1, 8) := by kernel_rfl
theorem size_int : (Tryz.prog.info? 3).map (·.size) = some 1 := by kernel_rfl

set_option maxHeartbeats 1000000 in
theorem mul64_one (n : Nat) (hn : n < 2147483648) (w : World) :
    Calls Tryz.prog 131 #[.int .u64 1, .int .u64 (n : Int)] w fun e w' => e = .returned (.tuple #[.int .u64 0, .int .u64 (n : Int)]) ∧ w = w' := by
  have m1 : bits .and .u64 1 4294967295 = 1 := by decide
  have m0 : bits .and .u64 0 4294967295 = 0 := by decide
  have mn : bits .and .u64 (n : Int) 4294967295 = (n : Int) := by
    rw [show (4294967295 : Int) = ((4294967295 : Nat) : Int) from rfl, u64_and_nat _ _ (by omega) (by omega)]
    congr 1
    rw [show 4294967295 = 2 ^ 32 - 1 from rfl, Nat.and_two_pow_sub_one_eq_mod]
    omega
  have d1 : (n : Int) / 4294967296 = 0 := by omega
  have w1 : IntKind.u64.wrap (n : Int) = (n : Int) := IntWalk.u64_in _ (by omega)
  go_enter Tryz.func131, Tryz.ntmps131
  go_wp2_with fail
  go_ret2
  exact ⟨rfl, rfl⟩
set_option maxHeartbeats 1000000 in
theorem mul_one (n : Nat) (hn : n < 2147483648) (w : World) :
    Calls Tryz.prog 122 #[.int .u64 1, .int .u64 (n : Int)] w fun e w' => e = .returned (.tuple #[.int .u64 0, .int .u64 (n : Int)]) ∧ w = w' := by
  go_enter Tryz.func122, Tryz.ntmps122
  go_wp2_with fail
  refine (mul64_one n hn w).mono ?_
  rintro e w' ⟨rfl, rfl⟩
  go_wp2_with fail
  go_ret2
  exact ⟨rfl, rfl⟩

/-- n cells, m of them set. -/
def rep (v : Value) (m n : Nat) : List Value := List.replicate m v ++ List.replicate (n - m) (iv 0)
theorem rep_len (v : Value) (m n : Nat) (h : m ≤ n) : (rep v m n).length = n := by simp [rep]; omega
theorem rep_splice (v : Value) (m k n : Nat) (h : m + k ≤ n) : splice (rep v m n) m (List.replicate k v) = rep v (m + k) n := by
  unfold splice rep
  have e1 : (List.replicate m v ++ List.replicate (n - m) (iv 0)).take m = List.replicate m v := by
    rw [List.take_append_of_le_length (by simp), List.take_of_length_le (by simp)]
  have e2 : (List.replicate m v ++ List.replicate (n - m) (iv 0)).drop (m + k) = List.replicate (n - (m + k)) (iv 0) := by
    rw [List.drop_append, List.drop_of_length_le (by simp), List.nil_append, List.drop_replicate, List.length_replicate]
    congr 1; omega
  rw [e1, List.length_replicate, e2, ← List.append_assoc, List.replicate_append_replicate]
theorem own_block {B : Nat} {w : World} {g n : Nat} {vs : List Value} (h : OwnV 3 B w (.slice (some ⟨g, 0, none⟩) n n) vs) (hn : vs.length = n) : w.heap[g]? = some (.cells vs.toArray 3 (0, 0)) := by
  subst hn
  rcases h.2 with ⟨h1, _⟩ | ⟨g', cap, cur, h1, h2, h3, h4, h5, h6, h7⟩
  · cases h1
  · simp only [Value.slice.injEq, Option.some.injEq, Addr.mk.injEq, and_true, true_and] at h1
    obtain ⟨rfl, rfl⟩ := h1
    have e : cur = vs.toArray := by
      apply Array.ext'
      rw [List.take_of_length_le (by simp [h6])] at h7
      rw [h7]
    rw [← e]
    exact h3
theorem block_own {B : Nat} {w : World} {g n : Nat} {vs : List Value} (h : w.heap[g]? = some (.cells vs.toArray 3 (0, 0))) (hn : vs.length = n) (hB : B ≤ g) (hm : n ≤ 1000000) : OwnV 3 B w (.slice (some ⟨g, 0, none⟩) n n) vs := by
  subst hn
  refine ⟨by simp, .inr ⟨g, vs.length, vs.toArray, rfl, hB, h, Nat.le_refl _, by unfold maxLen; omega, by simp, by simp⟩⟩

set_option maxRecDepth 100000 in
set_option maxHeartbeats 4000000 in
/-- slices.Repeat of one number. -/
theorem repeat_any (z : Int) (n : Nat) (hn : 1 ≤ n) (hn2 : n ≤ 1000) (a : Option Addr) (c : Nat) (w : World) (h : RowIn w a 1 c [iv z]) :
    Calls Tryz.prog 107 #[.slice a 1 c, .int .i64 (n : Int)] w fun e w' => ∃ g, e = .returned (.slice (some ⟨g, 0, none⟩) n n) ∧ OwnV 3 w.heap.size w' (.slice (some ⟨g, 0, none⟩) n n) (List.replicate n (iv z)) ∧ Below w.heap.size w w' := by
  obtain ⟨b, off, rfl⟩ := h.some_ (by omega)
  have H := Lib.hid h
  have w1 : IntKind.u64.wrap (n : Int) = (n : Int) := IntWalk.u64_in _ (by omega)
  have w2 : IntKind.i64.wrap (n : Int) = (n : Int) := IntWalk.i64_in _ (by omega)
  go_enter Tryz.func107, Tryz.ntmps107
  go_wp2_with fail
  refine (mul_one n (by omega) w).mono ?_
  rintro e w' ⟨rfl, rfl⟩
  go_wp2_with (at_make; refine wpList_make_row _ rfl (.tmp 29) (.tmp 29) 92 rfl w.heap.size 3 (.int .i64 0) 8 Tryz.underlying92 info_int rfl .i64 .i64 n rfl rfl (by omega) (by omega) (Nat.le_refl _) ?_)
  intro w3 hown hg
  have hb3 : Below w.heap.size w w3 := (Below.refl _ w).grown hg (Nat.le_refl _) (fun k hk => by cases hk)
  have hblk := own_block hown (by simp)
  have hc0 : w3.cell? ⟨b, off + 0, none⟩ = some (iv z) := by rw [hb3.cell (p := ⟨b, off + 0, none⟩) (H.out.lt (by omega))]; exact H.out.get 0 (by simp)
  obtain ⟨g, hgq⟩ : ∃ g, g = w.heap.size := ⟨_, rfl⟩
  have HG : Hid (w.heap.size ≤ g) := Lib.hid (by omega)
  have HR0 : Hid (w3.heap[g]? = some (.cells (rep (iv z) 0 n).toArray 3 (0, 0))) := Lib.hid (by rw [hgq]; simpa [rep, iv] using hblk)
  have HB3 := Lib.hid hb3
  rw [← hgq]
  clear hown hg hb3 hblk hgq
  go_wp2_with (refine wpList_copy_splice rfl (.tmp 31) (.tmp 32) _ _ rfl 3 Tryz.underlying92 size_int _ _ _ _ _ _ rfl rfl g 0 _ _ HR0.out [iv z] (by show 1 = min 1 n; omega) (fun _ => ⟨rfl, _, rfl, fun j v hj => ?_⟩) (by rw [rep_len _ _ _ (by omega)]; simp; omega) (fun v hv => by simp at hv; rw [hv]; rfl) w.heap.size w HB3.out HG.out ?_)
  · obtain rfl : j = 0 := by have := (List.getElem?_eq_some_iff.1 hj).1; simpa using this
    simp at hj
    rw [addr_add, ← hj]
    exact hc0
  intro w4 hh hb4
  have HR1 : Hid (w4.heap[g]? = some (.cells (rep (iv z) 1 n).toArray 3 (0, 0))) := Lib.hid (by
    have := rep_splice (iv z) 0 1 n (by omega)
    rw [List.replicate_one, Nat.zero_add] at this
    rw [← this]; exact hh.out)
  have HB4 := Lib.hid hb4
  clear hh hb4 HR0 HB3 hc0 w1 w2
  go_wp2_with fail
  go_loopw [8] (fun x wr => ∃ m : Nat, 1 ≤ m ∧ m ≤ n ∧ x = .int .i64 (m : Int) ∧ Hid (wr.heap[g]? = some (.cells (rep (iv z) m n).toArray 3 (0, 0))) ∧ Hid (Below w.heap.size w wr)) (fun x _ => n - (intOf x).toNat)
  case atStart => exact ⟨1, Nat.le_refl _, hn, rfl, HR1, HB4⟩
  case round =>
    clear HR1 HB4
    obtain ⟨m, hm1, hmn, rfl, HR1, HB4⟩ := hrel
    by_cases hlt : m < n
    · obtain ⟨k, hk⟩ : ∃ k, k = min m (n - m) := ⟨_, rfl⟩
      have w1 : IntKind.i64.wrap ((m : Int) + (k : Int)) = ((m + k : Nat) : Int) := by rw [IntWalk.i64_in _ (by omega)]; omega
      have hg1 : wr.drew.heap[g]? = some (.cells (rep (iv z) m n).toArray 3 (0, 0)) := HR1.out
      have hb1 : Below w.heap.size w wr.drew := HB4.out.drew
      have hsrc : ∀ j v, (List.replicate k (iv z))[j]? = some v → wr.drew.cell? ((⟨g, 0, none⟩ : Addr).add j) = some v := fun j v hj => by
        have hjk := (List.getElem?_eq_some_iff.1 hj).1
        rw [List.length_replicate] at hjk
        rw [List.getElem?_replicate, if_pos hjk] at hj
        rw [addr_add, Nat.zero_add, cell_of_row _ _ _ _ _ _ hg1, ← hj]
        unfold rep
        rw [List.getElem?_toArray, List.getElem?_append_left (by rw [List.length_replicate]; omega), List.getElem?_replicate, if_pos (by omega)]
      have hne : ¬ n = m := by omega
      have hrun := run_copy_row (P := Tryz.prog) wr.drew 92 92 3 3 g m (n - m) (n - m) ⟨g, 0, none⟩ m n _ 3 (List.replicate k (iv z)) Tryz.underlying92 size_int hg1 (by rw [List.length_replicate]; exact hk) hsrc (by simp [rep_len _ _ _ hmn]; omega) (fun v hv => by rw [(List.mem_replicate.1 hv).2]; rfl)
      rw [List.length_replicate] at hrun
      obtain ⟨w5, hw5⟩ : ∃ w5, w5 = wr.drew.setRow g ((rep (iv z) m n).toArray.toList.take m ++ List.replicate k (iv z) ++ (rep (iv z) m n).toArray.toList.drop (m + k)).toArray := ⟨_, rfl⟩
      rw [← hw5] at hrun
      unfold goInt at hrun
      have hb5 : Below w.heap.size w w5 := by rw [hw5]; exact below_row hb1 HG.out _
      have hg5 : w5.heap[g]? = some (.cells (rep (iv z) (m + k) n).toArray 3 (0, 0)) := by
        have h1 := Blk.row (show Blk wr.drew g 3 (rep (iv z) m n).toArray from hg1) ((rep (iv z) m n).toArray.toList.take m ++ List.replicate k (iv z) ++ (rep (iv z) m n).toArray.toList.drop (m + k)).toArray
        rw [← hw5] at h1
        have h2 := rep_splice (iv z) m k n (by omega)
        unfold splice at h2
        rw [List.length_replicate, ← List.append_assoc] at h2
        rw [← h2]
        exact h1
      have hk1 : 1 ≤ k ∧ m + k ≤ n := by omega
      have HK := Lib.hid hk1
      have H5 := Lib.hid (And.intro hg5 hb5)
      clear hsrc hk hw5 hk1 hg5 hb5 HR1 HB4 hb1 hg1
      go_wp2_with fail
      go_region
      all_goals
        go_roundw
        case rel => exact ⟨_, _, _, _, _, _, _, _, _, _, _, _, _, _, ⟨m + k, by have := HK.out; omega, HK.out.2, rfl, Lib.hid H5.out.1, Lib.hid H5.out.2⟩, rfl⟩
        case measure => simp [intOf]; have := HK.out; omega
    · obtain rfl : m = n := by omega
      go_wp2_with fail
      go_ret
      refine ⟨g, rfl, ?_, HB4.out⟩
      refine block_own (vs := List.replicate m (iv z)) ?_ (by simp) HG.out (by omega)
      have := HR1.out
      simpa [rep] using this

set_option maxRecDepth 100000 in
set_option maxHeartbeats 2000000 in
/-- slices.Grow of no slice. -/
theorem grow_any (n : Nat) (hn : 1 ≤ n) (hn2 : n ≤ 100000) (w : World) :
    Calls Tryz.prog 121 #[.slice none 0 0, .int .i64 (n : Int)] w fun e w' => ∃ a c, e = .returned (.slice a 0 c) ∧ OwnV 3 w.heap.size w' (.slice a 0 c) [] ∧ Below w.heap.size w w' := by
  obtain ⟨i, hi, hz0, hsz, hz2⟩ := info_parts info_int
  have hrz : ∀ ty, (Builtin.append_ #[92, 3] ty #[.slice none 0 0, .int .i64 (n : Int)]).run Tryz.prog w =
      .ok (.slice (some ⟨w.heap.size, 0, none⟩) n (grownCap w n 0 3)) (w.drew.alloc (.cells (#[] ++ Builtin.zeroCells (Value.int .i64 0).cells n ++ Builtin.zeroCells (Value.int .i64 0).cells (grownCap w n 0 3 - n)) 3)) := fun ty => by
    have h := Lib.run_append_grow_zeros (P := Tryz.prog) w 92 3 ty 3 i (.int .i64 0) .i64 .i64 Tryz.underlying92 Tryz.underlying3 hi hz0 none 0 0 [] (run_firstCells_none w.drew i.size 0 0 0) n (by omega) (by omega) (by omega) (by omega) (by rw [hz2]; omega)
      (by rw [hz2, Nat.zero_add]; exact growslice_fits (by omega) (by omega))
    rw [Nat.zero_add] at h
    exact h
  have hG := grownCap_ge w n 0 3
  have hG2 := grownCap_le_maxLen w n 0 3 (by unfold maxLen; omega)
  obtain ⟨G, hGe⟩ : ∃ G, G = grownCap w n 0 3 := ⟨_, rfl⟩
  rw [← hGe] at hrz hG hG2
  have hG63 : G ≤ 9223372036854775807 := by unfold maxLen at hG2; omega
  have w1 : IntKind.i64.wrap (n : Int) = (n : Int) := IntWalk.i64_in _ (by omega)
  have hgt : (0 : Int) < (n : Int) := by omega
  have HZ := Lib.hid hrz
  have HG2 := Lib.hid hG2
  obtain ⟨C, hC⟩ : ∃ C, C = (#[] ++ Builtin.zeroCells (Value.int .i64 0).cells n ++ Builtin.zeroCells (Value.int .i64 0).cells (G - n)) := ⟨_, rfl⟩
  have hCs : C.size = G := by
    have e1 : (Value.int .i64 0).cells.size = 1 := rfl
    rw [hC, Array.size_append, Array.size_append, size_zeroCells, size_zeroCells, e1]
    simp
    omega
  rw [← hC] at HZ
  clear hrz hGe hG2 hC
  go_enter Tryz.func121, Tryz.ntmps121
  go_wp2_with (at_builtin; refine Lib.wpList_append_run _ rfl _ _ _ _ rfl _ _ rfl rfl _ _ (HZ.out _) ?_)
  all_goals
    go_ret
    refine ⟨_, _, rfl, ⟨by simp, .inr ⟨w.heap.size, G, C, rfl, Nat.le_refl _, heap_alloc_new w _, by simp, HG2.out, by rw [hCs]; simp, by simp⟩⟩, ((Below.refl w.heap.size w).alloc (Nat.le_refl _) _).drew⟩

/-- K rows of numbers. -/
structure Rws (w : World) (a : Option Addr) (K c : Nat) (f : Nat → Value) (L : Nat → List Value) : Prop where
  tab : RowIn w a K c ((List.range K).map f)
  row : ∀ i, i < K → ∃ a' c', f i = .slice a' (L i).length c' ∧ RowIn w a' (L i).length c' (L i)
  one : ∀ i, i < K → ∀ u ∈ L i, u.oneCell' = true
def cat (L : Nat → List Value) : Nat → List Value
  | 0 => []
  | k + 1 => cat L k ++ L k
theorem cat_le (L : Nat → List Value) {a b : Nat} (h : a ≤ b) : (cat L a).length ≤ (cat L b).length := by
  induction h with
  | refl => exact Nat.le_refl _
  | step _ ih => rw [cat, List.length_append]; omega
theorem Rws.below {w w' : World} {a : Option Addr} {K c : Nat} {f : Nat → Value} {L : Nat → List Value} (h : Rws w a K c f L) (hb : Below w.heap.size w w') : Rws w' a K c f L :=
  ⟨h.tab.below (Nat.le_refl _) hb, fun i hi => by obtain ⟨a', c', h1, h2⟩ := h.row i hi; exact ⟨a', c', h1, h2.below (Nat.le_refl _) hb⟩, h.one⟩

set_option maxRecDepth 100000 in
set_option maxHeartbeats 4000000 in
/-- slices.Concat of rows of numbers. -/
theorem concat_any (a : Option Addr) (K c : Nat) (f : Nat → Value) (L : Nat → List Value) (w : World) (h : Rws w a K c f L) (hK : K ≤ 100) (h1 : 1 ≤ (cat L K).length) (h2 : (cat L K).length ≤ 100000) :
    Calls Tryz.prog 106 #[.slice a K c] w fun e w' => ∃ a' c', e = .returned (.slice a' (cat L K).length c') ∧ OwnV 3 w.heap.size w' (.slice a' (cat L K).length c') (cat L K) ∧ Below w.heap.size w w' := by
  have H := Lib.hid h
  clear h
  go_enter Tryz.func106, Tryz.ntmps106
  go_wp2_with fail
  go_loop [3, 5, 11] (fun x _ y => ∃ k : Nat, k ≤ K ∧ x = .int .i64 ((cat L k).length : Int) ∧ y = .int .i64 (k : Int)) (fun _ _ y => K - (intOf y).toNat)
  case atStart => exact ⟨0, Nat.zero_le _, rfl, rfl⟩
  case round =>
    obtain ⟨k, hk, rfl, rfl⟩ := hrel
    by_cases hlt : k < K
    · obtain ⟨b, off, rfl⟩ := H.out.tab.some_ (by omega)
      obtain ⟨a', c', e1, hr⟩ := H.out.row k hlt
      have hc : w.cell? ⟨b, off + k, none⟩ = some (.slice a' (L k).length c') := by
        rw [H.out.tab.get k (by simpa using hlt)]; simp [e1]
      have hle := cat_le L (show k + 1 ≤ K by omega)
      have hs : (cat L (k + 1)).length = (cat L k).length + (L k).length := by rw [cat, List.length_append]
      have w1 : IntKind.i64.wrap (((cat L k).length : Int) + ((L k).length : Int)) = ((cat L (k + 1)).length : Int) := by rw [IntWalk.i64_in _ (by omega), hs]; omega
      have hpos : ¬ ((cat L (k + 1)).length : Int) < 0 := by omega
      have HS := Lib.hid hs
      clear hs
      obtain ⟨N1, hN1⟩ : ∃ N1, N1 = (cat L (k + 1)).length := ⟨_, rfl⟩
      rw [← hN1] at w1 hpos hle HS
      have HN := Lib.hid hN1
      clear hN1
      go_wp2_with fail
      go_round
      case rel => exact ⟨k + 1, by omega, by rw [HN.out], by go_num⟩
      case measure => simp [intOf]; omega
    · obtain rfl : k = K := by omega
      go_wp2_with fail
      refine (grow_any (cat L k).length h1 h2 w).mono ?_
      rintro e w1 ⟨a1, c1, rfl, hown, hb⟩
      have HO := Lib.hid hown
      have HB := Lib.hid hb
      clear hown hb h1
      go_wp2_with fail
      go_loopw [6, 8, 27] (fun x _ y wr => ∃ j a' c', j ≤ k ∧ x = .slice a' (cat L j).length c' ∧ y = .int .i64 ((j : Nat) : Int) ∧ Hid (OwnV 3 w.heap.size wr (.slice a' (cat L j).length c') (cat L j)) ∧ Hid (Below w.heap.size w wr)) (fun _ _ y _ => k - (intOf y).toNat)
      case atStart => exact ⟨0, a1, c1, Nat.zero_le _, rfl, rfl, HO, HB⟩
      case round =>
        clear HO HB
        obtain ⟨j, a2, c2, hj, rfl, rfl, HO, HB⟩ := hrel
        by_cases hlt : j < k
        · have H1 := Lib.hid (H.out.below HB.out)
          obtain ⟨b, off, rfl⟩ := H1.out.tab.some_ (by omega)
          obtain ⟨a', c', e1, hr⟩ := H1.out.row j hlt
          have hc : wr.cell? ⟨b, off + j, none⟩ = some (.slice a' (L j).length c') := by
            rw [H1.out.tab.get j (by simpa using hlt)]; simp [e1]
          have hle := cat_le L (show j + 1 ≤ k by omega)
          have hs : (cat L (j + 1)).length = (cat L j).length + (L j).length := by rw [cat, List.length_append]
          have HR := Lib.hid hr
          have hsz := HB.out.size
          go_wp2_with (at_builtin; refine wpList_append_row (by rfl) (.tmp 31) (.tmp 32) 92 (by rfl) w.heap.size 3 (.int .i64 0) 8 Tryz.underlying92 info_int rfl _ (cat L j) (by rfl) HO.out a' (L j).length c' (L j) (by rfl) HR.out (H1.out.one j hlt) (by omega) (by omega) hsz ?_)
          intro a3 c3 w3 hown hgrow hnext
          have hb3 : Below w.heap.size w w3 := HO.out.grown HB.out hgrow hsz
          have HO3 := Lib.hid hown
          have HB3 := Lib.hid hb3
          have HS := Lib.hid hs
          clear hown hgrow hnext hb3 HO HB H1 hs hc
          go_wp2_with fail
          go_roundw
          case rel => exact ⟨j + 1, a3, c3, by omega, by rw [HS.out], by go_num, by rw [HS.out]; exact HO3, HB3⟩
          case measure => simp [intOf]; omega
        · obtain rfl : j = k := by omega
          go_wp2_with fail
          go_ret
          exact ⟨a2, c2, rfl, HO.out, HB.out⟩
end Go.Proofs.YtdbcendnibgcaaaGreatDoor.SlcC
end
