import Derived.Test.YtdbcendnibgcaaaGreatDoorMgBc
import Derived.Test.YtdbcendnibgcaaaGreatDoorMgAw

section
/-
  readDistance: a match is copied.
-/
namespace Go.Proofs.YtdbcendnibgcaaaGreatDoor.InfC
open Go.RowKit Go.My BitMath CanMath TabMath WinMath FeedC TabC CanC
open WinC (Wn)
open InfMath (M Ok CodeOk mu lack fixL fixD)

/-- The same as Valued, where the rows lie stays. -/
def ValuedK (B x : Nat) (s : M) (d : Ad) (n : Nat) (o : Option (Nat × Nat)) (w : World) (e : Ending) (w' : World) : Prop :=
  (o = none ∧ Thrown 2 e ∧ w' = w) ∨
  (∃ l y, o = some (l, y) ∧ (s.bits.length < n + y ∧ Thrown (lack s) e ∧ Below w.heap.size w w' ∨
    n + y ≤ s.bits.length ∧ e = .returned (.int .i64 ((l + num ((s.bits.drop n).take y) : Nat) : Int)) ∧ ∃ c F, Hid (At B w' x { s with bits := s.bits.drop (n + y) } { d with c := c, F := F }) ∧ Hid (Mv d.c c w w')))
section
variable {B x : Nat} {w : World} {s : M} {d : Ad}
set_option maxHeartbeats 1000000 in
theorem value_keep (v n : Nat) (h : Hid (At B w x s d)) (hn : n ≤ 15) (hb : s.bits.length ≤ 1000000000) :
    Calls Tryz.prog 101 #[.pointer (some ⟨x, 0, none⟩), .int .i64 (v : Int), .int .i64 (n : Int), .func (.func 104) #[] #[]] w (ValuedK B x s d n (InfMath.far v s.wide) w) := by
  have h0 : w.cell? ⟨x, 0, none⟩ = some (.bool s.wide) := h.out.blk.cell 0
  have h2 : w.cell? ⟨x, 2, none⟩ = some (.pointer (some ⟨d.f, 0, none⟩)) := h.out.blk.cell 2
  have HV := Lib.hid (far_any (v : Int) s.wide w)
  rw [farZ_nat] at HV
  obtain ⟨o, ho⟩ : ∃ o, o = InfMath.far v s.wide := ⟨_, rfl⟩
  have HO := Lib.hid ho
  rw [← ho] at HV ⊢
  clear ho
  go_enter Tryz.func101, Tryz.ntmps101
  go_wp2_with fail
  refine HV.out.mono ?_
  rintro e w' ⟨rfl, rfl⟩
  rcases o with _ | ⟨l, y⟩
  · dsimp only [ansB]
    go_wp2_with fail
    refine (fail_any 2 w).mono ?_
    rintro e w' ⟨rfl, rfl⟩
    go_wp2_with fail
    exact ⟨rfl, .inl ⟨rfl, rfl, rfl⟩⟩
  · obtain ⟨q1, q2, q3⟩ := InfMath.far_le HO.out.symm
    have hz := InfMath.num_take_lt (s.bits.drop n) y
    have w1 : IntKind.i64.wrap ((l : Int) + (num ((s.bits.drop n).take y) : Int)) = ((l + num ((s.bits.drop n).take y) : Nat) : Int) := by rw [IntWalk.i64_in _ (by omega)]; omega
    have w2 : IntKind.i64.wrap ((n : Int) + (y : Int)) = ((n + y : Nat) : Int) := by rw [IntWalk.i64_in _ (by omega)]; omega
    have HZ : Hid (l + num ((s.bits.drop n).take y) ≤ 65538) := Lib.hid (by omega)
    have HY : Hid (y ≤ 16) := Lib.hid (by omega)
    clear q1 q2 q3 hz HO
    dsimp only [ansB]
    go_wp2_with fail
    refine (behind_any n y h (by have := HY.out; omega) hb).mono ?_
    rintro e w' ⟨h1, j, rfl⟩
    rcases h1 with ⟨h1, rfl⟩ | ⟨h1, rfl⟩
    · go_wp2_with fail
      exact ⟨rfl, .inr ⟨l, y, rfl, .inl ⟨h1, rfl, quiet_below _ _⟩⟩⟩
    · have HX := Lib.hid (h.out.drewN j)
      have h2' : (w.drewN j).cell? ⟨x, 2, none⟩ = some (.pointer (some ⟨d.f, 0, none⟩)) := HX.out.blk.cell 2
      generalize hN : num ((s.bits.drop n).take y) = N at *
      have HN := Lib.hid hN
      have hNb := HZ.out
      have w3 : IntKind.i64.wrap ((l : Int) + (N : Int)) = (l : Int) + (N : Int) := IntWalk.i64_in _ (by omega)
      clear hN
      go_wp2_with fail
      refine (skip_keep (n + y) HX h1 hb).mono ?_
      rintro e w2 ⟨rfl, c', F', H1, H2⟩
      go_wp2_with fail
      go_ret
      refine .inr ⟨l, y, rfl, .inr ⟨h1, ?_, c', F', H1, Lib.hid ((Mv.of_below (quiet_below w j) d.c).trans H2.out)⟩⟩
      rw [HN.out]
      exact ret_int (by simp)

/-- A call that throws, or a number that is read. -/
theorem value_throws (v n c : Nat) (h : Hid (At B w x s d)) (hn : n ≤ 15) (hb : s.bits.length ≤ 1000000000)
    (hc : InfMath.far v s.wide = none ∧ c = 2 ∨ ∃ l y, InfMath.far v s.wide = some (l, y) ∧ s.bits.length < n + y ∧ c = lack s) :
    Calls Tryz.prog 101 #[.pointer (some ⟨x, 0, none⟩), .int .i64 (v : Int), .int .i64 (n : Int), .func (.func 104) #[] #[]] w fun e w' => Thrown c e ∧ Below w.heap.size w w' := by
  refine (value_keep v n h hn hb).mono ?_
  rintro e w' (⟨h1, h2, h3⟩ | ⟨l, y, h1, (⟨h2, h3, h4⟩ | ⟨h2, _⟩)⟩)
  · rcases hc with ⟨_, rfl⟩ | ⟨l, y, h4, _⟩
    · exact ⟨h2, by rw [h3]; exact Below.refl _ _⟩
    · rw [h1] at h4; cases h4
  · rcases hc with ⟨h5, _⟩ | ⟨l', y', h5, h6, rfl⟩
    · rw [h1] at h5; cases h5
    · exact ⟨h3, h4⟩
  · rcases hc with ⟨h5, _⟩ | ⟨l', y', h5, h6, _⟩
    · rw [h1] at h5; cases h5
    · rw [h1] at h5
      injection h5 with h5
      injection h5 with h5 h7
      omega
theorem value_reads (v n l y : Nat) (h : Hid (At B w x s d)) (hn : n ≤ 15) (hb : s.bits.length ≤ 1000000000) (hf : InfMath.far v s.wide = some (l, y)) (hl : n + y ≤ s.bits.length) :
    Calls Tryz.prog 101 #[.pointer (some ⟨x, 0, none⟩), .int .i64 (v : Int), .int .i64 (n : Int), .func (.func 104) #[] #[]] w fun e w' => e = .returned (.int .i64 ((l + num ((s.bits.drop n).take y) : Nat) : Int)) ∧ ∃ c F, Hid (At B w' x { s with bits := s.bits.drop (n + y) } { d with c := c, F := F }) ∧ Hid (Mv d.c c w w') := by
  refine (value_keep v n h hn hb).mono ?_
  rintro e w' (⟨h1, h2, h3⟩ | ⟨l', y', h1, (⟨h2, _⟩ | ⟨_, h2, h3⟩)⟩)
  · rw [hf] at h1; cases h1
  · rw [hf] at h1
    injection h1 with h1
    injection h1 with h1 h4
    omega
  · rw [hf] at h1
    injection h1 with h1
    injection h1 with h1 h4
    subst h1 h4
    exact ⟨h2, h3⟩

/-- What a copy out of the window leaves. -/
def CopyAt (B x : Nat) (s : M) (d : Ad) (w : World) (D m : Nat) (bv cv : Value) (w' : World) : Prop :=
  (min s.hist.length s.size < D ∧ cv = .int .i64 2 ∧ ∃ d', At B w' x s d' ∧ Mv d.c d'.c w w') ∨
  (D ≤ min s.hist.length s.size ∧ cv = .int .i64 0 ∧ ∃ b d', bv = .slice (some ⟨b, 0, none⟩) m m ∧ Bytes w' (some ⟨b, 0, none⟩) m m (copy s.hist D m) ∧ At B w' x { s with hist := grow s.hist D m } d' ∧ Mv d.c d'.c w w')
theorem CopyAt.of {c2 : Nat → Nat} {F2 : Nat → Prop} {w1 w' : World} {D m : Nat} {bv cv : Value} (mv : Mv d.c c2 w w1) (h : CopyAt B x s { d with c := c2, F := F2 } w1 D m bv cv w') : CopyAt B x s d w D m bv cv w' := by
  rcases h with ⟨h1, h2, d', h3, h4⟩ | ⟨h1, h2, b, d', h3, h4, h5, h6⟩
  · exact .inl ⟨h1, h2, d', h3, mv.trans h4⟩
  · exact .inr ⟨h1, h2, b, d', h3, h4, h5, mv.trans h6⟩
theorem copy_at (D m : Nat) (h : At B w x s d) (hD : 1 ≤ D) (hm : m ≤ 65538) (hh : s.hist.length ≤ 2000000000) :
    Calls Tryz.prog 103 #[.pointer (some ⟨d.g, 0, none⟩), .int .i64 (D : Int), .int .i64 (m : Int)] w fun e w' => ∃ bv cv, e = .returned (.tuple #[bv, cv]) ∧ CopyAt B x s d w D m bv cv w' := by
  by_cases hle : D ≤ min s.hist.length s.size
  · refine (WinC.copy_ok D m _ _ _ _ _ w h.rs.win.1 hm hD hle (by omega)).mono ?_
    rintro e w' ⟨b, rfl, ho, hl⟩
    obtain ⟨d', h1, h2, -, -⟩ := h.wind hl
    exact ⟨_, _, rfl, .inr ⟨hle, rfl, b, d', rfl, own_bytes ho (copy_len _ _ _), h1, h2⟩⟩
  · refine (WinC.copy_form (D : Int) (m : Int) _ _ _ _ _ w h.rs.win.1 (by omega) (by omega) (.inr (by omega))).mono ?_
    rintro e w' ⟨rfl, rfl⟩
    exact ⟨_, _, rfl, .inl ⟨by omega, rfl, d, h, Mv.refl _ _⟩⟩

set_option maxRecDepth 100000 in
set_option maxHeartbeats 4000000 in
theorem distance_any (h : Hid (At B w x s d)) (hok : Ok s) (hn : s.next = 10) (hr : s.total + s.matching ≤ s.most) :
    Calls Tryz.prog 85 #[.pointer (some ⟨x, 0, none⟩)] w (Goes B x s d w) := by
  obtain ⟨ls, ds, hls, hds, hck, hcd⟩ := hok.lit (.inr hn)
  have hb : s.bits.length ≤ 1000000000 := by have := hok.bnd; have := hok.psh; omega
  have HS : Hid (InfMath.step s = if (InfMath.sym ds s.bits).2.2 ≠ 0 then .halt (InfMath.bad s (InfMath.sym ds s.bits).2.2) else InfMath.readDist s (InfMath.sym ds s.bits).1 (InfMath.sym ds s.bits).2.1) := Lib.hid (by
    unfold InfMath.step; rw [hn]
    show InfMath.readDistance s = _
    unfold InfMath.readDistance
    rw [if_neg (by omega), hds]; rfl)
  obtain ⟨g, hg, ht⟩ := h.out.rs.t5.get hds
  have h17 : w.cell? ⟨x, 17, none⟩ = some (.pointer (some ⟨g, 0, none⟩)) := by have := h.out.blk.cell 17; rw [this]; show some (ptr d.dt) = _; rw [hg]; rfl
  have HQ := Lib.hid (symbol_any g 6 ds h ht hcd (by omega) (by omega) hb)
  have hhist : s.hist.length ≤ 1073741824 := by have := hok.tot; have := hok.room; have := hok.most; omega
  have hroom := hok.room
  have hmost := hok.most
  have houtl := hok.outl
  have hmat := hok.mat hn
  clear ht hg hls hds hck
  go_enter Tryz.func85, Tryz.ntmps85
  go_wp2_with fail
  refine HQ.out.mono ?_
  rintro e w1 ⟨hsym, hb1⟩
  have H1 := Lib.hid (h.out.later hb1)
  have M1 := Lib.hid (Mv.of_below hb1 d.c)
  clear hb1 h17 HQ
  rcases hsym with ⟨hc0, rfl⟩ | ⟨hc0, rfl⟩
  · go_wp2_with fail
    refine ⟨rfl, Goes.halt ?_ H1 M1 rfl⟩
    rw [HS.out, if_pos hc0]
  · obtain ⟨-, -, s1, s2, s3, s4⟩ := InfMath.sym_ok hc0
    have HS2 : Hid (InfMath.step s = InfMath.readDist s (InfMath.sym ds s.bits).1 (InfMath.sym ds s.bits).2.1) := Lib.hid (by
      rw [HS.out, if_neg (by omega)])
    obtain ⟨v, hv⟩ : ∃ v, v = (InfMath.sym ds s.bits).1 := ⟨_, rfl⟩
    obtain ⟨n, hnq⟩ : ∃ n, n = (InfMath.sym ds s.bits).2.1 := ⟨_, rfl⟩
    rw [← hv] at HS2 s4 ⊢
    rw [← hnq] at HS2 s1 s2 s3 ⊢
    clear hc0 hv hnq HS hcd h
    have h3 : w1.drew.cell? ⟨x, 3, none⟩ = some (.pointer (some ⟨d.g, 0, none⟩)) := H1.out.blk.cell 3
    have h18 : w1.drew.cell? ⟨x, 18, none⟩ = some (.int .i64 (s.matching : Int)) := H1.out.blk.cell 18
    have HD : Hid (At B w1.drew x s d) := Lib.hid (H1.out.drewN 1)
    have MD : Hid (Mv d.c d.c w w1.drew) := Lib.hid (M1.out.drewN 1)
    go_upto_region 1 with (fail)
    by_cases hbad : ∃ c, (InfMath.far v s.wide = none ∧ c = 2 ∨ ∃ l y, InfMath.far v s.wide = some (l, y) ∧ s.bits.length < n + y ∧ c = lack s)
    · obtain ⟨c, hc⟩ := hbad
      have HT := Lib.hid (value_throws v n c HD s3 hb hc)
      have HSt : Hid (InfMath.step s = .halt c) := Lib.hid (by
        rw [HS2.out]
        unfold InfMath.readDist
        rcases hc with ⟨h1, rfl⟩ | ⟨l, y, h1, h2, rfl⟩
        · rw [h1]
        · rw [h1]
          exact if_pos h2)
      have hSS : w1.drew.cell? ⟨x, 3, none⟩ = some (.pointer (some ⟨d.g, 0, none⟩)) ∧ w1.drew.cell? ⟨x, 18, none⟩ = some (.int .i64 (s.matching : Int)) := ⟨h3, h18⟩
      refine wp_region_held (S := fun w' => w'.cell? ⟨x, 3, none⟩ = some (.pointer (some ⟨d.g, 0, none⟩)) ∧ w'.cell? ⟨x, 18, none⟩ = some (.int .i64 (s.matching : Int))) (by kernel_rfl) ?_
      change wpAnyH _ _ _ _ _ 18 _ _ w1.drew
      refine ord_take (i := 0) (d := some 17) (.pointer (some ⟨x, 0, none⟩)) rfl (by kernel_rfl) (by kernel_rfl) (by kernel_rfl) (by kernel_rfl) (fun _ _ _ h => h) (by kernel_rfl) (fun w _ => by kernel_rfl) hSS ?_
      refine ord_take (i := 1) (d := some 18) (.pointer (some ⟨x, 0, none⟩)) rfl (by kernel_rfl) (by kernel_rfl) (by kernel_rfl) (by kernel_rfl) (fun _ _ _ h => h) (by kernel_rfl) (fun w _ => by kernel_rfl) hSS ?_
      refine ord_take (i := 2) (d := some 19) (.pointer (some ⟨x, 3, none⟩)) rfl (by kernel_rfl) (by kernel_rfl) (by kernel_rfl) (by kernel_rfl) (fun _ _ _ h => h) (by kernel_rfl) (fun w _ => by kernel_rfl) hSS ?_
      refine ord_take (i := 3) (d := some 20) (.pointer (some ⟨d.g, 0, none⟩)) rfl (by kernel_rfl) (by kernel_rfl) (by kernel_rfl) (by kernel_rfl) (fun _ _ _ h => h) (by kernel_rfl) (fun w' hw' => by have hc3 := hw'.1; go_simp) hSS ?_
      refine ord_take (i := 4) (d := some 21) (.pointer (some ⟨x, 0, none⟩)) rfl (by kernel_rfl) (by kernel_rfl) (by kernel_rfl) (by kernel_rfl) (fun _ _ _ h => h) (by kernel_rfl) (fun w _ => by kernel_rfl) hSS ?_
      refine ord_take (i := 5) (d := some 22) (.int .i64 (v : Int)) rfl (by kernel_rfl) (by kernel_rfl) (by kernel_rfl) (by kernel_rfl) (fun _ _ _ h => h) (by kernel_rfl) (fun w _ => by kernel_rfl) hSS ?_
      refine ord_take (i := 6) (d := some 23) (.int .i64 (n : Int)) rfl (by kernel_rfl) (by kernel_rfl) (by kernel_rfl) (by kernel_rfl) (fun _ _ _ h => h) (by kernel_rfl) (fun w _ => by kernel_rfl) hSS ?_
      refine ord_take (i := 8) (d := some 25) (.pointer (some ⟨x, 0, none⟩)) rfl (by kernel_rfl) (by kernel_rfl) (by kernel_rfl) (by kernel_rfl) (fun _ _ _ h => h) (by kernel_rfl) (fun w _ => by kernel_rfl) hSS ?_
      refine ord_take (i := 9) (d := some 26) (.pointer (some ⟨x, 0, none⟩)) rfl (by kernel_rfl) (by kernel_rfl) (by kernel_rfl) (by kernel_rfl) (fun _ _ _ h => h) (by kernel_rfl) (fun w _ => by kernel_rfl) hSS ?_
      refine ord_take (i := 10) (d := some 27) (.pointer (some ⟨x, 18, none⟩)) rfl (by kernel_rfl) (by kernel_rfl) (by kernel_rfl) (by kernel_rfl) (fun _ _ _ h => h) (by kernel_rfl) (fun w _ => by kernel_rfl) hSS ?_
      refine ord_take (i := 11) (d := some 28) (.int .i64 (s.matching : Int)) rfl (by kernel_rfl) (by kernel_rfl) (by kernel_rfl) (by kernel_rfl) (fun _ _ _ h => h) (by kernel_rfl) (fun w' hw' => by have hc18 := hw'.2; go_simp) hSS ?_
      refine ord_alone (i := 7) rfl (by kernel_rfl) (by kernel_rfl) ?_
      refine wp_throw (by kernel_rfl) HT.out ?_
      rintro e w2 ⟨rfl, hb2⟩
      exact ⟨_, rfl, And.intro rfl (Goes.halt HSt.out (Lib.hid (HD.out.later hb2)) (Lib.hid (MD.out.trans (Mv.of_below hb2 d.c))) rfl)⟩
    · obtain ⟨l, y, hf⟩ : ∃ l y, InfMath.far v s.wide = some (l, y) := by
        cases hf : InfMath.far v s.wide with
        | none => exact absurd ⟨2, .inl ⟨hf, rfl⟩⟩ hbad
        | some p => exact ⟨p.1, p.2, rfl⟩
      have hly : n + y ≤ s.bits.length := by
        apply Nat.le_of_not_lt
        intro hlt
        exact hbad ⟨_, .inr ⟨l, y, hf, hlt, rfl⟩⟩
      have hfl := InfMath.far_le hf
      have HVal := Lib.hid (value_reads v n l y HD s3 hb hf hly)
      have hz := InfMath.num_take_lt (s.bits.drop n) y
      obtain ⟨D, hD⟩ : ∃ D, D = l + num ((s.bits.drop n).take y) := ⟨_, rfl⟩
      have HSt : Hid (InfMath.step s = InfMath.copied s D (n + y)) := Lib.hid (by
        rw [HS2.out]
        unfold InfMath.readDist
        rw [hf]
        show (if s.bits.length < n + y then _ else _) = _
        rw [if_neg (by omega), hD])
      rw [← hD] at HVal
      have hD1 : 1 ≤ D ∧ D ≤ 65537 := by omega
      clear hD hz hfl hf hbad HS2
      go_cut [4, 5] (fun bv cv wx => CopyAt B x { s with bits := s.bits.drop (n + y) } d w1 D s.matching bv cv wx)
      case first =>
        go_region_law (go_simp; first
          | (go_at_call 101; refine HVal.out.mono ?_; rintro e w2 ⟨rfl, c2, F2, H2, M2⟩; have h3b : w2.cell? ⟨x, 3, none⟩ = some (.pointer (some ⟨d.g, 0, none⟩)) := H2.out.blk.cell 3; have h18b : w2.cell? ⟨x, 18, none⟩ = some (.int .i64 (s.matching : Int)) := H2.out.blk.cell 18)
          | (go_at_call 103; refine (copy_at D s.matching H2.out hD1.1 hmat.2 (by simp only; omega)).mono ?_; rintro e w3 ⟨bv, cv, rfl, hcp⟩))
        all_goals
          have hcq := hcp.of M2.out.of_drew
          have HCQ := Lib.hid hcq
          clear hcp hcq
          go_wp2_with fail
          go_meet
          case rel => exact HCQ.out
      case rest =>
        rcases hcut with ⟨hlt, rfl, d2, hA, hM⟩ | ⟨hle, rfl, b, d2, rfl, hby, hA, hM⟩
        · have H2 := Lib.hid hA
          have M2 := Lib.hid (M1.out.trans hM)
          clear hA hM h3 h18 HD MD H1 M1
          go_wp2_with fail
          refine (fail_any 2 wc).mono ?_
          rintro e w' ⟨rfl, rfl⟩
          go_wp2_with fail
          refine ⟨rfl, Goes.fail ?_ (by decide) H2 rfl rfl M2 rfl⟩
          rw [HSt.out]; unfold InfMath.copied; exact if_pos hlt
        · have H2 := Lib.hid hA
          have M2 := Lib.hid (M1.out.trans hM)
          have HBY := Lib.hid hby
          have h4 : wc.cell? ⟨x, 4, none⟩ = some (.slice d2.oa s.out.length d2.oc) := hA.blk.cell 4
          have hB : B ≤ wc.heap.size := hA.rs.lt
          have HO := Lib.hid hA.rs.out.1
          clear hA hM hby h3 h18 HD MD H1 M1
          go_wp2_with (at_builtin; refine wpList_append_lie (by rfl) (.tmp 40) (.tmp 41) 22 (by rfl) B 5 Tryz.underlying22 WinC.info5 (.slice d2.oa s.out.length d2.oc) s.out (by rfl) HO.out (some ⟨b, 0, none⟩) s.matching s.matching (copy s.hist D s.matching) (by rfl) HBY.out (by omega) hB ?_)
          intro a3 c3 w3 hown hgrow hnext
          have hb3 := H2.out.app_blk hgrow
          have h43 : w3.cell? ⟨x, 4, none⟩ = some (.slice d2.oa s.out.length d2.oc) := hb3.cell 4
          have f43 := hb3.frozen 4
          obtain ⟨d4, hA4, hM4⟩ := H2.out.app (l2 := copy s.hist D s.matching) (m := s.matching) (copy_len _ _ _) hown hgrow (Nat.le_refl _) hnext
          have h5 : (w3.setCell ⟨x, 4, none⟩ (.slice a3 (s.out.length + s.matching) c3)).cell? ⟨x, 5, none⟩ = some (.int .i64 (s.total : Int)) := hA4.blk.cell 5
          have f5 := hA4.blk.frozen 5
          have w5' : IntKind.i64.wrap ((s.total : Int) + (s.matching : Int)) = (s.total : Int) + (s.matching : Int) := IntWalk.i64_in _ (by omega)
          have hA5 := hA4.set 5 (.int .i64 ((s.total : Int) + (s.matching : Int))) { s with bits := s.bits.drop (n + y), hist := grow s.hist D s.matching, out := s.out ++ copy s.hist D s.matching, total := s.total + s.matching } (by unfold cells; rw [show ((s.total + s.matching : Nat) : Int) = (s.total : Int) + (s.matching : Int) from by omega]; rfl) ⟨rfl, rfl, rfl, rfl, rfl, rfl, rfl, rfl, rfl, rfl, rfl⟩
          have hM5 := M2.out.trans (hM4.trans (hA4.set_mv 5 (.int .i64 ((s.total : Int) + (s.matching : Int)))))
          have h6 : ((w3.setCell ⟨x, 4, none⟩ (.slice a3 (s.out.length + s.matching) c3)).setCell ⟨x, 5, none⟩ (.int .i64 ((s.total : Int) + (s.matching : Int)))).cell? ⟨x, 6, none⟩ = some (.int .i64 (s.next : Int)) := hA5.blk.cell 6
          have f6 := hA5.blk.frozen 6
          have H6 := Lib.hid (hA5.set 6 (.int .i64 9) { s with bits := s.bits.drop (n + y), hist := grow s.hist D s.matching, out := s.out ++ copy s.hist D s.matching, total := s.total + s.matching, next := 9 } rfl ⟨rfl, rfl, rfl, rfl, rfl, rfl, rfl, rfl, rfl, rfl, rfl⟩)
          have M6 := Lib.hid (hM5.trans (hA5.set_mv 6 (.int .i64 9)))
          clear hA4 hM4 hA5 hM5 hb3 hown hgrow hnext HO HBY H2 M2 h4
          go_wp2_with fail
          go_end0
          refine Goes.more ?_ H6 M6
          rw [HSt.out]; unfold InfMath.copied; rw [if_neg (by omega)]
end
end Go.Proofs.YtdbcendnibgcaaaGreatDoor.InfC
end

section
/-
  inflate's machine: with more room, with more bits behind. No program, no dump.
-/
namespace InfMath
open BitMath CanMath TabMath WinMath

/-! ### an end without an error -/
theorem lack_ne (s : M) : lack s ≠ 0 := by unfold lack; split <;> decide
theorem bad_ne (s : M) (c : Nat) (h : c ≠ 0) : bad s c ≠ 0 := by unfold bad; split; exact lack_ne s; exact h
theorem halt_zero {s : M} (h1 : 1 ≤ s.next) (h2 : s.next ≤ 11) (h : step s = .halt 0) : s.next = 11 := by
  unfold step at h
  split at h
  · unfold opening at h; repeat' split at h
    all_goals first | (injection h with h; exact absurd h (lack_ne s)) | (injection h with h; cases h) | cases h
  · unfold readSize at h; repeat' split at h
    all_goals first | (injection h with h; exact absurd h (lack_ne s)) | (injection h with h; cases h) | cases h
  · unfold readBytes at h; repeat' split at h
    all_goals first | (injection h with h; exact absurd h (lack_ne s)) | (injection h with h; cases h) | cases h
  · unfold readHlit at h; repeat' split at h
    all_goals first | (injection h with h; exact absurd h (lack_ne s)) | (injection h with h; cases h) | cases h
  · unfold readHdist at h; repeat' split at h
    all_goals first | (injection h with h; exact absurd h (lack_ne s)) | (injection h with h; cases h) | cases h
  · unfold readHclen at h; repeat' split at h
    all_goals first | (injection h with h; exact absurd h (lack_ne s)) | (injection h with h; cases h) | cases h
  · unfold readCodeLengths at h; repeat' split at h
    all_goals first | (injection h with h; exact absurd h (lack_ne s)) | (injection h with h; cases h) | cases h
  · unfold readLengths at h
    split at h
    · unfold readLength at h
      split at h
      · next hc => injection h with h; exact absurd h (bad_ne s _ hc)
      · unfold readLen at h; repeat' split at h
        all_goals first | (injection h with h; exact absurd h (lack_ne s)) | (injection h with h; cases h) | cases h
    · split at h
      all_goals first | (injection h with h; cases h) | cases h
  · unfold readLiteral at h
    split at h
    · next hc => injection h with h; exact absurd h (bad_ne s _ hc)
    · unfold readLit at h; repeat' split at h
      all_goals first | (injection h with h; exact absurd h (lack_ne s)) | (injection h with h; cases h) | cases h
  · unfold readDistance at h
    split at h
    · injection h with h; cases h
    · split at h
      · next hc => injection h with h; exact absurd h (bad_ne s _ hc)
      · unfold readDist at h
        split at h
        · injection h with h; cases h
        · split at h
          · injection h with h; exact absurd h (lack_ne s)
          · unfold copied at h; split at h
            all_goals first | (injection h with h; cases h) | cases h
  · by_cases hx : s.next = 11
    · exact hx
    · exfalso
      rcases (by omega : s.next = 1 ∨ s.next = 2 ∨ s.next = 3 ∨ s.next = 4 ∨ s.next = 5 ∨ s.next = 6 ∨ s.next = 7 ∨ s.next = 8 ∨ s.next = 9 ∨ s.next = 10) with hq | hq | hq | hq | hq | hq | hq | hq | hq | hq <;> first | exact absurd hq (by assumption) | (rename_i z1 z2 z3 z4 z5 z6 z7 z8 z9 z10; first | exact z1 hq | exact z2 hq | exact z3 hq | exact z4 hq | exact z5 hq | exact z6 hq | exact z7 hq | exact z8 hq | exact z9 hq | exact z10 hq)
theorem over_halts {s : M} (h : s.next = 11) : step s = .halt 0 := by unfold step; rw [h]; rfl

/-! ### more room -/
abbrev up (q : Nat) (s : M) : M := { s with most := q }
theorem up_step {s t : M} {q : Nat} (hq : s.most ≤ q) (h : step s = .more t) : step (up q s) = .more (up q t) ∧ t.most = s.most := by
  unfold step at h ⊢
  have e : (up q s).next = s.next := rfl
  rw [e]
  split at h
  · unfold opening at h ⊢
    simp only [up] at h ⊢
    repeat' split at h
    all_goals first | (cases h; done) | skip
    all_goals (cases h; repeat' split)
    all_goals first | exact ⟨rfl, rfl⟩ | contradiction | (exfalso; omega)
  · unfold readSize at h ⊢
    simp only [up] at h ⊢
    repeat' split at h
    all_goals first | (cases h; done) | skip
    all_goals (cases h; repeat' split)
    all_goals first | exact ⟨rfl, rfl⟩ | contradiction | (exfalso; omega)
  · unfold readBytes at h ⊢
    simp only [up, close, put] at h ⊢
    repeat' split at h
    all_goals first | (cases h; done) | skip
    all_goals (cases h; repeat' split)
    all_goals first | exact ⟨rfl, rfl⟩ | contradiction | (exfalso; omega)
  · unfold readHlit at h ⊢
    simp only [up] at h ⊢
    repeat' split at h
    all_goals first | (cases h; done) | skip
    all_goals (cases h; repeat' split)
    all_goals first | exact ⟨rfl, rfl⟩ | contradiction | (exfalso; omega)
  · unfold readHdist at h ⊢
    simp only [up] at h ⊢
    repeat' split at h
    all_goals first | (cases h; done) | skip
    all_goals (cases h; repeat' split)
    all_goals first | exact ⟨rfl, rfl⟩ | contradiction | (exfalso; omega)
  · unfold readHclen at h ⊢
    simp only [up] at h ⊢
    repeat' split at h
    all_goals first | (cases h; done) | skip
    all_goals (cases h; repeat' split)
    all_goals first | exact ⟨rfl, rfl⟩ | contradiction | (exfalso; omega)
  · unfold readCodeLengths at h ⊢
    simp only [up] at h ⊢
    repeat' split at h
    all_goals first | (cases h; done) | skip
    all_goals (cases h; repeat' split)
    all_goals first | exact ⟨rfl, rfl⟩ | contradiction | (exfalso; omega)
  · unfold readLengths at h ⊢
    simp only [up] at h ⊢
    by_cases h1 : s.lens.length < s.hl + s.hd
    · rw [if_pos h1] at h ⊢
      unfold readLength at h ⊢
      simp only at h ⊢
      by_cases h2 : (sym (s.hcode.getD []) s.bits).2.2 ≠ 0
      · rw [if_pos h2] at h; cases h
      · rw [if_neg h2] at h ⊢
        unfold readLen at h ⊢
        simp only at h ⊢
        generalize (sym (s.hcode.getD []) s.bits).1 = v at *
        generalize (sym (s.hcode.getD []) s.bits).2.1 = n at *
        repeat' split at h
        all_goals first | (cases h; done) | skip
        all_goals (cases h; repeat' split)
        all_goals first | exact ⟨rfl, rfl⟩ | contradiction | (exfalso; omega)
    · rw [if_neg h1] at h ⊢
      repeat' split at h
      all_goals first | (cases h; done) | skip
      all_goals (cases h; repeat' split)
      all_goals first | exact ⟨rfl, rfl⟩ | contradiction | (exfalso; omega)
  · unfold readLiteral at h ⊢
    simp only [up] at h ⊢
    by_cases h2 : (sym (s.lit.getD []) s.bits).2.2 ≠ 0
    · rw [if_pos h2] at h; cases h
    · rw [if_neg h2] at h ⊢
      unfold readLit at h ⊢
      simp only [close, put] at h ⊢
      generalize (sym (s.lit.getD []) s.bits).1 = v at *
      generalize (sym (s.lit.getD []) s.bits).2.1 = n at *
      by_cases h1 : v < 256
      · rw [if_pos h1] at h ⊢
        by_cases h3 : s.most ≤ s.total
        · rw [if_pos h3] at h; cases h
        · rw [if_neg h3] at h; rw [if_neg (by omega)]; cases h; exact ⟨rfl, rfl⟩
      · rw [if_neg h1] at h ⊢
        by_cases h3 : v = 256
        · rw [if_pos h3] at h ⊢; cases h; exact ⟨rfl, rfl⟩
        · rw [if_neg h3] at h ⊢
          split at h
          · cases h
          · next l x hb =>
            by_cases h4 : s.bits.length < n + x
            · rw [if_pos h4] at h; cases h
            · rw [if_neg h4] at h ⊢; cases h; exact ⟨rfl, rfl⟩
  · unfold readDistance at h ⊢
    simp only [up] at h ⊢
    by_cases h1 : s.most < s.total + s.matching
    · rw [if_pos h1] at h; cases h
    · rw [if_neg h1] at h; rw [if_neg (by omega)]
      by_cases h2 : (sym (s.dist.getD []) s.bits).2.2 ≠ 0
      · rw [if_pos h2] at h; cases h
      · rw [if_neg h2] at h ⊢
        unfold readDist at h ⊢
        simp only at h ⊢
        generalize (sym (s.dist.getD []) s.bits).1 = v at *
        generalize (sym (s.dist.getD []) s.bits).2.1 = n at *
        split at h
        · cases h
        · next l x hb =>
          by_cases h4 : s.bits.length < n + x
          · rw [if_pos h4] at h; cases h
          · rw [if_neg h4] at h ⊢
            unfold copied at h ⊢
            simp only at h ⊢
            by_cases h5 : min s.hist.length s.size < l + num ((s.bits.drop n).take x)
            · rw [if_pos h5] at h; cases h
            · rw [if_neg h5] at h ⊢; cases h; exact ⟨rfl, rfl⟩
  · cases h
theorem up_steps {s t : M} {q : Nat} (hq : s.most ≤ q) (h : Steps s t) : Steps (up q s) (up q t) := by
  induction h with
  | refl => exact .refl _
  | cons h _ ih => exact .cons (up_step hq h).1 (ih (by rw [(up_step hq h).2]; exact hq))
theorem up_ends {s t : M} {q : Nat} (hs : Ok s) (hq : s.most ≤ q) (h : Ends s t 0) : Ends (up q s) (up q t) 0 := by
  have ho := hs.steps h.1
  have h11 := halt_zero ho.next1 ho.next2 h.2
  exact ⟨up_steps hq h.1, over_halts h11⟩
end InfMath
end
