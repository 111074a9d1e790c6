import Derived.Test.YtjejlhpnhkacmaaGreatDoorMgK
import Derived.Test.YtjejlhpnhkacmaaGreatDoorMgM
import Derived.Test.YtjejlhpnhkacmaaGreatDoorMgA
import Derived.Recover
import Derived.Orders

section
/-
  Tokens: readLiteral, readDistance.
-/
namespace Go.Proofs.YtjejlhpnhkacmaaGreatDoor.InfC
open Go.RowKit Go.My BitMath CanMath TabMath WinMath FeedC TabC CanC
open WinC (Wn)
open InfMath (M Ok CodeOk mu lack fixL fixD)

section
variable {B x : Nat} {w : World} {s : M} {d : Ad}
set_option maxRecDepth 100000 in
set_option maxHeartbeats 4000000 in
theorem literal_any (h : Hid (At B w x s d)) (hok : Ok s) (hn : s.next = 9) :
    Calls Tryz.prog 49 #[.pointer (some ⟨x, 0, none⟩)] w (Goes B x s d w) := by
  obtain ⟨ls, ds, hls, hds, hck, hcd⟩ := hok.lit (.inl hn)
  have hb : s.bits.length ≤ 1000000000 := by have := hok.bnd; have := hok.psh; omega
  have HS : Hid (InfMath.step s = if (InfMath.sym ls s.bits).2.2 ≠ 0 then .halt (InfMath.bad s (InfMath.sym ls s.bits).2.2) else InfMath.readLit s (InfMath.sym ls s.bits).1 (InfMath.sym ls s.bits).2.1) := Lib.hid (by
    unfold InfMath.step; rw [hn]
    show InfMath.readLiteral s = _
    unfold InfMath.readLiteral
    rw [hls]; rfl)
  obtain ⟨g, hg, ht⟩ := h.out.rs.t4.get hls
  have h16 : w.cell? ⟨x, 16, none⟩ = some (.pointer (some ⟨g, 0, none⟩)) := by have := h.out.blk.cell 16; rw [this]; show some (ptr d.lt) = _; rw [hg]; rfl
  have HQ := Lib.hid (symbol_any g 9 ls h ht hck (by omega) (by omega) hb)
  have htot := hok.tot
  have hroom := hok.room
  have hmost := hok.most
  have houtl := hok.outl
  clear ht hg hls hds hcd
  go_enter Tryz.func49, Tryz.ntmps49
  go_wp2_with fail
  refine HQ.out.mono ?_
  rintro e w1 ⟨hsym, hb1⟩
  have H1 := Lib.hid (h.out.later hb1)
  have M1 := Lib.hid (Mv.of_below hb1 d.c)
  clear hb1 h16 HQ
  rcases hsym with ⟨hc0, rfl⟩ | ⟨hc0, rfl⟩
  · go_wp2_with fail
    refine ⟨rfl, Goes.halt ?_ H1 M1 rfl⟩
    rw [HS.out, if_pos hc0]
  · obtain ⟨-, -, s1, s2, s3, s4⟩ := InfMath.sym_ok hc0
    have HS2 : Hid (InfMath.step s = InfMath.readLit s (InfMath.sym ls s.bits).1 (InfMath.sym ls s.bits).2.1) := Lib.hid (by
      rw [HS.out, if_neg (by omega)])
    have hls2 := hck.len
    obtain ⟨v, hv⟩ : ∃ v, v = (InfMath.sym ls s.bits).1 := ⟨_, rfl⟩
    obtain ⟨n, hnq⟩ : ∃ n, n = (InfMath.sym ls s.bits).2.1 := ⟨_, rfl⟩
    rw [← hv] at HS2 s4 ⊢
    rw [← hnq] at HS2 s1 s2 s3 ⊢
    clear hc0 hv hnq HS hck
    have h2 : w1.cell? ⟨x, 2, none⟩ = some (.pointer (some ⟨d.f, 0, none⟩)) := H1.out.blk.cell 2
    by_cases hv1 : v < 256
    · have hd1 : decide ((v : Int) < 256) = true := by simp; omega
      have hwv : IntKind.u8.wrap (v : Int) = ((UInt8.ofNat v).toNat : Int) := by rw [IntKind.wrap_u8, UInt8.toNat_ofNat']; omega
      go_wp2_with fail
      refine (room_any 1 H1 hroom hmost).mono ?_
      rintro e w2 ⟨hr, j, hj⟩
      have H2 : Hid (At B w2 x s d) := Lib.hid (by rw [hj]; exact H1.out.drewN j)
      have M2 : Hid (Mv d.c d.c w w2) := Lib.hid (by rw [hj]; exact M1.out.drewN j)
      clear hj H1 M1 h2
      rcases hr with ⟨hr, rfl⟩ | ⟨hr, rfl⟩
      · go_wp2_with fail
        refine ⟨rfl, Goes.halt ?_ H2 M2 rfl⟩
        rw [HS2.out]; unfold InfMath.readLit; rw [if_pos hv1, if_pos (by omega)]
      · have h2 : w2.cell? ⟨x, 2, none⟩ = some (.pointer (some ⟨d.f, 0, none⟩)) := H2.out.blk.cell 2
        go_wp2_with fail
        refine (skip_at n H2 s2 hb).mono ?_
        rintro e w3 ⟨rfl, d3, H3, M3⟩
        clear h2
        go_wp2_with fail
        refine (put_any (UInt8.ofNat v) H3 (by simp only; omega) (by simp only; omega) (by simp only; omega)).mono ?_
        rintro e w4 ⟨rfl, d4, H4, M4⟩
        go_wp2_with fail
        go_end0
        refine Goes.more ?_ H4 (Lib.hid (M2.out.trans (M3.out.trans M4.out))) (fun h => by have h2 : s.next = 10 := h; omega)
        rw [HS2.out]; unfold InfMath.readLit; rw [if_pos hv1, if_neg (by omega)]; rfl
    · have hd1 : decide ((v : Int) < 256) = false := by simp; omega
      by_cases hv2 : v = 256
      · subst hv2
        go_wp2_with fail
        refine (skip_at n H1 s2 hb).mono ?_
        rintro e w3 ⟨rfl, d3, H3, M3⟩
        clear h2
        go_wp2_with fail
        refine (close_any H3).mono ?_
        rintro e w4 ⟨rfl, hA, hM⟩
        have H4 := Lib.hid hA
        have M4 := Lib.hid (M1.out.trans (M3.out.trans hM))
        clear hA hM
        go_wp2_with fail
        go_end0
        refine Goes.more ?_ H4 M4 (fun h => absurd h (close_ne _))
        rw [HS2.out]; unfold InfMath.readLit; rw [if_neg hv1, if_pos rfl]
      · have hvz : ((v : Int) == 256) = false := by simp; omega
        have HV := Lib.hid (value_base v n H1 s3 hb)
        obtain ⟨o, ho⟩ : ∃ o, o = InfMath.base v s.wide := ⟨_, rfl⟩
        have HOq := Lib.hid ho
        rw [← ho] at HV
        clear ho h2
        go_wp2_with fail
        refine HV.out.mono ?_
        rintro e w2 hval
        rcases hval with ⟨rfl, rfl, rfl⟩ | ⟨l, y, rfl, hval⟩
        · go_wp2_with fail
          refine ⟨rfl, Goes.halt ?_ H1 M1 rfl⟩
          rw [HS2.out]; unfold InfMath.readLit; rw [if_neg hv1, if_neg hv2, ← HOq.out]
        · rcases hval with ⟨hbl, rfl, hb2⟩ | ⟨hbl, rfl, d2, H2, M2⟩
          · have H2 := Lib.hid (H1.out.later hb2)
            have M2 := Lib.hid (M1.out.trans (Mv.of_below hb2 d.c))
            clear hb2
            go_wp2_with fail
            refine ⟨rfl, Goes.halt ?_ H2 M2 rfl⟩
            rw [HS2.out]; unfold InfMath.readLit; rw [if_neg hv1, if_neg hv2, ← HOq.out]; exact if_pos hbl
          · obtain ⟨L, hL⟩ : ∃ L, L = l + num ((s.bits.drop n).take y) := ⟨_, rfl⟩
            have HLq := Lib.hid hL
            rw [← hL]
            clear hL
            have HSt : Hid (InfMath.step s = .more { s with bits := s.bits.drop (n + y), matching := L, next := 10 }) := Lib.hid (by
              rw [HS2.out]; unfold InfMath.readLit; rw [if_neg hv1, if_neg hv2, ← HOq.out]
              show (if s.bits.length < n + y then _ else _) = _
              rw [if_neg (by omega), HLq.out])
            have h18 : w2.cell? ⟨x, 18, none⟩ = some (.int .i64 (s.matching : Int)) := H2.out.blk.cell 18
            have f18 := H2.out.blk.frozen 18
            have h3 := H2.out.set 18 (.int .i64 (L : Int)) { s with bits := s.bits.drop (n + y), matching := L } rfl ⟨rfl, rfl, rfl, rfl, rfl, rfl, rfl, rfl, rfl, rfl, rfl⟩
            have H3 := Lib.hid h3
            have M3 := Lib.hid (M1.out.trans (M2.out.trans (H2.out.set_mv 18 (.int .i64 (L : Int)))))
            have h18b : (w2.setCell ⟨x, 18, none⟩ (.int .i64 (L : Int))).cell? ⟨x, 18, none⟩ = some (.int .i64 (L : Int)) := h3.blk.cell 18
            clear h3 HV H1 M1 H2 M2 HOq HLq
            go_wp2_with fail
            refine (room_any L H3 (by simp only; omega) hmost).mono ?_
            rintro e w4 ⟨hr, j, hj⟩
            have H4 := Lib.hid (H3.out.drewN j)
            have M4 := Lib.hid (M3.out.drewN j)
            rw [← hj] at H4 M4
            clear hj H3 M3 h18 f18 h18b
            rcases hr with ⟨hr, rfl⟩ | ⟨hr, rfl⟩
            · go_wp2_with fail
              refine ⟨rfl, d2, M4, .inr ⟨3, _, _, rfl, ⟨.one HSt.out, ?_⟩, H4, rfl, rfl, fun h => by simp at h⟩⟩
              unfold InfMath.step
              simp only
              unfold InfMath.readDistance
              rw [if_pos hr]
            · have h6 : w4.cell? ⟨x, 6, none⟩ = some (.int .i64 (s.next : Int)) := H4.out.blk.cell 6
              have f6 := H4.out.blk.frozen 6
              have H5 := Lib.hid (H4.out.set 6 (.int .i64 10) { s with bits := s.bits.drop (n + y), matching := L, next := 10 } rfl ⟨rfl, rfl, rfl, rfl, rfl, rfl, rfl, rfl, rfl, rfl, rfl⟩)
              have M5 := Lib.hid (M4.out.trans (H4.out.set_mv 6 (.int .i64 10)))
              clear H4 M4
              go_wp2_with fail
              go_end0
              exact Goes.more HSt.out H5 M5 (fun _ => hr)
end
end Go.Proofs.YtjejlhpnhkacmaaGreatDoor.InfC
end

section
/-
  readDistance: a match is copied.
-/
namespace Go.Proofs.YtjejlhpnhkacmaaGreatDoor.InfC
open Go.RowKit Go.My BitMath CanMath TabMath WinMath FeedC TabC CanC
open WinC (Wn)
open InfMath (M Ok CodeOk mu lack fixL fixD)

/-- The same as Valued, where the rows lie stays. -/
def ValuedK (B x : Nat) (s : M) (d : Ad) (n : Nat) (o : Option (Nat × Nat)) (w : World) (e : Ending) (w' : World) : Prop :=
  (o = none ∧ Thrown 2 e ∧ w' = w) ∨
  (∃ l y, o = some (l, y) ∧ (s.bits.length < n + y ∧ Thrown (lack s) e ∧ Below w.heap.size w w' ∨
    n + y ≤ s.bits.length ∧ e = .returned (.int .i64 ((l + num ((s.bits.drop n).take y) : Nat) : Int)) ∧ ∃ c F, Hid (At B w' x { s with bits := s.bits.drop (n + y) } { d with c := c, F := F }) ∧ Hid (Mv d.c c w w')))
section
variable {B x : Nat} {w : World} {s : M} {d : Ad}
set_option maxHeartbeats 1000000 in
theorem value_keep (v n : Nat) (h : Hid (At B w x s d)) (hn : n ≤ 15) (hb : s.bits.length ≤ 1000000000) :
    Calls Tryz.prog 68 #[.pointer (some ⟨x, 0, none⟩), .int .i64 (v : Int), .int .i64 (n : Int), .func (.func 71) #[] #[]] w (ValuedK B x s d n (InfMath.far v s.wide) w) := by
  have h0 : w.cell? ⟨x, 0, none⟩ = some (.bool s.wide) := h.out.blk.cell 0
  have h2 : w.cell? ⟨x, 2, none⟩ = some (.pointer (some ⟨d.f, 0, none⟩)) := h.out.blk.cell 2
  have HV := Lib.hid (far_any (v : Int) s.wide w)
  rw [farZ_nat] at HV
  obtain ⟨o, ho⟩ : ∃ o, o = InfMath.far v s.wide := ⟨_, rfl⟩
  have HO := Lib.hid ho
  rw [← ho] at HV ⊢
  clear ho
  go_enter Tryz.func68, Tryz.ntmps68
  go_wp2_with fail
  refine HV.out.mono ?_
  rintro e w' ⟨rfl, rfl⟩
  rcases o with _ | ⟨l, y⟩
  · dsimp only [ansB]
    go_wp2_with fail
    refine (fail_any 2 w).mono ?_
    rintro e w' ⟨rfl, rfl⟩
    go_wp2_with fail
    exact ⟨rfl, .inl ⟨rfl, rfl, rfl⟩⟩
  · obtain ⟨q1, q2, q3⟩ := InfMath.far_le HO.out.symm
    have hz := InfMath.num_take_lt (s.bits.drop n) y
    have w1 : IntKind.i64.wrap ((l : Int) + (num ((s.bits.drop n).take y) : Int)) = ((l + num ((s.bits.drop n).take y) : Nat) : Int) := by rw [IntWalk.i64_in _ (by omega)]; omega
    have w2 : IntKind.i64.wrap ((n : Int) + (y : Int)) = ((n + y : Nat) : Int) := by rw [IntWalk.i64_in _ (by omega)]; omega
    have HZ : Hid (l + num ((s.bits.drop n).take y) ≤ 65538) := Lib.hid (by omega)
    have HY : Hid (y ≤ 16) := Lib.hid (by omega)
    clear q1 q2 q3 hz HO
    dsimp only [ansB]
    go_wp2_with fail
    refine (behind_any n y h (by have := HY.out; omega) hb).mono ?_
    rintro e w' ⟨h1, j, rfl⟩
    rcases h1 with ⟨h1, rfl⟩ | ⟨h1, rfl⟩
    · go_wp2_with fail
      exact ⟨rfl, .inr ⟨l, y, rfl, .inl ⟨h1, rfl, quiet_below _ _⟩⟩⟩
    · have HX := Lib.hid (h.out.drewN j)
      have h2' : (w.drewN j).cell? ⟨x, 2, none⟩ = some (.pointer (some ⟨d.f, 0, none⟩)) := HX.out.blk.cell 2
      generalize hN : num ((s.bits.drop n).take y) = N at *
      have HN := Lib.hid hN
      have hNb := HZ.out
      have w3 : IntKind.i64.wrap ((l : Int) + (N : Int)) = (l : Int) + (N : Int) := IntWalk.i64_in _ (by omega)
      clear hN
      go_wp2_with fail
      refine (skip_keep (n + y) HX h1 hb).mono ?_
      rintro e w2 ⟨rfl, c', F', H1, H2⟩
      go_wp2_with fail
      go_ret
      refine .inr ⟨l, y, rfl, .inr ⟨h1, ?_, c', F', H1, Lib.hid ((Mv.of_below (quiet_below w j) d.c).trans H2.out)⟩⟩
      rw [HN.out]
      exact ret_int (by simp)

/-- A call that throws, or a number that is read. -/
theorem value_throws (v n c : Nat) (h : Hid (At B w x s d)) (hn : n ≤ 15) (hb : s.bits.length ≤ 1000000000)
    (hc : InfMath.far v s.wide = none ∧ c = 2 ∨ ∃ l y, InfMath.far v s.wide = some (l, y) ∧ s.bits.length < n + y ∧ c = lack s) :
    Calls Tryz.prog 68 #[.pointer (some ⟨x, 0, none⟩), .int .i64 (v : Int), .int .i64 (n : Int), .func (.func 71) #[] #[]] w fun e w' => Thrown c e ∧ Below w.heap.size w w' := by
  refine (value_keep v n h hn hb).mono ?_
  rintro e w' (⟨h1, h2, h3⟩ | ⟨l, y, h1, (⟨h2, h3, h4⟩ | ⟨h2, _⟩)⟩)
  · rcases hc with ⟨_, rfl⟩ | ⟨l, y, h4, _⟩
    · exact ⟨h2, by rw [h3]; exact Below.refl _ _⟩
    · rw [h1] at h4; cases h4
  · rcases hc with ⟨h5, _⟩ | ⟨l', y', h5, h6, rfl⟩
    · rw [h1] at h5; cases h5
    · exact ⟨h3, h4⟩
  · rcases hc with ⟨h5, _⟩ | ⟨l', y', h5, h6, _⟩
    · rw [h1] at h5; cases h5
    · rw [h1] at h5
      injection h5 with h5
      injection h5 with h5 h7
      omega
theorem value_reads (v n l y : Nat) (h : Hid (At B w x s d)) (hn : n ≤ 15) (hb : s.bits.length ≤ 1000000000) (hf : InfMath.far v s.wide = some (l, y)) (hl : n + y ≤ s.bits.length) :
    Calls Tryz.prog 68 #[.pointer (some ⟨x, 0, none⟩), .int .i64 (v : Int), .int .i64 (n : Int), .func (.func 71) #[] #[]] w fun e w' => e = .returned (.int .i64 ((l + num ((s.bits.drop n).take y) : Nat) : Int)) ∧ ∃ c F, Hid (At B w' x { s with bits := s.bits.drop (n + y) } { d with c := c, F := F }) ∧ Hid (Mv d.c c w w') := by
  refine (value_keep v n h hn hb).mono ?_
  rintro e w' (⟨h1, h2, h3⟩ | ⟨l', y', h1, (⟨h2, _⟩ | ⟨_, h2, h3⟩)⟩)
  · rw [hf] at h1; cases h1
  · rw [hf] at h1
    injection h1 with h1
    injection h1 with h1 h4
    omega
  · rw [hf] at h1
    injection h1 with h1
    injection h1 with h1 h4
    subst h1 h4
    exact ⟨h2, h3⟩

/-- What a copy out of the window leaves. -/
def CopyAt (B x : Nat) (s : M) (d : Ad) (w : World) (D m : Nat) (bv cv : Value) (w' : World) : Prop :=
  (min s.hist.length s.size < D ∧ cv = .int .i64 2 ∧ ∃ d', At B w' x s d' ∧ Mv d.c d'.c w w') ∨
  (D ≤ min s.hist.length s.size ∧ cv = .int .i64 0 ∧ ∃ b d', bv = .slice (some ⟨b, 0, none⟩) m m ∧ Bytes w' (some ⟨b, 0, none⟩) m m (copy s.hist D m) ∧ At B w' x { s with hist := grow s.hist D m } d' ∧ Mv d.c d'.c w w')
theorem CopyAt.of {c2 : Nat → Nat} {F2 : Nat → Prop} {w1 w' : World} {D m : Nat} {bv cv : Value} (mv : Mv d.c c2 w w1) (h : CopyAt B x s { d with c := c2, F := F2 } w1 D m bv cv w') : CopyAt B x s d w D m bv cv w' := by
  rcases h with ⟨h1, h2, d', h3, h4⟩ | ⟨h1, h2, b, d', h3, h4, h5, h6⟩
  · exact .inl ⟨h1, h2, d', h3, mv.trans h4⟩
  · exact .inr ⟨h1, h2, b, d', h3, h4, h5, mv.trans h6⟩
theorem copy_at (D m : Nat) (h : At B w x s d) (hD : 1 ≤ D) (hm : m ≤ 65538) (hh : s.hist.length ≤ 2000000000) :
    Calls Tryz.prog 70 #[.pointer (some ⟨d.g, 0, none⟩), .int .i64 (D : Int), .int .i64 (m : Int)] w fun e w' => ∃ bv cv, e = .returned (.tuple #[bv, cv]) ∧ CopyAt B x s d w D m bv cv w' := by
  by_cases hle : D ≤ min s.hist.length s.size
  · refine (WinC.copy_ok D m _ _ _ _ _ w h.rs.win.1 hm hD hle (by omega)).mono ?_
    rintro e w' ⟨b, rfl, ho, hl⟩
    obtain ⟨d', h1, h2, -, -⟩ := h.wind hl
    exact ⟨_, _, rfl, .inr ⟨hle, rfl, b, d', rfl, own_bytes ho (copy_len _ _ _), h1, h2⟩⟩
  · refine (WinC.copy_form (D : Int) (m : Int) _ _ _ _ _ w h.rs.win.1 (by omega) (by omega) (.inr (by omega))).mono ?_
    rintro e w' ⟨rfl, rfl⟩
    exact ⟨_, _, rfl, .inl ⟨by omega, rfl, d, h, Mv.refl _ _⟩⟩

set_option maxRecDepth 100000 in
set_option maxHeartbeats 4000000 in
theorem distance_any (h : Hid (At B w x s d)) (hok : Ok s) (hn : s.next = 10) (hr : s.total + s.matching ≤ s.most) :
    Calls Tryz.prog 50 #[.pointer (some ⟨x, 0, none⟩)] w (Goes B x s d w) := by
  obtain ⟨ls, ds, hls, hds, hck, hcd⟩ := hok.lit (.inr hn)
  have hb : s.bits.length ≤ 1000000000 := by have := hok.bnd; have := hok.psh; omega
  have HS : Hid (InfMath.step s = if (InfMath.sym ds s.bits).2.2 ≠ 0 then .halt (InfMath.bad s (InfMath.sym ds s.bits).2.2) else InfMath.readDist s (InfMath.sym ds s.bits).1 (InfMath.sym ds s.bits).2.1) := Lib.hid (by
    unfold InfMath.step; rw [hn]
    show InfMath.readDistance s = _
    unfold InfMath.readDistance
    rw [if_neg (by omega), hds]; rfl)
  obtain ⟨g, hg, ht⟩ := h.out.rs.t5.get hds
  have h17 : w.cell? ⟨x, 17, none⟩ = some (.pointer (some ⟨g, 0, none⟩)) := by have := h.out.blk.cell 17; rw [this]; show some (ptr d.dt) = _; rw [hg]; rfl
  have HQ := Lib.hid (symbol_any g 6 ds h ht hcd (by omega) (by omega) hb)
  have hhist : s.hist.length ≤ 1073741824 := by have := hok.tot; have := hok.room; have := hok.most; omega
  have hroom := hok.room
  have hmost := hok.most
  have houtl := hok.outl
  have hmat := hok.mat hn
  clear ht hg hls hds hck
  go_enter Tryz.func50, Tryz.ntmps50
  go_wp2_with fail
  refine HQ.out.mono ?_
  rintro e w1 ⟨hsym, hb1⟩
  have H1 := Lib.hid (h.out.later hb1)
  have M1 := Lib.hid (Mv.of_below hb1 d.c)
  clear hb1 h17 HQ
  rcases hsym with ⟨hc0, rfl⟩ | ⟨hc0, rfl⟩
  · go_wp2_with fail
    refine ⟨rfl, Goes.halt ?_ H1 M1 rfl⟩
    rw [HS.out, if_pos hc0]
  · obtain ⟨-, -, s1, s2, s3, s4⟩ := InfMath.sym_ok hc0
    have HS2 : Hid (InfMath.step s = InfMath.readDist s (InfMath.sym ds s.bits).1 (InfMath.sym ds s.bits).2.1) := Lib.hid (by
      rw [HS.out, if_neg (by omega)])
    obtain ⟨v, hv⟩ : ∃ v, v = (InfMath.sym ds s.bits).1 := ⟨_, rfl⟩
    obtain ⟨n, hnq⟩ : ∃ n, n = (InfMath.sym ds s.bits).2.1 := ⟨_, rfl⟩
    rw [← hv] at HS2 s4 ⊢
    rw [← hnq] at HS2 s1 s2 s3 ⊢
    clear hc0 hv hnq HS hcd h
    have h3 : w1.drew.cell? ⟨x, 3, none⟩ = some (.pointer (some ⟨d.g, 0, none⟩)) := H1.out.blk.cell 3
    have h18 : w1.drew.cell? ⟨x, 18, none⟩ = some (.int .i64 (s.matching : Int)) := H1.out.blk.cell 18
    have HD : Hid (At B w1.drew x s d) := Lib.hid (H1.out.drewN 1)
    have MD : Hid (Mv d.c d.c w w1.drew) := Lib.hid (M1.out.drewN 1)
    go_upto_region 1 with (fail)
    by_cases hbad : ∃ c, (InfMath.far v s.wide = none ∧ c = 2 ∨ ∃ l y, InfMath.far v s.wide = some (l, y) ∧ s.bits.length < n + y ∧ c = lack s)
    · obtain ⟨c, hc⟩ := hbad
      have HT := Lib.hid (value_throws v n c HD s3 hb hc)
      have HSt : Hid (InfMath.step s = .halt c) := Lib.hid (by
        rw [HS2.out]
        unfold InfMath.readDist
        rcases hc with ⟨h1, rfl⟩ | ⟨l, y, h1, h2, rfl⟩
        · rw [h1]
        · rw [h1]
          exact if_pos h2)
      have hSS : w1.drew.cell? ⟨x, 3, none⟩ = some (.pointer (some ⟨d.g, 0, none⟩)) ∧ w1.drew.cell? ⟨x, 18, none⟩ = some (.int .i64 (s.matching : Int)) := ⟨h3, h18⟩
      refine wp_region_held (S := fun w' => w'.cell? ⟨x, 3, none⟩ = some (.pointer (some ⟨d.g, 0, none⟩)) ∧ w'.cell? ⟨x, 18, none⟩ = some (.int .i64 (s.matching : Int))) (by kernel_rfl) ?_
      change wpAnyH _ _ _ _ _ 18 _ _ w1.drew
      refine ord_take (i := 0) (d := some 17) (.pointer (some ⟨x, 0, none⟩)) rfl (by kernel_rfl) (by kernel_rfl) (by kernel_rfl) (by kernel_rfl) (fun _ _ _ h => h) (by kernel_rfl) (fun w _ => by kernel_rfl) hSS ?_
      refine ord_take (i := 1) (d := some 18) (.pointer (some ⟨x, 0, none⟩)) rfl (by kernel_rfl) (by kernel_rfl) (by kernel_rfl) (by kernel_rfl) (fun _ _ _ h => h) (by kernel_rfl) (fun w _ => by kernel_rfl) hSS ?_
      refine ord_take (i := 2) (d := some 19) (.pointer (some ⟨x, 3, none⟩)) rfl (by kernel_rfl) (by kernel_rfl) (by kernel_rfl) (by kernel_rfl) (fun _ _ _ h => h) (by kernel_rfl) (fun w _ => by kernel_rfl) hSS ?_
      refine ord_take (i := 3) (d := some 20) (.pointer (some ⟨d.g, 0, none⟩)) rfl (by kernel_rfl) (by kernel_rfl) (by kernel_rfl) (by kernel_rfl) (fun _ _ _ h => h) (by kernel_rfl) (fun w' hw' => by have hc3 := hw'.1; go_simp) hSS ?_
      refine ord_take (i := 4) (d := some 21) (.pointer (some ⟨x, 0, none⟩)) rfl (by kernel_rfl) (by kernel_rfl) (by kernel_rfl) (by kernel_rfl) (fun _ _ _ h => h) (by kernel_rfl) (fun w _ => by kernel_rfl) hSS ?_
      refine ord_take (i := 5) (d := some 22) (.int .i64 (v : Int)) rfl (by kernel_rfl) (by kernel_rfl) (by kernel_rfl) (by kernel_rfl) (fun _ _ _ h => h) (by kernel_rfl) (fun w _ => by kernel_rfl) hSS ?_
      refine ord_take (i := 6) (d := some 23) (.int .i64 (n : Int)) rfl (by kernel_rfl) (by kernel_rfl) (by kernel_rfl) (by kernel_rfl) (fun _ _ _ h => h) (by kernel_rfl) (fun w _ => by kernel_rfl) hSS ?_
      refine ord_take (i := 8) (d := some 25) (.pointer (some ⟨x, 0, none⟩)) rfl (by kernel_rfl) (by kernel_rfl) (by kernel_rfl) (by kernel_rfl) (fun _ _ _ h => h) (by kernel_rfl) (fun w _ => by kernel_rfl) hSS ?_
      refine ord_take (i := 9) (d := some 26) (.pointer (some ⟨x, 0, none⟩)) rfl (by kernel_rfl) (by kernel_rfl) (by kernel_rfl) (by kernel_rfl) (fun _ _ _ h => h) (by kernel_rfl) (fun w _ => by kernel_rfl) hSS ?_
      refine ord_take (i := 10) (d := some 27) (.pointer (some ⟨x, 18, none⟩)) rfl (by kernel_rfl) (by kernel_rfl) (by kernel_rfl) (by kernel_rfl) (fun _ _ _ h => h) (by kernel_rfl) (fun w _ => by kernel_rfl) hSS ?_
      refine ord_take (i := 11) (d := some 28) (.int .i64 (s.matching : Int)) rfl (by kernel_rfl) (by kernel_rfl) (by kernel_rfl) (by kernel_rfl) (fun _ _ _ h => h) (by kernel_rfl) (fun w' hw' => by have hc18 := hw'.2; go_simp) hSS ?_
      refine ord_alone (i := 7) rfl (by kernel_rfl) (by kernel_rfl) ?_
      refine wp_throw (by kernel_rfl) HT.out ?_
      rintro e w2 ⟨rfl, hb2⟩
      exact ⟨_, rfl, And.intro rfl (Goes.halt HSt.out (Lib.hid (HD.out.later hb2)) (Lib.hid (MD.out.trans (Mv.of_below hb2 d.c))) rfl)⟩
    · obtain ⟨l, y, hf⟩ : ∃ l y, InfMath.far v s.wide = some (l, y) := by
        cases hf : InfMath.far v s.wide with
        | none => exact absurd ⟨2, .inl ⟨hf, rfl⟩⟩ hbad
        | some p => exact ⟨p.1, p.2, rfl⟩
      have hly : n + y ≤ s.bits.length := by
        apply Nat.le_of_not_lt
        intro hlt
        exact hbad ⟨_, .inr ⟨l, y, hf, hlt, rfl⟩⟩
      have hfl := InfMath.far_le hf
      have HVal := Lib.hid (value_reads v n l y HD s3 hb hf hly)
      have hz := InfMath.num_take_lt (s.bits.drop n) y
      obtain ⟨D, hD⟩ : ∃ D, D = l + num ((s.bits.drop n).take y) := ⟨_, rfl⟩
      have HSt : Hid (InfMath.step s = InfMath.copied s D (n + y)) := Lib.hid (by
        rw [HS2.out]
        unfold InfMath.readDist
        rw [hf]
        show (if s.bits.length < n + y then _ else _) = _
        rw [if_neg (by omega), hD])
      rw [← hD] at HVal
      have hD1 : 1 ≤ D ∧ D ≤ 65537 := by omega
      clear hD hz hfl hf hbad HS2
      go_cut [4, 5] (fun bv cv wx => CopyAt B x { s with bits := s.bits.drop (n + y) } d w1 D s.matching bv cv wx)
      case first =>
        go_region_law (go_simp; first
          | (go_at_call 68; refine HVal.out.mono ?_; rintro e w2 ⟨rfl, c2, F2, H2, M2⟩; have h3b : w2.cell? ⟨x, 3, none⟩ = some (.pointer (some ⟨d.g, 0, none⟩)) := H2.out.blk.cell 3; have h18b : w2.cell? ⟨x, 18, none⟩ = some (.int .i64 (s.matching : Int)) := H2.out.blk.cell 18)
          | (go_at_call 70; refine (copy_at D s.matching H2.out hD1.1 hmat.2 (by simp only; omega)).mono ?_; rintro e w3 ⟨bv, cv, rfl, hcp⟩))
        all_goals
          have hcq := hcp.of M2.out.of_drew
          have HCQ := Lib.hid hcq
          clear hcp hcq
          go_wp2_with fail
          go_meet
          case rel => exact HCQ.out
      case rest =>
        rcases hcut with ⟨hlt, rfl, d2, hA, hM⟩ | ⟨hle, rfl, b, d2, rfl, hby, hA, hM⟩
        · have H2 := Lib.hid hA
          have M2 := Lib.hid (M1.out.trans hM)
          clear hA hM h3 h18 HD MD H1 M1
          go_wp2_with fail
          refine (fail_any 2 wc).mono ?_
          rintro e w' ⟨rfl, rfl⟩
          go_wp2_with fail
          refine ⟨rfl, Goes.fail ?_ (by decide) H2 rfl rfl M2 rfl⟩
          rw [HSt.out]; unfold InfMath.copied; exact if_pos hlt
        · have H2 := Lib.hid hA
          have M2 := Lib.hid (M1.out.trans hM)
          have HBY := Lib.hid hby
          have h4 : wc.cell? ⟨x, 4, none⟩ = some (.slice d2.oa s.out.length d2.oc) := hA.blk.cell 4
          have hB : B ≤ wc.heap.size := hA.rs.lt
          have HO := Lib.hid hA.rs.out.1
          clear hA hM hby h3 h18 HD MD H1 M1
          go_wp2_with (at_builtin; refine wpList_append_lie (by rfl) (.tmp 40) (.tmp 41) 22 (by rfl) B 5 Tryz.underlying22 WinC.info5 (.slice d2.oa s.out.length d2.oc) s.out (by rfl) HO.out (some ⟨b, 0, none⟩) s.matching s.matching (copy s.hist D s.matching) (by rfl) HBY.out (by omega) hB ?_)
          intro a3 c3 w3 hown hgrow hnext
          have hb3 := H2.out.app_blk hgrow
          have h43 : w3.cell? ⟨x, 4, none⟩ = some (.slice d2.oa s.out.length d2.oc) := hb3.cell 4
          have f43 := hb3.frozen 4
          obtain ⟨d4, hA4, hM4⟩ := H2.out.app (l2 := copy s.hist D s.matching) (m := s.matching) (copy_len _ _ _) hown hgrow (Nat.le_refl _) hnext
          have h5 : (w3.setCell ⟨x, 4, none⟩ (.slice a3 (s.out.length + s.matching) c3)).cell? ⟨x, 5, none⟩ = some (.int .i64 (s.total : Int)) := hA4.blk.cell 5
          have f5 := hA4.blk.frozen 5
          have w5' : IntKind.i64.wrap ((s.total : Int) + (s.matching : Int)) = (s.total : Int) + (s.matching : Int) := IntWalk.i64_in _ (by omega)
          have hA5 := hA4.set 5 (.int .i64 ((s.total : Int) + (s.matching : Int))) { s with bits := s.bits.drop (n + y), hist := grow s.hist D s.matching, out := s.out ++ copy s.hist D s.matching, total := s.total + s.matching } (by unfold cells; rw [show ((s.total + s.matching : Nat) : Int) = (s.total : Int) + (s.matching : Int) from by omega]; rfl) ⟨rfl, rfl, rfl, rfl, rfl, rfl, rfl, rfl, rfl, rfl, rfl⟩
          have hM5 := M2.out.trans (hM4.trans (hA4.set_mv 5 (.int .i64 ((s.total : Int) + (s.matching : Int)))))
          have h6 : ((w3.setCell ⟨x, 4, none⟩ (.slice a3 (s.out.length + s.matching) c3)).setCell ⟨x, 5, none⟩ (.int .i64 ((s.total : Int) + (s.matching : Int)))).cell? ⟨x, 6, none⟩ = some (.int .i64 (s.next : Int)) := hA5.blk.cell 6
          have f6 := hA5.blk.frozen 6
          have H6 := Lib.hid (hA5.set 6 (.int .i64 9) { s with bits := s.bits.drop (n + y), hist := grow s.hist D s.matching, out := s.out ++ copy s.hist D s.matching, total := s.total + s.matching, next := 9 } rfl ⟨rfl, rfl, rfl, rfl, rfl, rfl, rfl, rfl, rfl, rfl, rfl⟩)
          have M6 := Lib.hid (hM5.trans (hA5.set_mv 6 (.int .i64 9)))
          clear hA4 hM4 hA5 hM5 hb3 hown hgrow hnext HO HBY H2 M2 h4
          go_wp2_with fail
          go_end0
          refine Goes.more ?_ H6 M6
          rw [HSt.out]; unfold InfMath.copied; rw [if_neg (by omega)]
end
end Go.Proofs.YtjejlhpnhkacmaaGreatDoor.InfC
end

section
/-
  step, run.
-/
namespace Go.Proofs.YtjejlhpnhkacmaaGreatDoor.InfC
open Go.RowKit Go.My BitMath CanMath TabMath WinMath FeedC TabC CanC
open WinC (Wn)
open InfMath (M Ok CodeOk mu lack fixL fixD)

/-- How many bits a feed has, out of memory. -/
def feedBits (w : World) (f : Nat) : Nat :=
  match w.cell? ⟨f, 1, none⟩, w.cell? ⟨f, 2, none⟩ with
  | some (.int _ c), some (.pointer (some p)) => (match w.cell? ⟨p.block, 2, none⟩ with | some (.int _ n) => c.toNat + 8 * n.toNat | _ => 0)
  | _, _ => 0
theorem feedBits_of {B f p : Nat} {w : World} {F : Nat → Prop} {bs : List Bool} {e : Bool} (h : Fed B w f F bs p e) : feedBits w f = bs.length := by
  obtain ⟨q, ps, word, count, h1, h2, h3, rfl⟩ := h
  have e1 : w.cell? ⟨f, 1, none⟩ = some (.int .i64 (count : Int)) := h1.blk.cell 1
  have e2 : w.cell? ⟨f, 2, none⟩ = some (.pointer (some ⟨q, 0, none⟩)) := h1.blk.cell 2
  have e3 : w.cell? ⟨q, 2, none⟩ = some (.int .i64 ((cat ps).length : Int)) := h1.que.blk.cell 2
  unfold feedBits
  rw [e1, e2]
  simp only
  rw [e3, h3, bits_len]
  simp
/-- How far it is to the end, out of memory. -/
def muAt (w : World) (x : Nat) : Nat :=
  match w.cell? ⟨x, 2, none⟩, w.cell? ⟨x, 6, none⟩ with
  | some (.pointer (some p)), some (.int _ n) => 8 * feedBits w p.block + InfMath.rank n.toNat
  | _, _ => 0
theorem muAt_of {B x : Nat} {w : World} {s : M} {d : Ad} (h : At B w x s d) : muAt w x = mu s := by
  have e1 : w.cell? ⟨x, 2, none⟩ = some (.pointer (some ⟨d.f, 0, none⟩)) := h.blk.cell 2
  have e2 : w.cell? ⟨x, 6, none⟩ = some (.int .i64 (s.next : Int)) := h.blk.cell 6
  unfold muAt
  rw [e1, e2]
  simp only
  rw [feedBits_of h.rs.feed.1]
  rfl

/-- There is room for the match that is read. -/
def Rm (s : M) : Prop := s.next = 10 → s.total + s.matching ≤ s.most
theorem Goes.ends {B x : Nat} {w w' : World} {s : M} {d : Ad} {e : Ending} (h : Goes B x s d w e w') : e = .returned (.tuple #[]) ∨ ∃ c, e = .panicked [{ v := fault c, recovered := false }] := by
  obtain ⟨_, _, ⟨h1, _⟩ | ⟨c, _, _, h1, _⟩⟩ := h
  · exact .inl h1
  · exact .inr ⟨c, h1⟩
section
variable {B x : Nat} {w : World} {s : M} {d : Ad}
set_option maxHeartbeats 2000000 in
theorem step_any (h : Hid (At B w x s d)) (hok : Ok s) (hr : Rm s) (hO : Ordr B w) (hn : s.next ≠ 11) :
    Calls Tryz.prog 28 #[.pointer (some ⟨x, 0, none⟩)] w (Goes B x s d w) := by
  have hb : s.bits.length ≤ 1000000000 := by have := hok.bnd; have := hok.psh; omega
  have h6 : w.cell? ⟨x, 6, none⟩ = some (.int .i64 (s.next : Int)) := h.out.blk.cell 6
  have h1 := hok.next1
  have h2 := hok.next2
  have hcase : (s.next = 1 ∨ s.next = 2 ∨ s.next = 3 ∨ s.next = 4 ∨ s.next = 5 ∨ s.next = 6 ∨ s.next = 7 ∨ s.next = 8 ∨ s.next = 9 ∨ s.next = 10) := by omega
  have HC : Hid (
      (s.next = 1 → Calls Tryz.prog 43 #[.pointer (some ⟨x, 0, none⟩)] w (Goes B x s d w)) ∧
      (s.next = 2 → Calls Tryz.prog 44 #[.pointer (some ⟨x, 0, none⟩)] w (Goes B x s d w)) ∧
      (s.next = 3 → Calls Tryz.prog 45 #[.pointer (some ⟨x, 0, none⟩)] w (Goes B x s d w)) ∧
      (s.next = 4 ∨ s.next = 5 ∨ s.next = 6 → Calls Tryz.prog 46 #[.pointer (some ⟨x, 0, none⟩)] w (Goes B x s d w)) ∧
      (s.next = 7 → Calls Tryz.prog 47 #[.pointer (some ⟨x, 0, none⟩)] w (Goes B x s d w)) ∧
      (s.next = 8 → Calls Tryz.prog 48 #[.pointer (some ⟨x, 0, none⟩)] w (Goes B x s d w)) ∧
      (s.next = 9 → Calls Tryz.prog 49 #[.pointer (some ⟨x, 0, none⟩)] w (Goes B x s d w)) ∧
      (s.next = 10 → Calls Tryz.prog 50 #[.pointer (some ⟨x, 0, none⟩)] w (Goes B x s d w))) := Lib.hid
    ⟨fun e => open_any h e hb, fun e => size_any h e hb, fun e => bytes_any h hok e, fun e => by
      rcases e with e | e | e
      · exact count4 h e hb
      · exact count5 h e hb
      · exact count6 h e hb, fun e => codelens_any h hok e hO, fun e => lengths_any h hok e, fun e => literal_any h hok e, fun e => distance_any h hok e (hr e)⟩
  obtain ⟨N, hN⟩ : ∃ N, N = s.next := ⟨_, rfl⟩
  rw [← hN] at h6 hcase HC
  clear h hok hr hO hn hb h1 h2 hN
  rcases hcase with rfl | rfl | rfl | rfl | rfl | rfl | rfl | rfl | rfl | rfl
  · have HQ := Lib.hid (HC.out.1 rfl)
    clear HC
    go_enter Tryz.func28, Tryz.ntmps28
    go_wp2_with fail
    refine HQ.out.mono ?_
    intro e w' hg
    have HG := Lib.hid hg
    rcases hg.ends with rfl | ⟨c, rfl⟩
    · clear hg
      go_wp2_with fail
      go_end0
      exact HG.out
    · clear hg
      go_wp2_with fail
      exact ⟨rfl, HG.out⟩
  · have HQ := Lib.hid (HC.out.2.1 rfl)
    clear HC
    go_enter Tryz.func28, Tryz.ntmps28
    go_wp2_with fail
    refine HQ.out.mono ?_
    intro e w' hg
    have HG := Lib.hid hg
    rcases hg.ends with rfl | ⟨c, rfl⟩
    · clear hg
      go_wp2_with fail
      go_end0
      exact HG.out
    · clear hg
      go_wp2_with fail
      exact ⟨rfl, HG.out⟩
  · have HQ := Lib.hid (HC.out.2.2.1 rfl)
    clear HC
    go_enter Tryz.func28, Tryz.ntmps28
    go_wp2_with fail
    refine HQ.out.mono ?_
    intro e w' hg
    have HG := Lib.hid hg
    rcases hg.ends with rfl | ⟨c, rfl⟩
    · clear hg
      go_wp2_with fail
      go_end0
      exact HG.out
    · clear hg
      go_wp2_with fail
      exact ⟨rfl, HG.out⟩
  · have HQ := Lib.hid (HC.out.2.2.2.1 (.inl rfl))
    clear HC
    go_enter Tryz.func28, Tryz.ntmps28
    go_wp2_with fail
    refine HQ.out.mono ?_
    intro e w' hg
    have HG := Lib.hid hg
    rcases hg.ends with rfl | ⟨c, rfl⟩
    · clear hg
      go_wp2_with fail
      go_end0
      exact HG.out
    · clear hg
      go_wp2_with fail
      exact ⟨rfl, HG.out⟩
  · have HQ := Lib.hid (HC.out.2.2.2.1 (.inr (.inl rfl)))
    clear HC
    go_enter Tryz.func28, Tryz.ntmps28
    go_wp2_with fail
    refine HQ.out.mono ?_
    intro e w' hg
    have HG := Lib.hid hg
    rcases hg.ends with rfl | ⟨c, rfl⟩
    · clear hg
      go_wp2_with fail
      go_end0
      exact HG.out
    · clear hg
      go_wp2_with fail
      exact ⟨rfl, HG.out⟩
  · have HQ := Lib.hid (HC.out.2.2.2.1 (.inr (.inr rfl)))
    clear HC
    go_enter Tryz.func28, Tryz.ntmps28
    go_wp2_with fail
    refine HQ.out.mono ?_
    intro e w' hg
    have HG := Lib.hid hg
    rcases hg.ends with rfl | ⟨c, rfl⟩
    · clear hg
      go_wp2_with fail
      go_end0
      exact HG.out
    · clear hg
      go_wp2_with fail
      exact ⟨rfl, HG.out⟩
  · have HQ := Lib.hid (HC.out.2.2.2.2.1 rfl)
    clear HC
    go_enter Tryz.func28, Tryz.ntmps28
    go_wp2_with fail
    refine HQ.out.mono ?_
    intro e w' hg
    have HG := Lib.hid hg
    rcases hg.ends with rfl | ⟨c, rfl⟩
    · clear hg
      go_wp2_with fail
      go_end0
      exact HG.out
    · clear hg
      go_wp2_with fail
      exact ⟨rfl, HG.out⟩
  · have HQ := Lib.hid (HC.out.2.2.2.2.2.1 rfl)
    clear HC
    go_enter Tryz.func28, Tryz.ntmps28
    go_wp2_with fail
    refine HQ.out.mono ?_
    intro e w' hg
    have HG := Lib.hid hg
    rcases hg.ends with rfl | ⟨c, rfl⟩
    · clear hg
      go_wp2_with fail
      go_end0
      exact HG.out
    · clear hg
      go_wp2_with fail
      exact ⟨rfl, HG.out⟩
  · have HQ := Lib.hid (HC.out.2.2.2.2.2.2.1 rfl)
    clear HC
    go_enter Tryz.func28, Tryz.ntmps28
    go_wp2_with fail
    refine HQ.out.mono ?_
    intro e w' hg
    have HG := Lib.hid hg
    rcases hg.ends with rfl | ⟨c, rfl⟩
    · clear hg
      go_wp2_with fail
      go_end0
      exact HG.out
    · clear hg
      go_wp2_with fail
      exact ⟨rfl, HG.out⟩
  · have HQ := Lib.hid (HC.out.2.2.2.2.2.2.2 rfl)
    clear HC
    go_enter Tryz.func28, Tryz.ntmps28
    go_wp2_with fail
    refine HQ.out.mono ?_
    intro e w' hg
    have HG := Lib.hid hg
    rcases hg.ends with rfl | ⟨c, rfl⟩
    · clear hg
      go_wp2_with fail
      go_end0
      exact HG.out
    · clear hg
      go_wp2_with fail
      exact ⟨rfl, HG.out⟩

/-- Where run comes to. -/
def RunTo (B x : Nat) (s : M) (d : Ad) (w : World) (e : Ending) (w' : World) : Prop :=
  ∃ c t t' d', Hid (Mv d.c d'.c w w') ∧ (e = .returned (.tuple #[]) ∧ c = 0 ∨ Thrown c e) ∧ InfMath.Ends s t c ∧ Hid (At B w' x t' d') ∧ t'.out = t.out ∧ t'.total = t.total ∧ (c = 5 ∨ c = 0 → t' = t)
def Runs (B x : Nat) (s : M) (d : Ad) (w : World) (t : M) (d' : Ad) (w' : World) : Prop :=
  InfMath.Steps s t ∧ Ok t ∧ Rm t ∧ At B w' x t d' ∧ Mv d.c d'.c w w'
set_option maxHeartbeats 2000000 in
theorem run_any (h : Hid (At B w x s d)) (hok : Ok s) (hr : Rm s) (hO : Ordr B w) :
    Calls Tryz.prog 18 #[.pointer (some ⟨x, 0, none⟩)] w (RunTo B x s d w) := by
  have HOrd : Hid (Ordr B w ∧ (∀ k, k < B → d.c k = 0) ∧ B ≤ w.heap.size) := Lib.hid ⟨hO, h.out.rs.low, h.out.rs.lt⟩
  have HST : Hid (Runs B x s d w s d w) := Lib.hid ⟨.refl _, hok, hr, h.out, Mv.refl _ _⟩
  clear h hok hr hO
  go_enter Tryz.func18, Tryz.ntmps18
  go_wp2_with fail
  go_loopw [] (fun wr => ∃ t d', Hid (Runs B x s d w t d' wr)) (fun wr => muAt wr x)
  case atStart => exact ⟨s, d, HST⟩
  case round =>
    clear HST
    obtain ⟨t, d1, HR⟩ := hrel
    have h6 : wr.cell? ⟨x, 6, none⟩ = some (.int .i64 (t.next : Int)) := HR.out.2.2.2.1.blk.cell 6
    by_cases h11 : t.next = 11
    · have hz : ((t.next : Int) != 11) = false := by simp; omega
      go_wp2_with fail
      go_end0
      exact ⟨0, t, t, d1, Lib.hid HR.out.2.2.2.2, .inl ⟨rfl, rfl⟩, ⟨HR.out.1, InfMath.over_halts h11⟩, Lib.hid HR.out.2.2.2.1, rfl, rfl, fun _ => rfl⟩
    · have hz : ((t.next : Int) != 11) = true := by simp; omega
      have HQ := Lib.hid (step_any (Lib.hid HR.out.2.2.2.1) HR.out.2.1 HR.out.2.2.1 (HOrd.out.1.mv HOrd.out.2.1 HOrd.out.2.2 HR.out.2.2.2.2) h11)
      have HMU := Lib.hid (muAt_of HR.out.2.2.2.1)
      clear h11
      go_wp2_with fail
      refine HQ.out.mono ?_
      rintro e w2 ⟨d2, M2, hg⟩
      rcases hg with ⟨rfl, t2, hst, hrm, H2⟩ | ⟨c, t2, t3, rfl, hen, H2, ho, hto, h5⟩
      · have hmu : mu t2 < mu t := by
          obtain ⟨u, h1, h2⟩ := hst
          have := InfMath.mu_step h1
          have := InfMath.mu_steps h2
          omega
        have hsteps : InfMath.Steps t t2 := by
          obtain ⟨u, h1, h2⟩ := hst
          exact .cons h1 h2
        have HRR : Hid (Runs B x s d w t2 d2 w2) := Lib.hid ⟨HR.out.1.trans hsteps, HR.out.2.1.steps hsteps, hrm, H2.out, HR.out.2.2.2.2.trans M2.out⟩
        have HME := Lib.hid (And.intro (muAt_of H2.out) hmu)
        clear hst hrm hmu hsteps HQ
        go_wp2_with fail
        go_roundw
        case rel => exact ⟨_, d2, HRR⟩
        case measure => rw [HME.out.1, HMU.out]; exact HME.out.2
      · go_wp2_with fail
        exact ⟨rfl, c, t2, t3, d2, Lib.hid (HR.out.2.2.2.2.trans M2.out), .inr rfl, hen.of HR.out.1, H2, ho, hto, h5⟩
end
end Go.Proofs.YtjejlhpnhkacmaaGreatDoor.InfC
end

section
/-
  A region that draws its order in a deferred function, where recover is one of its operations. No program.
-/
namespace Go
section
variable {P : Program} {ops : Array Oper} {Q : Exit → Act → List Frame → World → Prop} {md : Region.Mode}
/-- One operation of such a region. -/
def wpOpR (P : Program) (ops : Array Oper) (Q : Exit → Act → List Frame → World → Prop) (i : Nat) (K : Act → List Frame → World → Prop) (a : Act) (cs : List Frame) (w : World) : Prop :=
  match ops[i]? with
  | none => K a cs w
  | some o =>
    if Region.wanted o (yielded ops a.tmps) then
      match (execOp a.eval o).run P w with
      | .ok .recover w' =>
        match recoverD cs with
        | some (v, cs') => K (a.put o.dst v) cs' w'
        | none => K (a.put o.dst .nilIface) cs w'
      | r => o.upon P a (fun a' w' => K a' cs w') (fun e a' w' => Q e a' cs w') r
    else K (a.put o.dst undef) cs w
theorem wpOpsS_cons (i : Nat) (rest : List Nat) (a : Act) (cs : List Frame) (w : World) : wpOpsS P ops Q (i :: rest) a cs w = wpOpR P ops Q i (wpOpsS P ops Q rest) a cs w := by
  cases h : ops[i]? with
  | none => simp only [wpOpsS, wpOpR, h]
  | some o =>
    simp only [wpOpsS, wpOpR, h]
    by_cases hw : Region.wanted o (yielded ops a.tmps) = true
    · simp only [hw, if_true]
      generalize (execOp a.eval o).run P w = r
      cases r with
      | halt x w' => rfl
      | ok n w' =>
        cases n <;> rfl
    · simp only [hw, if_false, Bool.false_eq_true]
theorem upon_mono {o : Oper} {a : Act} {K K' : Act → World → Prop} {E : Exit → Act → World → Prop} (h : ∀ a w, K a w → K' a w) {r : Result Next} (hh : o.upon P a K E r) : o.upon P a K' E r := by
  cases r with
  | ok n w' =>
    cases n <;> simp only [Oper.upon] at hh ⊢ <;>
      first
        | exact h _ _ hh
        | exact Calls.mono hh (fun e w'' he => by cases e <;> first | exact h _ _ he | exact he)
        | exact Rows.mono hh (fun _ _ he => h _ _ he)
        | exact hh
  | halt x w' => cases x <;> simp only [Oper.upon] at hh ⊢ <;> exact hh
theorem wpOpR_mono {i : Nat} {a : Act} {cs : List Frame} {w : World} {K K' : Act → List Frame → World → Prop} (h : ∀ a cs w, K a cs w → K' a cs w) (hh : wpOpR P ops Q i K a cs w) : wpOpR P ops Q i K' a cs w := by
  unfold wpOpR at *
  cases ho : ops[i]? with
  | none => simp only [ho] at hh ⊢; exact h _ _ _ hh
  | some o =>
    simp only [ho] at hh ⊢
    by_cases hw : Region.wanted o (yielded ops a.tmps) = true
    · simp only [hw, if_true] at hh ⊢
      split at hh
      · split at hh
        · exact h _ _ _ hh
        · exact h _ _ _ hh
      · exact upon_mono (fun a w => h a cs w) hh
    · simp only [hw, if_false, Bool.false_eq_true] at hh ⊢
      exact h _ _ _ hh
/-- All orders. -/
def wpAnyR (P : Program) (md : Region.Mode) (ops : Array Oper) (Q : Exit → Act → List Frame → World → Prop) : Nat → Array Bool → Act → List Frame → World → Prop
  | 0, listed, a, cs, w => Region.ready md ops listed = [] ∧ Q .normal a cs w
  | fuel + 1, listed, a, cs, w =>
    (Region.ready md ops listed = [] → Q .normal a cs w) ∧
    ∀ i ∈ Region.ready md ops listed, wpOpR P ops Q i (wpAnyR P md ops Q fuel (listed.setIfInBounds i true)) a cs w
theorem wpAnyR_sound : ∀ (fuel t : Nat) (listed : Array Bool) (a : Act) (cs : List Frame) (w : World), wpAnyR P md ops Q fuel listed a cs w →
    wpOpsS P ops Q (Region.linearise.go md ops fuel t listed []) a cs w := by
  intro fuel
  induction fuel with
  | zero => intro t listed a cs w h; simpa [Region.linearise.go, wpOpsS] using h.2
  | succ fuel ih =>
    intro t listed a cs w h
    obtain ⟨h₀, h₁⟩ := h
    simp only [Region.linearise.go]
    change wpOpsS P ops Q (match (Region.ready md ops listed)[t % (Region.ready md ops listed).length]? with
      | some i => Region.linearise.go md ops fuel (t / (Region.ready md ops listed).length) (listed.setIfInBounds i true) [i]
      | none => [].reverse) a cs w
    cases hi : (Region.ready md ops listed)[t % (Region.ready md ops listed).length]? with
    | none =>
      have hnil : Region.ready md ops listed = [] := by
        cases hr : Region.ready md ops listed with
        | nil => rfl
        | cons x xs =>
          rw [hr] at hi
          have hlt : t % (x :: xs).length < (x :: xs).length := Nat.mod_lt _ (by simp)
          simp at hi
          simp at hlt
          omega
      simpa [wpOpsS] using h₀ hnil
    | some i =>
      simp only []
      rw [linearise_go_acc, List.reverse_singleton, List.singleton_append, wpOpsS_cons]
      exact wpOpR_mono (fun a cs w => ih _ _ a cs w) (h₁ i (List.mem_of_getElem? hi))
theorem wpS_region_any {id : Nat} {a : Act} {cs : List Frame} {w : World} (hm : P.follows .mixedOrders = true)
    (h : wpAnyR P .any ops Q ops.size (Array.replicate ops.size false) a cs { w with drawn := w.drawn + 1 }) : (Code.region id ops true).wpS P Q a cs w := by
  intro b k hb hr
  have h2 := wpAnyR_sound ops.size (w.tape w.drawn (.order b.fn id)) _ a cs _ h
  obtain ⟨e, a', cs', w', q, r⟩ := wp_opsS _ a cs _ h2 b k hb hr
  refine ⟨e, a', cs', w', q, .of_steps (.one step_region_draw) ?_⟩
  simp only [Region.schedule, hm, Bool.true_or, if_true]
  exact r
theorem wpAnyR_step {rs : List Nat} {fuel : Nat} {listed : Array Bool} {a : Act} {cs : List Frame} {w : World} (hr : Region.ready md ops listed = rs) (hne : rs ≠ [])
    (h : ∀ i ∈ rs, wpOpR P ops Q i (wpAnyR P md ops Q fuel (listed.setIfInBounds i true)) a cs w) : wpAnyR P md ops Q (fuel + 1) listed a cs w :=
  ⟨fun hh => absurd (hr.symm.trans hh) hne, fun i hi => h i (by rw [← hr]; exact hi)⟩
theorem wpAnyR_done {fuel : Nat} {listed : Array Bool} {a : Act} {cs : List Frame} {w : World} (hr : Region.ready md ops listed = []) (h : Q .normal a cs w) : wpAnyR P md ops Q fuel listed a cs w := by
  cases fuel with
  | zero => exact ⟨hr, h⟩
  | succ n => exact ⟨fun _ => h, fun i hi => by rw [hr] at hi; cases hi⟩
/-- What recover hands back, and the frames below. -/
def recov (cs : List Frame) : Value × List Frame := match recoverD cs with | some p => p | none => (.nilIface, cs)
theorem opR_recover {i : Nat} {o : Oper} {d : Option Tmp} {K : Act → List Frame → World → Prop} {a : Act} {cs : List Frame} {w : World} {v : Value} {cs' : List Frame} (hi : ops[i]? = some o) (hd : o.dst = d) (hw : Region.wanted o (yielded ops a.tmps) = true)
    (hr : (execOp a.eval o).run P w = .ok .recover w) (hc : recov cs = (v, cs')) (h : K (a.put d v) cs' w) : wpOpR P ops Q i K a cs w := by
  subst hd
  unfold wpOpR
  simp only [hi, hw, if_true, hr]
  unfold recov at hc
  cases hq : recoverD cs with
  | none =>
    rw [hq] at hc
    simp only [Prod.mk.injEq] at hc
    obtain ⟨rfl, rfl⟩ := hc
    exact h
  | some p =>
    obtain ⟨v2, cs2⟩ := p
    rw [hq] at hc
    simp only [Prod.mk.injEq] at hc
    obtain ⟨rfl, rfl⟩ := hc
    exact h
theorem opR_value {i : Nat} {o : Oper} {d : Option Tmp} {K : Act → List Frame → World → Prop} {a : Act} {cs : List Frame} {w w' : World} {v : Value} (hi : ops[i]? = some o) (hd : o.dst = d) (hw : Region.wanted o (yielded ops a.tmps) = true)
    (hr : (execOp a.eval o).run P w = .ok (.value v) w') (h : K (a.put d v) cs w') : wpOpR P ops Q i K a cs w := by
  subst hd
  unfold wpOpR
  simp only [hi, hw, if_true, hr, Oper.upon]
  exact h
theorem opR_skip {i : Nat} {o : Oper} {K : Act → List Frame → World → Prop} {a : Act} {cs : List Frame} {w w' : World} (hi : ops[i]? = some o) (hw : Region.wanted o (yielded ops a.tmps) = true)
    (hr : (execOp a.eval o).run P w = .ok .skip w') (h : K (a.put o.dst undef) cs w') : wpOpR P ops Q i K a cs w := by
  unfold wpOpR
  simp only [hi, hw, if_true, hr, Oper.upon]
  exact h
theorem opR_call {i : Nat} {o : Oper} {d : Option Tmp} {K : Act → List Frame → World → Prop} {a : Act} {cs : List Frame} {w : World} {f : FuncId} {args : Array Value} {R : Ending → World → Prop} (hi : ops[i]? = some o) (hd : o.dst = d) (hw : Region.wanted o (yielded ops a.tmps) = true)
    (hr : (execOp a.eval o).run P w = .ok (.enter f args) w) (hc : Calls P f args w R) (h : ∀ e w', R e w' → ∃ v, e = .returned v ∧ K (a.put d v) cs w') : wpOpR P ops Q i K a cs w := by
  subst hd
  unfold wpOpR
  simp only [hi, hw, if_true, hr, Oper.upon]
  exact hc.mono fun e w' hR => by obtain ⟨v, rfl, hK⟩ := h e w' hR; exact hK
end
end Go
end

section
/-
  caught, leave; ready; Used, Total.
-/
namespace Go.Proofs.YtjejlhpnhkacmaaGreatDoor.InfC
open Go.RowKit Go.My BitMath CanMath TabMath WinMath FeedC TabC CanC
open WinC (Wn)
open InfMath (M Ok CodeOk mu lack fixL fixD)

theorem caught_nil (w : World) : Calls Tryz.prog 16 #[.nilIface] w fun e w' => e = .returned (.int .i64 0) ∧ Below w.heap.size w w' := by
  go_enter Tryz.func16, Tryz.ntmps16
  go_wp2_with fail
  go_ret
  exact ⟨rfl, Below.refl _ _⟩
set_option maxRecDepth 100000 in
theorem caught_fault (c : Nat) (w : World) : Calls Tryz.prog 16 #[fault c] w fun e w' => e = .returned (.int .i64 (c : Int)) ∧ Below w.heap.size w w' := by
  unfold fault
  have hta : ∀ w, (Instr.typeAssert (.iface 77 (.agg #[.int .i64 (c : Int), .int .i64 0])) 20 77 true).run Tryz.prog w = .ok (.tuple #[.agg #[.int .i64 (c : Int), .int .i64 0], .bool true]) w := fun _ => by kernel_rfl
  go_enter Tryz.func16, Tryz.ntmps16
  go_wp2_with fail
  go_ret
  exact ⟨rfl, (Below.refl _ _).alloc (Nat.le_refl _) _⟩

/-- The cells of an Inflate that has ended. -/
def overCells (total c used : Nat) : Array Value :=
  #[.bool false, .int .i64 0, .pointer none, .pointer none, .slice none 0 0, .int .i64 (total : Int), .int .i64 11, .bool false, .int .i64 0,
    .int .i64 0, .int .i64 0, .int .i64 0, .slice none 0 0, .pointer none, .pointer none, .pointer none, .pointer none, .pointer none, .int .i64 0, .int .i64 (c : Int), .int .i64 (used : Int)]
theorem over_one (t c u : Nat) : (overCells t c u).all (·.oneCell') = true := by
  unfold overCells
  simp [Value.oneCell']
section
variable {B x : Nat} {w : World} {s : M} {d : Ad}
set_option maxHeartbeats 1000000 in
theorem leave_short (h : Hid (At B w x s d)) :
    Calls Tryz.prog 15 #[.pointer (some ⟨x, 0, none⟩), .int .i64 5] w fun e w' => e = .returned (.tuple #[.slice d.oa s.out.length d.oc, .int .i64 5]) ∧ w' = w.setCell ⟨x, 4, none⟩ (.slice none 0 0) := by
  have h4 : w.cell? ⟨x, 4, none⟩ = some (.slice d.oa s.out.length d.oc) := h.out.blk.cell 4
  have f4 := h.out.blk.frozen 4
  clear h
  go_enter Tryz.func15, Tryz.ntmps15
  go_wp2_with fail
  go_ret2
  exact ⟨rfl, rfl⟩
theorem At.noout (h : At B w x s d) : At B (w.setCell ⟨x, 4, none⟩ (.slice none 0 0)) x { s with out := [] } { d with oa := none, oc := 0 } ∧ Mv d.c d.c w (w.setCell ⟨x, 4, none⟩ (.slice none 0 0)) := by
  have hx := only_set w x 4 (.slice none 0 0)
  refine ⟨?_, (turn_x h.rs.cx hx).mv (by decide)⟩
  obtain ⟨r1, r2, r3, r4, r5, r6, r7, r8, r9, r10, r11, r12⟩ := h.rs
  have hr : Rs B w x { s with out := [] } { d with oa := none, oc := 0 } := ⟨r1, r2, r3, r4, r5, ⟨Own.nil _ _ _, fun k hk => by cases hk⟩, r7, r8, r9, r10, r11, r12⟩
  exact ⟨h.blk.set_ 4 _, hr.only hx⟩
theorem size_inf : (Tryz.prog.info? 49).map (·.size) = some 21 := by kernel_rfl
set_option maxRecDepth 100000 in
set_option maxHeartbeats 2000000 in
theorem leave_over (h : Hid (At B w x s d)) (c : Nat) (hok : c = 0 → Ok s) (hc : c ≠ 5) (hc2 : c ≤ 100) :
    Calls Tryz.prog 15 #[.pointer (some ⟨x, 0, none⟩), .int .i64 (c : Int)] w fun e w' =>
      e = .returned (.tuple #[.slice d.oa s.out.length d.oc, .int .i64 (c : Int)]) ∧ Blk w' x 49 (overCells s.total c (if c = 0 then s.pushed - s.bits.length / 8 else 0)) ∧ Only (fun k => k = x) w w' := by
  have h4 : w.cell? ⟨x, 4, none⟩ = some (.slice d.oa s.out.length d.oc) := h.out.blk.cell 4
  have f4 := h.out.blk.frozen 4
  have hA1 := h.out.noout.1
  have h2 : w.cell? ⟨x, 2, none⟩ = some (.pointer (some ⟨d.f, 0, none⟩)) := h.out.blk.cell 2
  have h5 : w.cell? ⟨x, 5, none⟩ = some (.int .i64 (s.total : Int)) := h.out.blk.cell 5
  have hz : ((c : Int) == 5) = false := by simp; omega
  have HA1 := Lib.hid hA1
  have HOk := Lib.hid hok
  clear h hA1 hok
  go_enter Tryz.func15, Tryz.ntmps15
  by_cases h0 : c = 0
  · subst h0
    have HOk0 := Lib.hid (HOk.out rfl)
    clear HOk
    obtain ⟨U, hU⟩ : ∃ U, U = s.pushed - s.bits.length / 8 := ⟨_, rfl⟩
    have HU := Lib.hid hU
    have hUi : ((s.pushed : Int) - ((s.bits.length / 8 : Nat) : Int)) = (U : Int) := by have := HOk0.out.bnd; omega
    clear hU
    go_wp2_with fail
    refine (used_any _ _ _ _ _ _ _ HA1.out.rs.feed.1 (by have := HOk0.out.bnd; have := HOk0.out.psh; simp only; omega) (by have := HOk0.out.psh; simp only; omega)).mono ?_
    rintro e w2 ⟨he, n, hn⟩
    have he2 : e = .returned (.int .i64 (U : Int)) := by rw [he]; simp only; rw [hUi]
    subst he2
    have HA2 : Hid (At B w2 x { s with out := [] } { d with oa := none, oc := 0 } ∧ Only (fun k => k = x) w w2) := Lib.hid ⟨by rw [hn]; exact HA1.out.drewN n, by rw [hn]; exact (only_set w x 4 _).drewN n⟩
    have h52 : w2.cell? ⟨x, 5, none⟩ = some (.int .i64 (s.total : Int)) := HA2.out.1.blk.cell 5
    clear he hn hUi h2 h5 f4 h4
    go_wp2_with (refine wpList_store_row rfl _ (.tmp 34) (.tmp 33) rfl x (overCells s.total 0 U) rfl rfl 49 _ HA2.out.1.blk size_inf rfl (over_one _ _ _) ?_)
    go_wp2_with fail
    go_ret2
    refine ⟨rfl, ?_, HA2.out.2.trans (T := fun k => k = x) ⟨rfl, rfl, rfl, ?_, fun k hk hs => setRow_block w2 x _ k hs⟩ (fun _ _ h => h)⟩
    · rw [← HU.out]; exact HA2.out.1.blk.row _
    · show w2.heap.size ≤ (w2.heap.modify x _).size
      rw [Array.size_modify]; exact Nat.le_refl _
  · have hz0 : ((c : Int) == 0) = false := by simp; omega
    have HO1 := Lib.hid (only_set w x 4 (.slice none 0 0))
    go_wp2_with (refine wpList_store_row rfl _ (.tmp 34) (.tmp 33) rfl x (overCells s.total c 0) rfl rfl 49 _ HA1.out.blk size_inf rfl (over_one _ _ _) ?_)
    go_wp2_with fail
    go_ret2
    refine ⟨rfl, ?_, HO1.out.trans (T := fun k => k = x) ⟨rfl, rfl, rfl, ?_, fun k hk hs => setRow_block _ x _ k hs⟩ (fun _ _ h => h)⟩
    · exact HA1.out.blk.row _
    · show _ ≤ (Array.modify _ x _).size
      rw [Array.size_modify]; exact Nat.le_refl _
end
end Go.Proofs.YtjejlhpnhkacmaaGreatDoor.InfC
end

section
/-
  The deferred closures of Push and End.
-/
namespace Go.Proofs.YtjejlhpnhkacmaaGreatDoor.InfC
open Go.RowKit Go.My BitMath CanMath TabMath WinMath FeedC TabC CanC
open WinC (Wn)
open InfMath (M Ok CodeOk mu lack fixL fixD)

/-- What the closure leaves: both results are set. -/
def Left2 (oc cc c : Nat) (R : Value → World → Prop) (e : Ending) (w' : World) : Prop :=
  e = .returned (.tuple #[]) ∧ ∃ ov w2, R ov w2 ∧ w' = (w2.setCell ⟨oc, 0, none⟩ ov).setCell ⟨cc, 0, none⟩ (.int .i64 (c : Int))

theorem lit_both {P : Program} {ops : Array Oper} {Q : Exit → Act → List Frame → World → Prop} {md : Region.Mode} {n : Nat} {L L' : Array Bool} {b b' : Act} {cs : List Frame} {w : World}
    (hL : L = L') (hb : b = b') (h : wpAnyR P md ops Q n L' b' cs w) : wpAnyR P md ops Q n L b cs w := by subst hL; subst hb; exact h

set_option maxRecDepth 100000 in
set_option maxHeartbeats 4000000 in
theorem push1_any (x xc oc cc c : Nat) (u u' : FrameMode) (V : Value) (w : World) (R : Value → World → Prop)
    (hx : Blk w xc 27 #[.pointer (some ⟨x, 0, none⟩)]) (hoc : oc ≠ cc)
    (hrec : ∀ (c₀ : Frame) (cs : List Frame), c₀.mode = u → recov (c₀ :: cs) = (V, { c₀ with mode := u' } :: cs))
    (hcaught : ∀ w', Calls Tryz.prog 16 #[V] w' fun e w'' => e = .returned (.int .i64 (c : Int)) ∧ Below w'.heap.size w' w'')
    (hleave : ∀ w', Below w.heap.size w w' → Calls Tryz.prog 15 #[.pointer (some ⟨x, 0, none⟩), .int .i64 (c : Int)] w' fun e w'' => ∃ o1 o2 o3, e = .returned (.tuple #[.slice o1 o2 o3, .int .i64 (c : Int)]) ∧ R (.slice o1 o2 o3) w'' ∧ (∃ o0, Blk w'' oc 22 #[o0]) ∧ (∃ c0, Blk w'' cc 28 #[c0])) :
    CallsD Tryz.prog 14 #[.pointer (some ⟨xc, 0, none⟩), .pointer (some ⟨oc, 0, none⟩), .pointer (some ⟨cc, 0, none⟩)] u w fun e u2 w' => u2 = u' ∧ Left2 oc cc c R e w' := by
  refine callsD_of_wpS Tryz.func14 rfl fun c₀ cs hu => ?_
  refine wpS_region_any (by kernel_rfl) ?_
  have hre := hrec c₀ cs hu
  have hload : ∀ W, Below w.heap.size w W → W.cell? ⟨xc, 0, none⟩ = some (.pointer (some ⟨x, 0, none⟩)) := fun W hb => (hx.same (hb.block xc hx.lt)).cell 0
  have hbd : Below w.heap.size w w.drew := (Below.refl _ _).drew
  have htr : ∀ {W W'}, Below w.heap.size w W → Below W.heap.size W W' → Below w.heap.size w W' := fun h h' => h.trans (h'.mono h.size)
  change wpAnyR _ _ _ _ _ _ _ _ w.drew
  generalize w.drew = w1 at *
  refine wpAnyR_step (rs := [0, 1]) (by kernel_rfl) (by simp) fun i hi => ?_
  rcases List.mem_cons.1 hi with rfl | hi
  · refine opR_value (i := 0) (d := some 4) (v := .pointer (some ⟨x, 0, none⟩)) (w' := w1) rfl rfl rfl (by simp [go_sem, hload w1 hbd]) ?_
    refine lit_both (L' := #[true, false, false, false, false, false, false, false, false]) (b' := { tmps := #[.pointer (some ⟨xc, 0, none⟩), .pointer (some ⟨oc, 0, none⟩), .pointer (some ⟨cc, 0, none⟩), undef, (.pointer (some ⟨x, 0, none⟩)), undef, undef, undef, undef, undef], defers := [] }) (by kernel_rfl) (by kernel_rfl) ?_
    refine wpAnyR_step (rs := [1]) (by kernel_rfl) (by simp) fun i hi => ?_
    cases List.mem_singleton.1 hi
    refine opR_recover (i := 1) (d := some 5) rfl rfl rfl rfl hre ?_
    refine lit_both (L' := #[true, true, false, false, false, false, false, false, false]) (b' := { tmps := #[.pointer (some ⟨xc, 0, none⟩), .pointer (some ⟨oc, 0, none⟩), .pointer (some ⟨cc, 0, none⟩), undef, (.pointer (some ⟨x, 0, none⟩)), V, undef, undef, undef, undef], defers := [] }) (by kernel_rfl) (by kernel_rfl) ?_
    refine wpAnyR_step (rs := [2]) (by kernel_rfl) (by simp) fun i hi => ?_
    cases List.mem_singleton.1 hi
    refine opR_call (i := 2) (d := some 6) (f := 16) (args := #[V]) rfl rfl rfl (by kernel_rfl) (hcaught w1) ?_
    rintro e w2 ⟨rfl, hb2⟩
    refine ⟨_, rfl, ?_⟩
    refine lit_both (L' := #[true, true, true, false, false, false, false, false, false]) (b' := { tmps := #[.pointer (some ⟨xc, 0, none⟩), .pointer (some ⟨oc, 0, none⟩), .pointer (some ⟨cc, 0, none⟩), undef, (.pointer (some ⟨x, 0, none⟩)), V, (.int .i64 (c : Int)), undef, undef, undef], defers := [] }) (by kernel_rfl) (by kernel_rfl) ?_
    have hbd2 := htr hbd hb2
    refine wpAnyR_step (rs := [3]) (by kernel_rfl) (by simp) fun i hi => ?_
    cases List.mem_singleton.1 hi
    refine opR_call (i := 3) (d := some 7) (f := 15) (args := #[.pointer (some ⟨x, 0, none⟩), .int .i64 (c : Int)]) rfl rfl rfl (by kernel_rfl) (hleave w2 hbd2) ?_
    rintro e w3 ⟨o1, o2, o3, rfl, hR, ⟨o0, ho⟩, c0, hc⟩
    refine ⟨_, rfl, ?_⟩
    refine lit_both (L' := #[true, true, true, true, false, false, false, false, false]) (b' := { tmps := #[.pointer (some ⟨xc, 0, none⟩), .pointer (some ⟨oc, 0, none⟩), .pointer (some ⟨cc, 0, none⟩), undef, (.pointer (some ⟨x, 0, none⟩)), V, (.int .i64 (c : Int)), (.tuple #[.slice o1 o2 o3, .int .i64 (c : Int)]), undef, undef], defers := [] }) (by kernel_rfl) (by kernel_rfl) ?_
    have hca : w3.cell? ⟨oc, 0, none⟩ = some o0 := ho.cell 0
    have hc2 : Blk (w3.setCell ⟨oc, 0, none⟩ (.slice o1 o2 o3)) cc 28 #[c0] := ((Only.refl (fun k => oc = k) w3).setCell (p := ⟨oc, 0, none⟩) (fun _ => rfl) _).blk hc hoc
    have hcb : (w3.setCell ⟨oc, 0, none⟩ (.slice o1 o2 o3)).cell? ⟨cc, 0, none⟩ = some c0 := hc2.cell 0
    have hfa := ho.frozen 0
    have hfb := hc2.frozen 0
    refine wpAnyR_step (rs := [4]) (by kernel_rfl) (by simp) fun i hi => ?_
    cases List.mem_singleton.1 hi
    refine opR_value (i := 4) (d := some 3) (w' := w3) (v := .tuple #[.slice o1 o2 o3, .int .i64 (c : Int)]) rfl rfl rfl (by kernel_rfl) ?_
    refine lit_both (L' := #[true, true, true, true, true, false, false, false, false]) (b' := { tmps := #[.pointer (some ⟨xc, 0, none⟩), .pointer (some ⟨oc, 0, none⟩), .pointer (some ⟨cc, 0, none⟩), (.tuple #[.slice o1 o2 o3, .int .i64 (c : Int)]), (.pointer (some ⟨x, 0, none⟩)), V, (.int .i64 (c : Int)), (.tuple #[.slice o1 o2 o3, .int .i64 (c : Int)]), undef, undef], defers := [] }) (by kernel_rfl) (by kernel_rfl) ?_
    refine wpAnyR_step (rs := [5, 6]) (by kernel_rfl) (by simp) fun i hi => ?_
    rcases List.mem_cons.1 hi with rfl | hi
    · refine opR_value (i := 5) (d := some 8) (w' := w3) (v := .slice o1 o2 o3) rfl rfl rfl (by kernel_rfl) ?_
      refine lit_both (L' := #[true, true, true, true, true, true, false, false, false]) (b' := { tmps := #[.pointer (some ⟨xc, 0, none⟩), .pointer (some ⟨oc, 0, none⟩), .pointer (some ⟨cc, 0, none⟩), (.tuple #[.slice o1 o2 o3, .int .i64 (c : Int)]), (.pointer (some ⟨x, 0, none⟩)), V, (.int .i64 (c : Int)), (.tuple #[.slice o1 o2 o3, .int .i64 (c : Int)]), (.slice o1 o2 o3), undef], defers := [] }) (by kernel_rfl) (by kernel_rfl) ?_
      refine wpAnyR_step (rs := [6, 7]) (by kernel_rfl) (by simp) fun i hi => ?_
      rcases List.mem_cons.1 hi with rfl | hi
      · refine opR_value (i := 6) (d := some 9) (w' := w3) (v := .int .i64 (c : Int)) rfl rfl rfl (by kernel_rfl) ?_
        refine lit_both (L' := #[true, true, true, true, true, true, true, false, false]) (b' := { tmps := #[.pointer (some ⟨xc, 0, none⟩), .pointer (some ⟨oc, 0, none⟩), .pointer (some ⟨cc, 0, none⟩), (.tuple #[.slice o1 o2 o3, .int .i64 (c : Int)]), (.pointer (some ⟨x, 0, none⟩)), V, (.int .i64 (c : Int)), (.tuple #[.slice o1 o2 o3, .int .i64 (c : Int)]), (.slice o1 o2 o3), (.int .i64 (c : Int))], defers := [] }) (by kernel_rfl) (by kernel_rfl) ?_
        refine wpAnyR_step (rs := [7]) (by kernel_rfl) (by simp) fun i hi => ?_
        cases List.mem_singleton.1 hi
        refine opR_skip (i := 7) (w' := (w3.setCell ⟨oc, 0, none⟩ (.slice o1 o2 o3))) rfl rfl (by simp [go_sem, hca, hfa]) ?_
        refine lit_both (L' := #[true, true, true, true, true, true, true, true, false]) (b' := { tmps := #[.pointer (some ⟨xc, 0, none⟩), .pointer (some ⟨oc, 0, none⟩), .pointer (some ⟨cc, 0, none⟩), (.tuple #[.slice o1 o2 o3, .int .i64 (c : Int)]), (.pointer (some ⟨x, 0, none⟩)), V, (.int .i64 (c : Int)), (.tuple #[.slice o1 o2 o3, .int .i64 (c : Int)]), (.slice o1 o2 o3), (.int .i64 (c : Int))], defers := [] }) (by kernel_rfl) (by kernel_rfl) ?_
        refine wpAnyR_step (rs := [8]) (by kernel_rfl) (by simp) fun i hi => ?_
        cases List.mem_singleton.1 hi
        refine opR_skip (i := 8) (w' := (w3.setCell ⟨oc, 0, none⟩ (.slice o1 o2 o3)).setCell ⟨cc, 0, none⟩ (.int .i64 (c : Int))) rfl rfl (by simp [go_sem, hcb, hfb]) ?_
        refine lit_both (L' := #[true, true, true, true, true, true, true, true, true]) (b' := { tmps := #[.pointer (some ⟨xc, 0, none⟩), .pointer (some ⟨oc, 0, none⟩), .pointer (some ⟨cc, 0, none⟩), (.tuple #[.slice o1 o2 o3, .int .i64 (c : Int)]), (.pointer (some ⟨x, 0, none⟩)), V, (.int .i64 (c : Int)), (.tuple #[.slice o1 o2 o3, .int .i64 (c : Int)]), (.slice o1 o2 o3), (.int .i64 (c : Int))], defers := [] }) (by kernel_rfl) (by kernel_rfl) ?_
        refine wpAnyR_done (by kernel_rfl) ?_
        exact ⟨rfl, u', rfl, .tuple #[], by kernel_rfl, rfl, rfl, .slice o1 o2 o3, w3, hR, rfl⟩
      · cases List.mem_singleton.1 hi
        refine opR_skip (i := 7) (w' := (w3.setCell ⟨oc, 0, none⟩ (.slice o1 o2 o3))) rfl rfl (by simp [go_sem, hca, hfa]) ?_
        refine lit_both (L' := #[true, true, true, true, true, true, false, true, false]) (b' := { tmps := #[.pointer (some ⟨xc, 0, none⟩), .pointer (some ⟨oc, 0, none⟩), .pointer (some ⟨cc, 0, none⟩), (.tuple #[.slice o1 o2 o3, .int .i64 (c : Int)]), (.pointer (some ⟨x, 0, none⟩)), V, (.int .i64 (c : Int)), (.tuple #[.slice o1 o2 o3, .int .i64 (c : Int)]), (.slice o1 o2 o3), undef], defers := [] }) (by kernel_rfl) (by kernel_rfl) ?_
        refine wpAnyR_step (rs := [6]) (by kernel_rfl) (by simp) fun i hi => ?_
        cases List.mem_singleton.1 hi
        refine opR_value (i := 6) (d := some 9) (w' := (w3.setCell ⟨oc, 0, none⟩ (.slice o1 o2 o3))) (v := .int .i64 (c : Int)) rfl rfl rfl (by kernel_rfl) ?_
        refine lit_both (L' := #[true, true, true, true, true, true, true, true, false]) (b' := { tmps := #[.pointer (some ⟨xc, 0, none⟩), .pointer (some ⟨oc, 0, none⟩), .pointer (some ⟨cc, 0, none⟩), (.tuple #[.slice o1 o2 o3, .int .i64 (c : Int)]), (.pointer (some ⟨x, 0, none⟩)), V, (.int .i64 (c : Int)), (.tuple #[.slice o1 o2 o3, .int .i64 (c : Int)]), (.slice o1 o2 o3), (.int .i64 (c : Int))], defers := [] }) (by kernel_rfl) (by kernel_rfl) ?_
        refine wpAnyR_step (rs := [8]) (by kernel_rfl) (by simp) fun i hi => ?_
        cases List.mem_singleton.1 hi
        refine opR_skip (i := 8) (w' := (w3.setCell ⟨oc, 0, none⟩ (.slice o1 o2 o3)).setCell ⟨cc, 0, none⟩ (.int .i64 (c : Int))) rfl rfl (by simp [go_sem, hcb, hfb]) ?_
        refine lit_both (L' := #[true, true, true, true, true, true, true, true, true]) (b' := { tmps := #[.pointer (some ⟨xc, 0, none⟩), .pointer (some ⟨oc, 0, none⟩), .pointer (some ⟨cc, 0, none⟩), (.tuple #[.slice o1 o2 o3, .int .i64 (c : Int)]), (.pointer (some ⟨x, 0, none⟩)), V, (.int .i64 (c : Int)), (.tuple #[.slice o1 o2 o3, .int .i64 (c : Int)]), (.slice o1 o2 o3), (.int .i64 (c : Int))], defers := [] }) (by kernel_rfl) (by kernel_rfl) ?_
        refine wpAnyR_done (by kernel_rfl) ?_
        exact ⟨rfl, u', rfl, .tuple #[], by kernel_rfl, rfl, rfl, .slice o1 o2 o3, w3, hR, rfl⟩
    · cases List.mem_singleton.1 hi
      refine opR_value (i := 6) (d := some 9) (w' := w3) (v := .int .i64 (c : Int)) rfl rfl rfl (by kernel_rfl) ?_
      refine lit_both (L' := #[true, true, true, true, true, false, true, false, false]) (b' := { tmps := #[.pointer (some ⟨xc, 0, none⟩), .pointer (some ⟨oc, 0, none⟩), .pointer (some ⟨cc, 0, none⟩), (.tuple #[.slice o1 o2 o3, .int .i64 (c : Int)]), (.pointer (some ⟨x, 0, none⟩)), V, (.int .i64 (c : Int)), (.tuple #[.slice o1 o2 o3, .int .i64 (c : Int)]), undef, (.int .i64 (c : Int))], defers := [] }) (by kernel_rfl) (by kernel_rfl) ?_
      refine wpAnyR_step (rs := [5]) (by kernel_rfl) (by simp) fun i hi => ?_
      cases List.mem_singleton.1 hi
      refine opR_value (i := 5) (d := some 8) (w' := w3) (v := .slice o1 o2 o3) rfl rfl rfl (by kernel_rfl) ?_
      refine lit_both (L' := #[true, true, true, true, true, true, true, false, false]) (b' := { tmps := #[.pointer (some ⟨xc, 0, none⟩), .pointer (some ⟨oc, 0, none⟩), .pointer (some ⟨cc, 0, none⟩), (.tuple #[.slice o1 o2 o3, .int .i64 (c : Int)]), (.pointer (some ⟨x, 0, none⟩)), V, (.int .i64 (c : Int)), (.tuple #[.slice o1 o2 o3, .int .i64 (c : Int)]), (.slice o1 o2 o3), (.int .i64 (c : Int))], defers := [] }) (by kernel_rfl) (by kernel_rfl) ?_
      refine wpAnyR_step (rs := [7]) (by kernel_rfl) (by simp) fun i hi => ?_
      cases List.mem_singleton.1 hi
      refine opR_skip (i := 7) (w' := (w3.setCell ⟨oc, 0, none⟩ (.slice o1 o2 o3))) rfl rfl (by simp [go_sem, hca, hfa]) ?_
      refine lit_both (L' := #[true, true, true, true, true, true, true, true, false]) (b' := { tmps := #[.pointer (some ⟨xc, 0, none⟩), .pointer (some ⟨oc, 0, none⟩), .pointer (some ⟨cc, 0, none⟩), (.tuple #[.slice o1 o2 o3, .int .i64 (c : Int)]), (.pointer (some ⟨x, 0, none⟩)), V, (.int .i64 (c : Int)), (.tuple #[.slice o1 o2 o3, .int .i64 (c : Int)]), (.slice o1 o2 o3), (.int .i64 (c : Int))], defers := [] }) (by kernel_rfl) (by kernel_rfl) ?_
      refine wpAnyR_step (rs := [8]) (by kernel_rfl) (by simp) fun i hi => ?_
      cases List.mem_singleton.1 hi
      refine opR_skip (i := 8) (w' := (w3.setCell ⟨oc, 0, none⟩ (.slice o1 o2 o3)).setCell ⟨cc, 0, none⟩ (.int .i64 (c : Int))) rfl rfl (by simp [go_sem, hcb, hfb]) ?_
      refine lit_both (L' := #[true, true, true, true, true, true, true, true, true]) (b' := { tmps := #[.pointer (some ⟨xc, 0, none⟩), .pointer (some ⟨oc, 0, none⟩), .pointer (some ⟨cc, 0, none⟩), (.tuple #[.slice o1 o2 o3, .int .i64 (c : Int)]), (.pointer (some ⟨x, 0, none⟩)), V, (.int .i64 (c : Int)), (.tuple #[.slice o1 o2 o3, .int .i64 (c : Int)]), (.slice o1 o2 o3), (.int .i64 (c : Int))], defers := [] }) (by kernel_rfl) (by kernel_rfl) ?_
      refine wpAnyR_done (by kernel_rfl) ?_
      exact ⟨rfl, u', rfl, .tuple #[], by kernel_rfl, rfl, rfl, .slice o1 o2 o3, w3, hR, rfl⟩
  · cases List.mem_singleton.1 hi
    refine opR_recover (i := 1) (d := some 5) rfl rfl rfl rfl hre ?_
    refine lit_both (L' := #[false, true, false, false, false, false, false, false, false]) (b' := { tmps := #[.pointer (some ⟨xc, 0, none⟩), .pointer (some ⟨oc, 0, none⟩), .pointer (some ⟨cc, 0, none⟩), undef, undef, V, undef, undef, undef, undef], defers := [] }) (by kernel_rfl) (by kernel_rfl) ?_
    refine wpAnyR_step (rs := [0, 2]) (by kernel_rfl) (by simp) fun i hi => ?_
    rcases List.mem_cons.1 hi with rfl | hi
    · refine opR_value (i := 0) (d := some 4) (v := .pointer (some ⟨x, 0, none⟩)) (w' := w1) rfl rfl rfl (by simp [go_sem, hload w1 hbd]) ?_
      refine lit_both (L' := #[true, true, false, false, false, false, false, false, false]) (b' := { tmps := #[.pointer (some ⟨xc, 0, none⟩), .pointer (some ⟨oc, 0, none⟩), .pointer (some ⟨cc, 0, none⟩), undef, (.pointer (some ⟨x, 0, none⟩)), V, undef, undef, undef, undef], defers := [] }) (by kernel_rfl) (by kernel_rfl) ?_
      refine wpAnyR_step (rs := [2]) (by kernel_rfl) (by simp) fun i hi => ?_
      cases List.mem_singleton.1 hi
      refine opR_call (i := 2) (d := some 6) (f := 16) (args := #[V]) rfl rfl rfl (by kernel_rfl) (hcaught w1) ?_
      rintro e w2 ⟨rfl, hb2⟩
      refine ⟨_, rfl, ?_⟩
      refine lit_both (L' := #[true, true, true, false, false, false, false, false, false]) (b' := { tmps := #[.pointer (some ⟨xc, 0, none⟩), .pointer (some ⟨oc, 0, none⟩), .pointer (some ⟨cc, 0, none⟩), undef, (.pointer (some ⟨x, 0, none⟩)), V, (.int .i64 (c : Int)), undef, undef, undef], defers := [] }) (by kernel_rfl) (by kernel_rfl) ?_
      have hbd2 := htr hbd hb2
      refine wpAnyR_step (rs := [3]) (by kernel_rfl) (by simp) fun i hi => ?_
      cases List.mem_singleton.1 hi
      refine opR_call (i := 3) (d := some 7) (f := 15) (args := #[.pointer (some ⟨x, 0, none⟩), .int .i64 (c : Int)]) rfl rfl rfl (by kernel_rfl) (hleave w2 hbd2) ?_
      rintro e w3 ⟨o1, o2, o3, rfl, hR, ⟨o0, ho⟩, c0, hc⟩
      refine ⟨_, rfl, ?_⟩
      refine lit_both (L' := #[true, true, true, true, false, false, false, false, false]) (b' := { tmps := #[.pointer (some ⟨xc, 0, none⟩), .pointer (some ⟨oc, 0, none⟩), .pointer (some ⟨cc, 0, none⟩), undef, (.pointer (some ⟨x, 0, none⟩)), V, (.int .i64 (c : Int)), (.tuple #[.slice o1 o2 o3, .int .i64 (c : Int)]), undef, undef], defers := [] }) (by kernel_rfl) (by kernel_rfl) ?_
      have hca : w3.cell? ⟨oc, 0, none⟩ = some o0 := ho.cell 0
      have hc2 : Blk (w3.setCell ⟨oc, 0, none⟩ (.slice o1 o2 o3)) cc 28 #[c0] := ((Only.refl (fun k => oc = k) w3).setCell (p := ⟨oc, 0, none⟩) (fun _ => rfl) _).blk hc hoc
      have hcb : (w3.setCell ⟨oc, 0, none⟩ (.slice o1 o2 o3)).cell? ⟨cc, 0, none⟩ = some c0 := hc2.cell 0
      have hfa := ho.frozen 0
      have hfb := hc2.frozen 0
      refine wpAnyR_step (rs := [4]) (by kernel_rfl) (by simp) fun i hi => ?_
      cases List.mem_singleton.1 hi
      refine opR_value (i := 4) (d := some 3) (w' := w3) (v := .tuple #[.slice o1 o2 o3, .int .i64 (c : Int)]) rfl rfl rfl (by kernel_rfl) ?_
      refine lit_both (L' := #[true, true, true, true, true, false, false, false, false]) (b' := { tmps := #[.pointer (some ⟨xc, 0, none⟩), .pointer (some ⟨oc, 0, none⟩), .pointer (some ⟨cc, 0, none⟩), (.tuple #[.slice o1 o2 o3, .int .i64 (c : Int)]), (.pointer (some ⟨x, 0, none⟩)), V, (.int .i64 (c : Int)), (.tuple #[.slice o1 o2 o3, .int .i64 (c : Int)]), undef, undef], defers := [] }) (by kernel_rfl) (by kernel_rfl) ?_
      refine wpAnyR_step (rs := [5, 6]) (by kernel_rfl) (by simp) fun i hi => ?_
      rcases List.mem_cons.1 hi with rfl | hi
      · refine opR_value (i := 5) (d := some 8) (w' := w3) (v := .slice o1 o2 o3) rfl rfl rfl (by kernel_rfl) ?_
        refine lit_both (L' := #[true, true, true, true, true, true, false, false, false]) (b' := { tmps := #[.pointer (some ⟨xc, 0, none⟩), .pointer (some ⟨oc, 0, none⟩), .pointer (some ⟨cc, 0, none⟩), (.tuple #[.slice o1 o2 o3, .int .i64 (c : Int)]), (.pointer (some ⟨x, 0, none⟩)), V, (.int .i64 (c : Int)), (.tuple #[.slice o1 o2 o3, .int .i64 (c : Int)]), (.slice o1 o2 o3), undef], defers := [] }) (by kernel_rfl) (by kernel_rfl) ?_
        refine wpAnyR_step (rs := [6, 7]) (by kernel_rfl) (by simp) fun i hi => ?_
        rcases List.mem_cons.1 hi with rfl | hi
        · refine opR_value (i := 6) (d := some 9) (w' := w3) (v := .int .i64 (c : Int)) rfl rfl rfl (by kernel_rfl) ?_
          refine lit_both (L' := #[true, true, true, true, true, true, true, false, false]) (b' := { tmps := #[.pointer (some ⟨xc, 0, none⟩), .pointer (some ⟨oc, 0, none⟩), .pointer (some ⟨cc, 0, none⟩), (.tuple #[.slice o1 o2 o3, .int .i64 (c : Int)]), (.pointer (some ⟨x, 0, none⟩)), V, (.int .i64 (c : Int)), (.tuple #[.slice o1 o2 o3, .int .i64 (c : Int)]), (.slice o1 o2 o3), (.int .i64 (c : Int))], defers := [] }) (by kernel_rfl) (by kernel_rfl) ?_
          refine wpAnyR_step (rs := [7]) (by kernel_rfl) (by simp) fun i hi => ?_
          cases List.mem_singleton.1 hi
          refine opR_skip (i := 7) (w' := (w3.setCell ⟨oc, 0, none⟩ (.slice o1 o2 o3))) rfl rfl (by simp [go_sem, hca, hfa]) ?_
          refine lit_both (L' := #[true, true, true, true, true, true, true, true, false]) (b' := { tmps := #[.pointer (some ⟨xc, 0, none⟩), .pointer (some ⟨oc, 0, none⟩), .pointer (some ⟨cc, 0, none⟩), (.tuple #[.slice o1 o2 o3, .int .i64 (c : Int)]), (.pointer (some ⟨x, 0, none⟩)), V, (.int .i64 (c : Int)), (.tuple #[.slice o1 o2 o3, .int .i64 (c : Int)]), (.slice o1 o2 o3), (.int .i64 (c : Int))], defers := [] }) (by kernel_rfl) (by kernel_rfl) ?_
          refine wpAnyR_step (rs := [8]) (by kernel_rfl) (by simp) fun i hi => ?_
          cases List.mem_singleton.1 hi
          refine opR_skip (i := 8) (w' := (w3.setCell ⟨oc, 0, none⟩ (.slice o1 o2 o3)).setCell ⟨cc, 0, none⟩ (.int .i64 (c : Int))) rfl rfl (by simp [go_sem, hcb, hfb]) ?_
          refine lit_both (L' := #[true, true, true, true, true, true, true, true, true]) (b' := { tmps := #[.pointer (some ⟨xc, 0, none⟩), .pointer (some ⟨oc, 0, none⟩), .pointer (some ⟨cc, 0, none⟩), (.tuple #[.slice o1 o2 o3, .int .i64 (c : Int)]), (.pointer (some ⟨x, 0, none⟩)), V, (.int .i64 (c : Int)), (.tuple #[.slice o1 o2 o3, .int .i64 (c : Int)]), (.slice o1 o2 o3), (.int .i64 (c : Int))], defers := [] }) (by kernel_rfl) (by kernel_rfl) ?_
          refine wpAnyR_done (by kernel_rfl) ?_
          exact ⟨rfl, u', rfl, .tuple #[], by kernel_rfl, rfl, rfl, .slice o1 o2 o3, w3, hR, rfl⟩
        · cases List.mem_singleton.1 hi
          refine opR_skip (i := 7) (w' := (w3.setCell ⟨oc, 0, none⟩ (.slice o1 o2 o3))) rfl rfl (by simp [go_sem, hca, hfa]) ?_
          refine lit_both (L' := #[true, true, true, true, true, true, false, true, false]) (b' := { tmps := #[.pointer (some ⟨xc, 0, none⟩), .pointer (some ⟨oc, 0, none⟩), .pointer (some ⟨cc, 0, none⟩), (.tuple #[.slice o1 o2 o3, .int .i64 (c : Int)]), (.pointer (some ⟨x, 0, none⟩)), V, (.int .i64 (c : Int)), (.tuple #[.slice o1 o2 o3, .int .i64 (c : Int)]), (.slice o1 o2 o3), undef], defers := [] }) (by kernel_rfl) (by kernel_rfl) ?_
          refine wpAnyR_step (rs := [6]) (by kernel_rfl) (by simp) fun i hi => ?_
          cases List.mem_singleton.1 hi
          refine opR_value (i := 6) (d := some 9) (w' := (w3.setCell ⟨oc, 0, none⟩ (.slice o1 o2 o3))) (v := .int .i64 (c : Int)) rfl rfl rfl (by kernel_rfl) ?_
          refine lit_both (L' := #[true, true, true, true, true, true, true, true, false]) (b' := { tmps := #[.pointer (some ⟨xc, 0, none⟩), .pointer (some ⟨oc, 0, none⟩), .pointer (some ⟨cc, 0, none⟩), (.tuple #[.slice o1 o2 o3, .int .i64 (c : Int)]), (.pointer (some ⟨x, 0, none⟩)), V, (.int .i64 (c : Int)), (.tuple #[.slice o1 o2 o3, .int .i64 (c : Int)]), (.slice o1 o2 o3), (.int .i64 (c : Int))], defers := [] }) (by kernel_rfl) (by kernel_rfl) ?_
          refine wpAnyR_step (rs := [8]) (by kernel_rfl) (by simp) fun i hi => ?_
          cases List.mem_singleton.1 hi
          refine opR_skip (i := 8) (w' := (w3.setCell ⟨oc, 0, none⟩ (.slice o1 o2 o3)).setCell ⟨cc, 0, none⟩ (.int .i64 (c : Int))) rfl rfl (by simp [go_sem, hcb, hfb]) ?_
          refine lit_both (L' := #[true, true, true, true, true, true, true, true, true]) (b' := { tmps := #[.pointer (some ⟨xc, 0, none⟩), .pointer (some ⟨oc, 0, none⟩), .pointer (some ⟨cc, 0, none⟩), (.tuple #[.slice o1 o2 o3, .int .i64 (c : Int)]), (.pointer (some ⟨x, 0, none⟩)), V, (.int .i64 (c : Int)), (.tuple #[.slice o1 o2 o3, .int .i64 (c : Int)]), (.slice o1 o2 o3), (.int .i64 (c : Int))], defers := [] }) (by kernel_rfl) (by kernel_rfl) ?_
          refine wpAnyR_done (by kernel_rfl) ?_
          exact ⟨rfl, u', rfl, .tuple #[], by kernel_rfl, rfl, rfl, .slice o1 o2 o3, w3, hR, rfl⟩
      · cases List.mem_singleton.1 hi
        refine opR_value (i := 6) (d := some 9) (w' := w3) (v := .int .i64 (c : Int)) rfl rfl rfl (by kernel_rfl) ?_
        refine lit_both (L' := #[true, true, true, true, true, false, true, false, false]) (b' := { tmps := #[.pointer (some ⟨xc, 0, none⟩), .pointer (some ⟨oc, 0, none⟩), .pointer (some ⟨cc, 0, none⟩), (.tuple #[.slice o1 o2 o3, .int .i64 (c : Int)]), (.pointer (some ⟨x, 0, none⟩)), V, (.int .i64 (c : Int)), (.tuple #[.slice o1 o2 o3, .int .i64 (c : Int)]), undef, (.int .i64 (c : Int))], defers := [] }) (by kernel_rfl) (by kernel_rfl) ?_
        refine wpAnyR_step (rs := [5]) (by kernel_rfl) (by simp) fun i hi => ?_
        cases List.mem_singleton.1 hi
        refine opR_value (i := 5) (d := some 8) (w' := w3) (v := .slice o1 o2 o3) rfl rfl rfl (by kernel_rfl) ?_
        refine lit_both (L' := #[true, true, true, true, true, true, true, false, false]) (b' := { tmps := #[.pointer (some ⟨xc, 0, none⟩), .pointer (some ⟨oc, 0, none⟩), .pointer (some ⟨cc, 0, none⟩), (.tuple #[.slice o1 o2 o3, .int .i64 (c : Int)]), (.pointer (some ⟨x, 0, none⟩)), V, (.int .i64 (c : Int)), (.tuple #[.slice o1 o2 o3, .int .i64 (c : Int)]), (.slice o1 o2 o3), (.int .i64 (c : Int))], defers := [] }) (by kernel_rfl) (by kernel_rfl) ?_
        refine wpAnyR_step (rs := [7]) (by kernel_rfl) (by simp) fun i hi => ?_
        cases List.mem_singleton.1 hi
        refine opR_skip (i := 7) (w' := (w3.setCell ⟨oc, 0, none⟩ (.slice o1 o2 o3))) rfl rfl (by simp [go_sem, hca, hfa]) ?_
        refine lit_both (L' := #[true, true, true, true, true, true, true, true, false]) (b' := { tmps := #[.pointer (some ⟨xc, 0, none⟩), .pointer (some ⟨oc, 0, none⟩), .pointer (some ⟨cc, 0, none⟩), (.tuple #[.slice o1 o2 o3, .int .i64 (c : Int)]), (.pointer (some ⟨x, 0, none⟩)), V, (.int .i64 (c : Int)), (.tuple #[.slice o1 o2 o3, .int .i64 (c : Int)]), (.slice o1 o2 o3), (.int .i64 (c : Int))], defers := [] }) (by kernel_rfl) (by kernel_rfl) ?_
        refine wpAnyR_step (rs := [8]) (by kernel_rfl) (by simp) fun i hi => ?_
        cases List.mem_singleton.1 hi
        refine opR_skip (i := 8) (w' := (w3.setCell ⟨oc, 0, none⟩ (.slice o1 o2 o3)).setCell ⟨cc, 0, none⟩ (.int .i64 (c : Int))) rfl rfl (by simp [go_sem, hcb, hfb]) ?_
        refine lit_both (L' := #[true, true, true, true, true, true, true, true, true]) (b' := { tmps := #[.pointer (some ⟨xc, 0, none⟩), .pointer (some ⟨oc, 0, none⟩), .pointer (some ⟨cc, 0, none⟩), (.tuple #[.slice o1 o2 o3, .int .i64 (c : Int)]), (.pointer (some ⟨x, 0, none⟩)), V, (.int .i64 (c : Int)), (.tuple #[.slice o1 o2 o3, .int .i64 (c : Int)]), (.slice o1 o2 o3), (.int .i64 (c : Int))], defers := [] }) (by kernel_rfl) (by kernel_rfl) ?_
        refine wpAnyR_done (by kernel_rfl) ?_
        exact ⟨rfl, u', rfl, .tuple #[], by kernel_rfl, rfl, rfl, .slice o1 o2 o3, w3, hR, rfl⟩
    · cases List.mem_singleton.1 hi
      refine opR_call (i := 2) (d := some 6) (f := 16) (args := #[V]) rfl rfl rfl (by kernel_rfl) (hcaught w1) ?_
      rintro e w2 ⟨rfl, hb2⟩
      refine ⟨_, rfl, ?_⟩
      refine lit_both (L' := #[false, true, true, false, false, false, false, false, false]) (b' := { tmps := #[.pointer (some ⟨xc, 0, none⟩), .pointer (some ⟨oc, 0, none⟩), .pointer (some ⟨cc, 0, none⟩), undef, undef, V, (.int .i64 (c : Int)), undef, undef, undef], defers := [] }) (by kernel_rfl) (by kernel_rfl) ?_
      have hbd2 := htr hbd hb2
      refine wpAnyR_step (rs := [0]) (by kernel_rfl) (by simp) fun i hi => ?_
      cases List.mem_singleton.1 hi
      refine opR_value (i := 0) (d := some 4) (v := .pointer (some ⟨x, 0, none⟩)) (w' := w2) rfl rfl rfl (by simp [go_sem, hload w2 hbd2]) ?_
      refine lit_both (L' := #[true, true, true, false, false, false, false, false, false]) (b' := { tmps := #[.pointer (some ⟨xc, 0, none⟩), .pointer (some ⟨oc, 0, none⟩), .pointer (some ⟨cc, 0, none⟩), undef, (.pointer (some ⟨x, 0, none⟩)), V, (.int .i64 (c : Int)), undef, undef, undef], defers := [] }) (by kernel_rfl) (by kernel_rfl) ?_
      refine wpAnyR_step (rs := [3]) (by kernel_rfl) (by simp) fun i hi => ?_
      cases List.mem_singleton.1 hi
      refine opR_call (i := 3) (d := some 7) (f := 15) (args := #[.pointer (some ⟨x, 0, none⟩), .int .i64 (c : Int)]) rfl rfl rfl (by kernel_rfl) (hleave w2 hbd2) ?_
      rintro e w3 ⟨o1, o2, o3, rfl, hR, ⟨o0, ho⟩, c0, hc⟩
      refine ⟨_, rfl, ?_⟩
      refine lit_both (L' := #[true, true, true, true, false, false, false, false, false]) (b' := { tmps := #[.pointer (some ⟨xc, 0, none⟩), .pointer (some ⟨oc, 0, none⟩), .pointer (some ⟨cc, 0, none⟩), undef, (.pointer (some ⟨x, 0, none⟩)), V, (.int .i64 (c : Int)), (.tuple #[.slice o1 o2 o3, .int .i64 (c : Int)]), undef, undef], defers := [] }) (by kernel_rfl) (by kernel_rfl) ?_
      have hca : w3.cell? ⟨oc, 0, none⟩ = some o0 := ho.cell 0
      have hc2 : Blk (w3.setCell ⟨oc, 0, none⟩ (.slice o1 o2 o3)) cc 28 #[c0] := ((Only.refl (fun k => oc = k) w3).setCell (p := ⟨oc, 0, none⟩) (fun _ => rfl) _).blk hc hoc
      have hcb : (w3.setCell ⟨oc, 0, none⟩ (.slice o1 o2 o3)).cell? ⟨cc, 0, none⟩ = some c0 := hc2.cell 0
      have hfa := ho.frozen 0
      have hfb := hc2.frozen 0
      refine wpAnyR_step (rs := [4]) (by kernel_rfl) (by simp) fun i hi => ?_
      cases List.mem_singleton.1 hi
      refine opR_value (i := 4) (d := some 3) (w' := w3) (v := .tuple #[.slice o1 o2 o3, .int .i64 (c : Int)]) rfl rfl rfl (by kernel_rfl) ?_
      refine lit_both (L' := #[true, true, true, true, true, false, false, false, false]) (b' := { tmps := #[.pointer (some ⟨xc, 0, none⟩), .pointer (some ⟨oc, 0, none⟩), .pointer (some ⟨cc, 0, none⟩), (.tuple #[.slice o1 o2 o3, .int .i64 (c : Int)]), (.pointer (some ⟨x, 0, none⟩)), V, (.int .i64 (c : Int)), (.tuple #[.slice o1 o2 o3, .int .i64 (c : Int)]), undef, undef], defers := [] }) (by kernel_rfl) (by kernel_rfl) ?_
      refine wpAnyR_step (rs := [5, 6]) (by kernel_rfl) (by simp) fun i hi => ?_
      rcases List.mem_cons.1 hi with rfl | hi
      · refine opR_value (i := 5) (d := some 8) (w' := w3) (v := .slice o1 o2 o3) rfl rfl rfl (by kernel_rfl) ?_
        refine lit_both (L' := #[true, true, true, true, true, true, false, false, false]) (b' := { tmps := #[.pointer (some ⟨xc, 0, none⟩), .pointer (some ⟨oc, 0, none⟩), .pointer (some ⟨cc, 0, none⟩), (.tuple #[.slice o1 o2 o3, .int .i64 (c : Int)]), (.pointer (some ⟨x, 0, none⟩)), V, (.int .i64 (c : Int)), (.tuple #[.slice o1 o2 o3, .int .i64 (c : Int)]), (.slice o1 o2 o3), undef], defers := [] }) (by kernel_rfl) (by kernel_rfl) ?_
        refine wpAnyR_step (rs := [6, 7]) (by kernel_rfl) (by simp) fun i hi => ?_
        rcases List.mem_cons.1 hi with rfl | hi
        · refine opR_value (i := 6) (d := some 9) (w' := w3) (v := .int .i64 (c : Int)) rfl rfl rfl (by kernel_rfl) ?_
          refine lit_both (L' := #[true, true, true, true, true, true, true, false, false]) (b' := { tmps := #[.pointer (some ⟨xc, 0, none⟩), .pointer (some ⟨oc, 0, none⟩), .pointer (some ⟨cc, 0, none⟩), (.tuple #[.slice o1 o2 o3, .int .i64 (c : Int)]), (.pointer (some ⟨x, 0, none⟩)), V, (.int .i64 (c : Int)), (.tuple #[.slice o1 o2 o3, .int .i64 (c : Int)]), (.slice o1 o2 o3), (.int .i64 (c : Int))], defers := [] }) (by kernel_rfl) (by kernel_rfl) ?_
          refine wpAnyR_step (rs := [7]) (by kernel_rfl) (by simp) fun i hi => ?_
          cases List.mem_singleton.1 hi
          refine opR_skip (i := 7) (w' := (w3.setCell ⟨oc, 0, none⟩ (.slice o1 o2 o3))) rfl rfl (by simp [go_sem, hca, hfa]) ?_
          refine lit_both (L' := #[true, true, true, true, true, true, true, true, false]) (b' := { tmps := #[.pointer (some ⟨xc, 0, none⟩), .pointer (some ⟨oc, 0, none⟩), .pointer (some ⟨cc, 0, none⟩), (.tuple #[.slice o1 o2 o3, .int .i64 (c : Int)]), (.pointer (some ⟨x, 0, none⟩)), V, (.int .i64 (c : Int)), (.tuple #[.slice o1 o2 o3, .int .i64 (c : Int)]), (.slice o1 o2 o3), (.int .i64 (c : Int))], defers := [] }) (by kernel_rfl) (by kernel_rfl) ?_
          refine wpAnyR_step (rs := [8]) (by kernel_rfl) (by simp) fun i hi => ?_
          cases List.mem_singleton.1 hi
          refine opR_skip (i := 8) (w' := (w3.setCell ⟨oc, 0, none⟩ (.slice o1 o2 o3)).setCell ⟨cc, 0, none⟩ (.int .i64 (c : Int))) rfl rfl (by simp [go_sem, hcb, hfb]) ?_
          refine lit_both (L' := #[true, true, true, true, true, true, true, true, true]) (b' := { tmps := #[.pointer (some ⟨xc, 0, none⟩), .pointer (some ⟨oc, 0, none⟩), .pointer (some ⟨cc, 0, none⟩), (.tuple #[.slice o1 o2 o3, .int .i64 (c : Int)]), (.pointer (some ⟨x, 0, none⟩)), V, (.int .i64 (c : Int)), (.tuple #[.slice o1 o2 o3, .int .i64 (c : Int)]), (.slice o1 o2 o3), (.int .i64 (c : Int))], defers := [] }) (by kernel_rfl) (by kernel_rfl) ?_
          refine wpAnyR_done (by kernel_rfl) ?_
          exact ⟨rfl, u', rfl, .tuple #[], by kernel_rfl, rfl, rfl, .slice o1 o2 o3, w3, hR, rfl⟩
        · cases List.mem_singleton.1 hi
          refine opR_skip (i := 7) (w' := (w3.setCell ⟨oc, 0, none⟩ (.slice o1 o2 o3))) rfl rfl (by simp [go_sem, hca, hfa]) ?_
          refine lit_both (L' := #[true, true, true, true, true, true, false, true, false]) (b' := { tmps := #[.pointer (some ⟨xc, 0, none⟩), .pointer (some ⟨oc, 0, none⟩), .pointer (some ⟨cc, 0, none⟩), (.tuple #[.slice o1 o2 o3, .int .i64 (c : Int)]), (.pointer (some ⟨x, 0, none⟩)), V, (.int .i64 (c : Int)), (.tuple #[.slice o1 o2 o3, .int .i64 (c : Int)]), (.slice o1 o2 o3), undef], defers := [] }) (by kernel_rfl) (by kernel_rfl) ?_
          refine wpAnyR_step (rs := [6]) (by kernel_rfl) (by simp) fun i hi => ?_
          cases List.mem_singleton.1 hi
          refine opR_value (i := 6) (d := some 9) (w' := (w3.setCell ⟨oc, 0, none⟩ (.slice o1 o2 o3))) (v := .int .i64 (c : Int)) rfl rfl rfl (by kernel_rfl) ?_
          refine lit_both (L' := #[true, true, true, true, true, true, true, true, false]) (b' := { tmps := #[.pointer (some ⟨xc, 0, none⟩), .pointer (some ⟨oc, 0, none⟩), .pointer (some ⟨cc, 0, none⟩), (.tuple #[.slice o1 o2 o3, .int .i64 (c : Int)]), (.pointer (some ⟨x, 0, none⟩)), V, (.int .i64 (c : Int)), (.tuple #[.slice o1 o2 o3, .int .i64 (c : Int)]), (.slice o1 o2 o3), (.int .i64 (c : Int))], defers := [] }) (by kernel_rfl) (by kernel_rfl) ?_
          refine wpAnyR_step (rs := [8]) (by kernel_rfl) (by simp) fun i hi => ?_
          cases List.mem_singleton.1 hi
          refine opR_skip (i := 8) (w' := (w3.setCell ⟨oc, 0, none⟩ (.slice o1 o2 o3)).setCell ⟨cc, 0, none⟩ (.int .i64 (c : Int))) rfl rfl (by simp [go_sem, hcb, hfb]) ?_
          refine lit_both (L' := #[true, true, true, true, true, true, true, true, true]) (b' := { tmps := #[.pointer (some ⟨xc, 0, none⟩), .pointer (some ⟨oc, 0, none⟩), .pointer (some ⟨cc, 0, none⟩), (.tuple #[.slice o1 o2 o3, .int .i64 (c : Int)]), (.pointer (some ⟨x, 0, none⟩)), V, (.int .i64 (c : Int)), (.tuple #[.slice o1 o2 o3, .int .i64 (c : Int)]), (.slice o1 o2 o3), (.int .i64 (c : Int))], defers := [] }) (by kernel_rfl) (by kernel_rfl) ?_
          refine wpAnyR_done (by kernel_rfl) ?_
          exact ⟨rfl, u', rfl, .tuple #[], by kernel_rfl, rfl, rfl, .slice o1 o2 o3, w3, hR, rfl⟩
      · cases List.mem_singleton.1 hi
        refine opR_value (i := 6) (d := some 9) (w' := w3) (v := .int .i64 (c : Int)) rfl rfl rfl (by kernel_rfl) ?_
        refine lit_both (L' := #[true, true, true, true, true, false, true, false, false]) (b' := { tmps := #[.pointer (some ⟨xc, 0, none⟩), .pointer (some ⟨oc, 0, none⟩), .pointer (some ⟨cc, 0, none⟩), (.tuple #[.slice o1 o2 o3, .int .i64 (c : Int)]), (.pointer (some ⟨x, 0, none⟩)), V, (.int .i64 (c : Int)), (.tuple #[.slice o1 o2 o3, .int .i64 (c : Int)]), undef, (.int .i64 (c : Int))], defers := [] }) (by kernel_rfl) (by kernel_rfl) ?_
        refine wpAnyR_step (rs := [5]) (by kernel_rfl) (by simp) fun i hi => ?_
        cases List.mem_singleton.1 hi
        refine opR_value (i := 5) (d := some 8) (w' := w3) (v := .slice o1 o2 o3) rfl rfl rfl (by kernel_rfl) ?_
        refine lit_both (L' := #[true, true, true, true, true, true, true, false, false]) (b' := { tmps := #[.pointer (some ⟨xc, 0, none⟩), .pointer (some ⟨oc, 0, none⟩), .pointer (some ⟨cc, 0, none⟩), (.tuple #[.slice o1 o2 o3, .int .i64 (c : Int)]), (.pointer (some ⟨x, 0, none⟩)), V, (.int .i64 (c : Int)), (.tuple #[.slice o1 o2 o3, .int .i64 (c : Int)]), (.slice o1 o2 o3), (.int .i64 (c : Int))], defers := [] }) (by kernel_rfl) (by kernel_rfl) ?_
        refine wpAnyR_step (rs := [7]) (by kernel_rfl) (by simp) fun i hi => ?_
        cases List.mem_singleton.1 hi
        refine opR_skip (i := 7) (w' := (w3.setCell ⟨oc, 0, none⟩ (.slice o1 o2 o3))) rfl rfl (by simp [go_sem, hca, hfa]) ?_
        refine lit_both (L' := #[true, true, true, true, true, true, true, true, false]) (b' := { tmps := #[.pointer (some ⟨xc, 0, none⟩), .pointer (some ⟨oc, 0, none⟩), .pointer (some ⟨cc, 0, none⟩), (.tuple #[.slice o1 o2 o3, .int .i64 (c : Int)]), (.pointer (some ⟨x, 0, none⟩)), V, (.int .i64 (c : Int)), (.tuple #[.slice o1 o2 o3, .int .i64 (c : Int)]), (.slice o1 o2 o3), (.int .i64 (c : Int))], defers := [] }) (by kernel_rfl) (by kernel_rfl) ?_
        refine wpAnyR_step (rs := [8]) (by kernel_rfl) (by simp) fun i hi => ?_
        cases List.mem_singleton.1 hi
        refine opR_skip (i := 8) (w' := (w3.setCell ⟨oc, 0, none⟩ (.slice o1 o2 o3)).setCell ⟨cc, 0, none⟩ (.int .i64 (c : Int))) rfl rfl (by simp [go_sem, hcb, hfb]) ?_
        refine lit_both (L' := #[true, true, true, true, true, true, true, true, true]) (b' := { tmps := #[.pointer (some ⟨xc, 0, none⟩), .pointer (some ⟨oc, 0, none⟩), .pointer (some ⟨cc, 0, none⟩), (.tuple #[.slice o1 o2 o3, .int .i64 (c : Int)]), (.pointer (some ⟨x, 0, none⟩)), V, (.int .i64 (c : Int)), (.tuple #[.slice o1 o2 o3, .int .i64 (c : Int)]), (.slice o1 o2 o3), (.int .i64 (c : Int))], defers := [] }) (by kernel_rfl) (by kernel_rfl) ?_
        refine wpAnyR_done (by kernel_rfl) ?_
        exact ⟨rfl, u', rfl, .tuple #[], by kernel_rfl, rfl, rfl, .slice o1 o2 o3, w3, hR, rfl⟩

set_option maxRecDepth 100000 in
set_option maxHeartbeats 4000000 in
theorem end1_any (x xc oc cc c : Nat) (u u' : FrameMode) (V : Value) (w : World) (R : Value → World → Prop)
    (hx : Blk w xc 27 #[.pointer (some ⟨x, 0, none⟩)]) (hoc : oc ≠ cc)
    (hrec : ∀ (c₀ : Frame) (cs : List Frame), c₀.mode = u → recov (c₀ :: cs) = (V, { c₀ with mode := u' } :: cs))
    (hcaught : ∀ w', Calls Tryz.prog 16 #[V] w' fun e w'' => e = .returned (.int .i64 (c : Int)) ∧ Below w'.heap.size w' w'')
    (hleave : ∀ w', Below w.heap.size w w' → Calls Tryz.prog 15 #[.pointer (some ⟨x, 0, none⟩), .int .i64 (c : Int)] w' fun e w'' => ∃ o1 o2 o3, e = .returned (.tuple #[.slice o1 o2 o3, .int .i64 (c : Int)]) ∧ R (.slice o1 o2 o3) w'' ∧ (∃ o0, Blk w'' oc 22 #[o0]) ∧ (∃ c0, Blk w'' cc 28 #[c0])) :
    CallsD Tryz.prog 29 #[.pointer (some ⟨xc, 0, none⟩), .pointer (some ⟨oc, 0, none⟩), .pointer (some ⟨cc, 0, none⟩)] u w fun e u2 w' => u2 = u' ∧ Left2 oc cc c R e w' := by
  refine callsD_of_wpS Tryz.func29 rfl fun c₀ cs hu => ?_
  refine wpS_region_any (by kernel_rfl) ?_
  have hre := hrec c₀ cs hu
  have hload : ∀ W, Below w.heap.size w W → W.cell? ⟨xc, 0, none⟩ = some (.pointer (some ⟨x, 0, none⟩)) := fun W hb => (hx.same (hb.block xc hx.lt)).cell 0
  have hbd : Below w.heap.size w w.drew := (Below.refl _ _).drew
  have htr : ∀ {W W'}, Below w.heap.size w W → Below W.heap.size W W' → Below w.heap.size w W' := fun h h' => h.trans (h'.mono h.size)
  change wpAnyR _ _ _ _ _ _ _ _ w.drew
  generalize w.drew = w1 at *
  refine wpAnyR_step (rs := [0, 1]) (by kernel_rfl) (by simp) fun i hi => ?_
  rcases List.mem_cons.1 hi with rfl | hi
  · refine opR_value (i := 0) (d := some 4) (v := .pointer (some ⟨x, 0, none⟩)) (w' := w1) rfl rfl rfl (by simp [go_sem, hload w1 hbd]) ?_
    refine lit_both (L' := #[true, false, false, false, false, false, false, false, false]) (b' := { tmps := #[.pointer (some ⟨xc, 0, none⟩), .pointer (some ⟨oc, 0, none⟩), .pointer (some ⟨cc, 0, none⟩), undef, (.pointer (some ⟨x, 0, none⟩)), undef, undef, undef, undef, undef], defers := [] }) (by kernel_rfl) (by kernel_rfl) ?_
    refine wpAnyR_step (rs := [1]) (by kernel_rfl) (by simp) fun i hi => ?_
    cases List.mem_singleton.1 hi
    refine opR_recover (i := 1) (d := some 5) rfl rfl rfl rfl hre ?_
    refine lit_both (L' := #[true, true, false, false, false, false, false, false, false]) (b' := { tmps := #[.pointer (some ⟨xc, 0, none⟩), .pointer (some ⟨oc, 0, none⟩), .pointer (some ⟨cc, 0, none⟩), undef, (.pointer (some ⟨x, 0, none⟩)), V, undef, undef, undef, undef], defers := [] }) (by kernel_rfl) (by kernel_rfl) ?_
    refine wpAnyR_step (rs := [2]) (by kernel_rfl) (by simp) fun i hi => ?_
    cases List.mem_singleton.1 hi
    refine opR_call (i := 2) (d := some 6) (f := 16) (args := #[V]) rfl rfl rfl (by kernel_rfl) (hcaught w1) ?_
    rintro e w2 ⟨rfl, hb2⟩
    refine ⟨_, rfl, ?_⟩
    refine lit_both (L' := #[true, true, true, false, false, false, false, false, false]) (b' := { tmps := #[.pointer (some ⟨xc, 0, none⟩), .pointer (some ⟨oc, 0, none⟩), .pointer (some ⟨cc, 0, none⟩), undef, (.pointer (some ⟨x, 0, none⟩)), V, (.int .i64 (c : Int)), undef, undef, undef], defers := [] }) (by kernel_rfl) (by kernel_rfl) ?_
    have hbd2 := htr hbd hb2
    refine wpAnyR_step (rs := [3]) (by kernel_rfl) (by simp) fun i hi => ?_
    cases List.mem_singleton.1 hi
    refine opR_call (i := 3) (d := some 7) (f := 15) (args := #[.pointer (some ⟨x, 0, none⟩), .int .i64 (c : Int)]) rfl rfl rfl (by kernel_rfl) (hleave w2 hbd2) ?_
    rintro e w3 ⟨o1, o2, o3, rfl, hR, ⟨o0, ho⟩, c0, hc⟩
    refine ⟨_, rfl, ?_⟩
    refine lit_both (L' := #[true, true, true, true, false, false, false, false, false]) (b' := { tmps := #[.pointer (some ⟨xc, 0, none⟩), .pointer (some ⟨oc, 0, none⟩), .pointer (some ⟨cc, 0, none⟩), undef, (.pointer (some ⟨x, 0, none⟩)), V, (.int .i64 (c : Int)), (.tuple #[.slice o1 o2 o3, .int .i64 (c : Int)]), undef, undef], defers := [] }) (by kernel_rfl) (by kernel_rfl) ?_
    have hca : w3.cell? ⟨oc, 0, none⟩ = some o0 := ho.cell 0
    have hc2 : Blk (w3.setCell ⟨oc, 0, none⟩ (.slice o1 o2 o3)) cc 28 #[c0] := ((Only.refl (fun k => oc = k) w3).setCell (p := ⟨oc, 0, none⟩) (fun _ => rfl) _).blk hc hoc
    have hcb : (w3.setCell ⟨oc, 0, none⟩ (.slice o1 o2 o3)).cell? ⟨cc, 0, none⟩ = some c0 := hc2.cell 0
    have hfa := ho.frozen 0
    have hfb := hc2.frozen 0
    refine wpAnyR_step (rs := [4]) (by kernel_rfl) (by simp) fun i hi => ?_
    cases List.mem_singleton.1 hi
    refine opR_value (i := 4) (d := some 3) (w' := w3) (v := .tuple #[.slice o1 o2 o3, .int .i64 (c : Int)]) rfl rfl rfl (by kernel_rfl) ?_
    refine lit_both (L' := #[true, true, true, true, true, false, false, false, false]) (b' := { tmps := #[.pointer (some ⟨xc, 0, none⟩), .pointer (some ⟨oc, 0, none⟩), .pointer (some ⟨cc, 0, none⟩), (.tuple #[.slice o1 o2 o3, .int .i64 (c : Int)]), (.pointer (some ⟨x, 0, none⟩)), V, (.int .i64 (c : Int)), (.tuple #[.slice o1 o2 o3, .int .i64 (c : Int)]), undef, undef], defers := [] }) (by kernel_rfl) (by kernel_rfl) ?_
    refine wpAnyR_step (rs := [5, 6]) (by kernel_rfl) (by simp) fun i hi => ?_
    rcases List.mem_cons.1 hi with rfl | hi
    · refine opR_value (i := 5) (d := some 8) (w' := w3) (v := .slice o1 o2 o3) rfl rfl rfl (by kernel_rfl) ?_
      refine lit_both (L' := #[true, true, true, true, true, true, false, false, false]) (b' := { tmps := #[.pointer (some ⟨xc, 0, none⟩), .pointer (some ⟨oc, 0, none⟩), .pointer (some ⟨cc, 0, none⟩), (.tuple #[.slice o1 o2 o3, .int .i64 (c : Int)]), (.pointer (some ⟨x, 0, none⟩)), V, (.int .i64 (c : Int)), (.tuple #[.slice o1 o2 o3, .int .i64 (c : Int)]), (.slice o1 o2 o3), undef], defers := [] }) (by kernel_rfl) (by kernel_rfl) ?_
      refine wpAnyR_step (rs := [6, 7]) (by kernel_rfl) (by simp) fun i hi => ?_
      rcases List.mem_cons.1 hi with rfl | hi
      · refine opR_value (i := 6) (d := some 9) (w' := w3) (v := .int .i64 (c : Int)) rfl rfl rfl (by kernel_rfl) ?_
        refine lit_both (L' := #[true, true, true, true, true, true, true, false, false]) (b' := { tmps := #[.pointer (some ⟨xc, 0, none⟩), .pointer (some ⟨oc, 0, none⟩), .pointer (some ⟨cc, 0, none⟩), (.tuple #[.slice o1 o2 o3, .int .i64 (c : Int)]), (.pointer (some ⟨x, 0, none⟩)), V, (.int .i64 (c : Int)), (.tuple #[.slice o1 o2 o3, .int .i64 (c : Int)]), (.slice o1 o2 o3), (.int .i64 (c : Int))], defers := [] }) (by kernel_rfl) (by kernel_rfl) ?_
        refine wpAnyR_step (rs := [7]) (by kernel_rfl) (by simp) fun i hi => ?_
        cases List.mem_singleton.1 hi
        refine opR_skip (i := 7) (w' := (w3.setCell ⟨oc, 0, none⟩ (.slice o1 o2 o3))) rfl rfl (by simp [go_sem, hca, hfa]) ?_
        refine lit_both (L' := #[true, true, true, true, true, true, true, true, false]) (b' := { tmps := #[.pointer (some ⟨xc, 0, none⟩), .pointer (some ⟨oc, 0, none⟩), .pointer (some ⟨cc, 0, none⟩), (.tuple #[.slice o1 o2 o3, .int .i64 (c : Int)]), (.pointer (some ⟨x, 0, none⟩)), V, (.int .i64 (c : Int)), (.tuple #[.slice o1 o2 o3, .int .i64 (c : Int)]), (.slice o1 o2 o3), (.int .i64 (c : Int))], defers := [] }) (by kernel_rfl) (by kernel_rfl) ?_
        refine wpAnyR_step (rs := [8]) (by kernel_rfl) (by simp) fun i hi => ?_
        cases List.mem_singleton.1 hi
        refine opR_skip (i := 8) (w' := (w3.setCell ⟨oc, 0, none⟩ (.slice o1 o2 o3)).setCell ⟨cc, 0, none⟩ (.int .i64 (c : Int))) rfl rfl (by simp [go_sem, hcb, hfb]) ?_
        refine lit_both (L' := #[true, true, true, true, true, true, true, true, true]) (b' := { tmps := #[.pointer (some ⟨xc, 0, none⟩), .pointer (some ⟨oc, 0, none⟩), .pointer (some ⟨cc, 0, none⟩), (.tuple #[.slice o1 o2 o3, .int .i64 (c : Int)]), (.pointer (some ⟨x, 0, none⟩)), V, (.int .i64 (c : Int)), (.tuple #[.slice o1 o2 o3, .int .i64 (c : Int)]), (.slice o1 o2 o3), (.int .i64 (c : Int))], defers := [] }) (by kernel_rfl) (by kernel_rfl) ?_
        refine wpAnyR_done (by kernel_rfl) ?_
        exact ⟨rfl, u', rfl, .tuple #[], by kernel_rfl, rfl, rfl, .slice o1 o2 o3, w3, hR, rfl⟩
      · cases List.mem_singleton.1 hi
        refine opR_skip (i := 7) (w' := (w3.setCell ⟨oc, 0, none⟩ (.slice o1 o2 o3))) rfl rfl (by simp [go_sem, hca, hfa]) ?_
        refine lit_both (L' := #[true, true, true, true, true, true, false, true, false]) (b' := { tmps := #[.pointer (some ⟨xc, 0, none⟩), .pointer (some ⟨oc, 0, none⟩), .pointer (some ⟨cc, 0, none⟩), (.tuple #[.slice o1 o2 o3, .int .i64 (c : Int)]), (.pointer (some ⟨x, 0, none⟩)), V, (.int .i64 (c : Int)), (.tuple #[.slice o1 o2 o3, .int .i64 (c : Int)]), (.slice o1 o2 o3), undef], defers := [] }) (by kernel_rfl) (by kernel_rfl) ?_
        refine wpAnyR_step (rs := [6]) (by kernel_rfl) (by simp) fun i hi => ?_
        cases List.mem_singleton.1 hi
        refine opR_value (i := 6) (d := some 9) (w' := (w3.setCell ⟨oc, 0, none⟩ (.slice o1 o2 o3))) (v := .int .i64 (c : Int)) rfl rfl rfl (by kernel_rfl) ?_
        refine lit_both (L' := #[true, true, true, true, true, true, true, true, false]) (b' := { tmps := #[.pointer (some ⟨xc, 0, none⟩), .pointer (some ⟨oc, 0, none⟩), .pointer (some ⟨cc, 0, none⟩), (.tuple #[.slice o1 o2 o3, .int .i64 (c : Int)]), (.pointer (some ⟨x, 0, none⟩)), V, (.int .i64 (c : Int)), (.tuple #[.slice o1 o2 o3, .int .i64 (c : Int)]), (.slice o1 o2 o3), (.int .i64 (c : Int))], defers := [] }) (by kernel_rfl) (by kernel_rfl) ?_
        refine wpAnyR_step (rs := [8]) (by kernel_rfl) (by simp) fun i hi => ?_
        cases List.mem_singleton.1 hi
        refine opR_skip (i := 8) (w' := (w3.setCell ⟨oc, 0, none⟩ (.slice o1 o2 o3)).setCell ⟨cc, 0, none⟩ (.int .i64 (c : Int))) rfl rfl (by simp [go_sem, hcb, hfb]) ?_
        refine lit_both (L' := #[true, true, true, true, true, true, true, true, true]) (b' := { tmps := #[.pointer (some ⟨xc, 0, none⟩), .pointer (some ⟨oc, 0, none⟩), .pointer (some ⟨cc, 0, none⟩), (.tuple #[.slice o1 o2 o3, .int .i64 (c : Int)]), (.pointer (some ⟨x, 0, none⟩)), V, (.int .i64 (c : Int)), (.tuple #[.slice o1 o2 o3, .int .i64 (c : Int)]), (.slice o1 o2 o3), (.int .i64 (c : Int))], defers := [] }) (by kernel_rfl) (by kernel_rfl) ?_
        refine wpAnyR_done (by kernel_rfl) ?_
        exact ⟨rfl, u', rfl, .tuple #[], by kernel_rfl, rfl, rfl, .slice o1 o2 o3, w3, hR, rfl⟩
    · cases List.mem_singleton.1 hi
      refine opR_value (i := 6) (d := some 9) (w' := w3) (v := .int .i64 (c : Int)) rfl rfl rfl (by kernel_rfl) ?_
      refine lit_both (L' := #[true, true, true, true, true, false, true, false, false]) (b' := { tmps := #[.pointer (some ⟨xc, 0, none⟩), .pointer (some ⟨oc, 0, none⟩), .pointer (some ⟨cc, 0, none⟩), (.tuple #[.slice o1 o2 o3, .int .i64 (c : Int)]), (.pointer (some ⟨x, 0, none⟩)), V, (.int .i64 (c : Int)), (.tuple #[.slice o1 o2 o3, .int .i64 (c : Int)]), undef, (.int .i64 (c : Int))], defers := [] }) (by kernel_rfl) (by kernel_rfl) ?_
      refine wpAnyR_step (rs := [5]) (by kernel_rfl) (by simp) fun i hi => ?_
      cases List.mem_singleton.1 hi
      refine opR_value (i := 5) (d := some 8) (w' := w3) (v := .slice o1 o2 o3) rfl rfl rfl (by kernel_rfl) ?_
      refine lit_both (L' := #[true, true, true, true, true, true, true, false, false]) (b' := { tmps := #[.pointer (some ⟨xc, 0, none⟩), .pointer (some ⟨oc, 0, none⟩), .pointer (some ⟨cc, 0, none⟩), (.tuple #[.slice o1 o2 o3, .int .i64 (c : Int)]), (.pointer (some ⟨x, 0, none⟩)), V, (.int .i64 (c : Int)), (.tuple #[.slice o1 o2 o3, .int .i64 (c : Int)]), (.slice o1 o2 o3), (.int .i64 (c : Int))], defers := [] }) (by kernel_rfl) (by kernel_rfl) ?_
      refine wpAnyR_step (rs := [7]) (by kernel_rfl) (by simp) fun i hi => ?_
      cases List.mem_singleton.1 hi
      refine opR_skip (i := 7) (w' := (w3.setCell ⟨oc, 0, none⟩ (.slice o1 o2 o3))) rfl rfl (by simp [go_sem, hca, hfa]) ?_
      refine lit_both (L' := #[true, true, true, true, true, true, true, true, false]) (b' := { tmps := #[.pointer (some ⟨xc, 0, none⟩), .pointer (some ⟨oc, 0, none⟩), .pointer (some ⟨cc, 0, none⟩), (.tuple #[.slice o1 o2 o3, .int .i64 (c : Int)]), (.pointer (some ⟨x, 0, none⟩)), V, (.int .i64 (c : Int)), (.tuple #[.slice o1 o2 o3, .int .i64 (c : Int)]), (.slice o1 o2 o3), (.int .i64 (c : Int))], defers := [] }) (by kernel_rfl) (by kernel_rfl) ?_
      refine wpAnyR_step (rs := [8]) (by kernel_rfl) (by simp) fun i hi => ?_
      cases List.mem_singleton.1 hi
      refine opR_skip (i := 8) (w' := (w3.setCell ⟨oc, 0, none⟩ (.slice o1 o2 o3)).setCell ⟨cc, 0, none⟩ (.int .i64 (c : Int))) rfl rfl (by simp [go_sem, hcb, hfb]) ?_
      refine lit_both (L' := #[true, true, true, true, true, true, true, true, true]) (b' := { tmps := #[.pointer (some ⟨xc, 0, none⟩), .pointer (some ⟨oc, 0, none⟩), .pointer (some ⟨cc, 0, none⟩), (.tuple #[.slice o1 o2 o3, .int .i64 (c : Int)]), (.pointer (some ⟨x, 0, none⟩)), V, (.int .i64 (c : Int)), (.tuple #[.slice o1 o2 o3, .int .i64 (c : Int)]), (.slice o1 o2 o3), (.int .i64 (c : Int))], defers := [] }) (by kernel_rfl) (by kernel_rfl) ?_
      refine wpAnyR_done (by kernel_rfl) ?_
      exact ⟨rfl, u', rfl, .tuple #[], by kernel_rfl, rfl, rfl, .slice o1 o2 o3, w3, hR, rfl⟩
  · cases List.mem_singleton.1 hi
    refine opR_recover (i := 1) (d := some 5) rfl rfl rfl rfl hre ?_
    refine lit_both (L' := #[false, true, false, false, false, false, false, false, false]) (b' := { tmps := #[.pointer (some ⟨xc, 0, none⟩), .pointer (some ⟨oc, 0, none⟩), .pointer (some ⟨cc, 0, none⟩), undef, undef, V, undef, undef, undef, undef], defers := [] }) (by kernel_rfl) (by kernel_rfl) ?_
    refine wpAnyR_step (rs := [0, 2]) (by kernel_rfl) (by simp) fun i hi => ?_
    rcases List.mem_cons.1 hi with rfl | hi
    · refine opR_value (i := 0) (d := some 4) (v := .pointer (some ⟨x, 0, none⟩)) (w' := w1) rfl rfl rfl (by simp [go_sem, hload w1 hbd]) ?_
      refine lit_both (L' := #[true, true, false, false, false, false, false, false, false]) (b' := { tmps := #[.pointer (some ⟨xc, 0, none⟩), .pointer (some ⟨oc, 0, none⟩), .pointer (some ⟨cc, 0, none⟩), undef, (.pointer (some ⟨x, 0, none⟩)), V, undef, undef, undef, undef], defers := [] }) (by kernel_rfl) (by kernel_rfl) ?_
      refine wpAnyR_step (rs := [2]) (by kernel_rfl) (by simp) fun i hi => ?_
      cases List.mem_singleton.1 hi
      refine opR_call (i := 2) (d := some 6) (f := 16) (args := #[V]) rfl rfl rfl (by kernel_rfl) (hcaught w1) ?_
      rintro e w2 ⟨rfl, hb2⟩
      refine ⟨_, rfl, ?_⟩
      refine lit_both (L' := #[true, true, true, false, false, false, false, false, false]) (b' := { tmps := #[.pointer (some ⟨xc, 0, none⟩), .pointer (some ⟨oc, 0, none⟩), .pointer (some ⟨cc, 0, none⟩), undef, (.pointer (some ⟨x, 0, none⟩)), V, (.int .i64 (c : Int)), undef, undef, undef], defers := [] }) (by kernel_rfl) (by kernel_rfl) ?_
      have hbd2 := htr hbd hb2
      refine wpAnyR_step (rs := [3]) (by kernel_rfl) (by simp) fun i hi => ?_
      cases List.mem_singleton.1 hi
      refine opR_call (i := 3) (d := some 7) (f := 15) (args := #[.pointer (some ⟨x, 0, none⟩), .int .i64 (c : Int)]) rfl rfl rfl (by kernel_rfl) (hleave w2 hbd2) ?_
      rintro e w3 ⟨o1, o2, o3, rfl, hR, ⟨o0, ho⟩, c0, hc⟩
      refine ⟨_, rfl, ?_⟩
      refine lit_both (L' := #[true, true, true, true, false, false, false, false, false]) (b' := { tmps := #[.pointer (some ⟨xc, 0, none⟩), .pointer (some ⟨oc, 0, none⟩), .pointer (some ⟨cc, 0, none⟩), undef, (.pointer (some ⟨x, 0, none⟩)), V, (.int .i64 (c : Int)), (.tuple #[.slice o1 o2 o3, .int .i64 (c : Int)]), undef, undef], defers := [] }) (by kernel_rfl) (by kernel_rfl) ?_
      have hca : w3.cell? ⟨oc, 0, none⟩ = some o0 := ho.cell 0
      have hc2 : Blk (w3.setCell ⟨oc, 0, none⟩ (.slice o1 o2 o3)) cc 28 #[c0] := ((Only.refl (fun k => oc = k) w3).setCell (p := ⟨oc, 0, none⟩) (fun _ => rfl) _).blk hc hoc
      have hcb : (w3.setCell ⟨oc, 0, none⟩ (.slice o1 o2 o3)).cell? ⟨cc, 0, none⟩ = some c0 := hc2.cell 0
      have hfa := ho.frozen 0
      have hfb := hc2.frozen 0
      refine wpAnyR_step (rs := [4]) (by kernel_rfl) (by simp) fun i hi => ?_
      cases List.mem_singleton.1 hi
      refine opR_value (i := 4) (d := some 3) (w' := w3) (v := .tuple #[.slice o1 o2 o3, .int .i64 (c : Int)]) rfl rfl rfl (by kernel_rfl) ?_
      refine lit_both (L' := #[true, true, true, true, true, false, false, false, false]) (b' := { tmps := #[.pointer (some ⟨xc, 0, none⟩), .pointer (some ⟨oc, 0, none⟩), .pointer (some ⟨cc, 0, none⟩), (.tuple #[.slice o1 o2 o3, .int .i64 (c : Int)]), (.pointer (some ⟨x, 0, none⟩)), V, (.int .i64 (c : Int)), (.tuple #[.slice o1 o2 o3, .int .i64 (c : Int)]), undef, undef], defers := [] }) (by kernel_rfl) (by kernel_rfl) ?_
      refine wpAnyR_step (rs := [5, 6]) (by kernel_rfl) (by simp) fun i hi => ?_
      rcases List.mem_cons.1 hi with rfl | hi
      · refine opR_value (i := 5) (d := some 8) (w' := w3) (v := .slice o1 o2 o3) rfl rfl rfl (by kernel_rfl) ?_
        refine lit_both (L' := #[true, true, true, true, true, true, false, false, false]) (b' := { tmps := #[.pointer (some ⟨xc, 0, none⟩), .pointer (some ⟨oc, 0, none⟩), .pointer (some ⟨cc, 0, none⟩), (.tuple #[.slice o1 o2 o3, .int .i64 (c : Int)]), (.pointer (some ⟨x, 0, none⟩)), V, (.int .i64 (c : Int)), (.tuple #[.slice o1 o2 o3, .int .i64 (c : Int)]), (.slice o1 o2 o3), undef], defers := [] }) (by kernel_rfl) (by kernel_rfl) ?_
        refine wpAnyR_step (rs := [6, 7]) (by kernel_rfl) (by simp) fun i hi => ?_
        rcases List.mem_cons.1 hi with rfl | hi
        · refine opR_value (i := 6) (d := some 9) (w' := w3) (v := .int .i64 (c : Int)) rfl rfl rfl (by kernel_rfl) ?_
          refine lit_both (L' := #[true, true, true, true, true, true, true, false, false]) (b' := { tmps := #[.pointer (some ⟨xc, 0, none⟩), .pointer (some ⟨oc, 0, none⟩), .pointer (some ⟨cc, 0, none⟩), (.tuple #[.slice o1 o2 o3, .int .i64 (c : Int)]), (.pointer (some ⟨x, 0, none⟩)), V, (.int .i64 (c : Int)), (.tuple #[.slice o1 o2 o3, .int .i64 (c : Int)]), (.slice o1 o2 o3), (.int .i64 (c : Int))], defers := [] }) (by kernel_rfl) (by kernel_rfl) ?_
          refine wpAnyR_step (rs := [7]) (by kernel_rfl) (by simp) fun i hi => ?_
          cases List.mem_singleton.1 hi
          refine opR_skip (i := 7) (w' := (w3.setCell ⟨oc, 0, none⟩ (.slice o1 o2 o3))) rfl rfl (by simp [go_sem, hca, hfa]) ?_
          refine lit_both (L' := #[true, true, true, true, true, true, true, true, false]) (b' := { tmps := #[.pointer (some ⟨xc, 0, none⟩), .pointer (some ⟨oc, 0, none⟩), .pointer (some ⟨cc, 0, none⟩), (.tuple #[.slice o1 o2 o3, .int .i64 (c : Int)]), (.pointer (some ⟨x, 0, none⟩)), V, (.int .i64 (c : Int)), (.tuple #[.slice o1 o2 o3, .int .i64 (c : Int)]), (.slice o1 o2 o3), (.int .i64 (c : Int))], defers := [] }) (by kernel_rfl) (by kernel_rfl) ?_
          refine wpAnyR_step (rs := [8]) (by kernel_rfl) (by simp) fun i hi => ?_
          cases List.mem_singleton.1 hi
          refine opR_skip (i := 8) (w' := (w3.setCell ⟨oc, 0, none⟩ (.slice o1 o2 o3)).setCell ⟨cc, 0, none⟩ (.int .i64 (c : Int))) rfl rfl (by simp [go_sem, hcb, hfb]) ?_
          refine lit_both (L' := #[true, true, true, true, true, true, true, true, true]) (b' := { tmps := #[.pointer (some ⟨xc, 0, none⟩), .pointer (some ⟨oc, 0, none⟩), .pointer (some ⟨cc, 0, none⟩), (.tuple #[.slice o1 o2 o3, .int .i64 (c : Int)]), (.pointer (some ⟨x, 0, none⟩)), V, (.int .i64 (c : Int)), (.tuple #[.slice o1 o2 o3, .int .i64 (c : Int)]), (.slice o1 o2 o3), (.int .i64 (c : Int))], defers := [] }) (by kernel_rfl) (by kernel_rfl) ?_
          refine wpAnyR_done (by kernel_rfl) ?_
          exact ⟨rfl, u', rfl, .tuple #[], by kernel_rfl, rfl, rfl, .slice o1 o2 o3, w3, hR, rfl⟩
        · cases List.mem_singleton.1 hi
          refine opR_skip (i := 7) (w' := (w3.setCell ⟨oc, 0, none⟩ (.slice o1 o2 o3))) rfl rfl (by simp [go_sem, hca, hfa]) ?_
          refine lit_both (L' := #[true, true, true, true, true, true, false, true, false]) (b' := { tmps := #[.pointer (some ⟨xc, 0, none⟩), .pointer (some ⟨oc, 0, none⟩), .pointer (some ⟨cc, 0, none⟩), (.tuple #[.slice o1 o2 o3, .int .i64 (c : Int)]), (.pointer (some ⟨x, 0, none⟩)), V, (.int .i64 (c : Int)), (.tuple #[.slice o1 o2 o3, .int .i64 (c : Int)]), (.slice o1 o2 o3), undef], defers := [] }) (by kernel_rfl) (by kernel_rfl) ?_
          refine wpAnyR_step (rs := [6]) (by kernel_rfl) (by simp) fun i hi => ?_
          cases List.mem_singleton.1 hi
          refine opR_value (i := 6) (d := some 9) (w' := (w3.setCell ⟨oc, 0, none⟩ (.slice o1 o2 o3))) (v := .int .i64 (c : Int)) rfl rfl rfl (by kernel_rfl) ?_
          refine lit_both (L' := #[true, true, true, true, true, true, true, true, false]) (b' := { tmps := #[.pointer (some ⟨xc, 0, none⟩), .pointer (some ⟨oc, 0, none⟩), .pointer (some ⟨cc, 0, none⟩), (.tuple #[.slice o1 o2 o3, .int .i64 (c : Int)]), (.pointer (some ⟨x, 0, none⟩)), V, (.int .i64 (c : Int)), (.tuple #[.slice o1 o2 o3, .int .i64 (c : Int)]), (.slice o1 o2 o3), (.int .i64 (c : Int))], defers := [] }) (by kernel_rfl) (by kernel_rfl) ?_
          refine wpAnyR_step (rs := [8]) (by kernel_rfl) (by simp) fun i hi => ?_
          cases List.mem_singleton.1 hi
          refine opR_skip (i := 8) (w' := (w3.setCell ⟨oc, 0, none⟩ (.slice o1 o2 o3)).setCell ⟨cc, 0, none⟩ (.int .i64 (c : Int))) rfl rfl (by simp [go_sem, hcb, hfb]) ?_
          refine lit_both (L' := #[true, true, true, true, true, true, true, true, true]) (b' := { tmps := #[.pointer (some ⟨xc, 0, none⟩), .pointer (some ⟨oc, 0, none⟩), .pointer (some ⟨cc, 0, none⟩), (.tuple #[.slice o1 o2 o3, .int .i64 (c : Int)]), (.pointer (some ⟨x, 0, none⟩)), V, (.int .i64 (c : Int)), (.tuple #[.slice o1 o2 o3, .int .i64 (c : Int)]), (.slice o1 o2 o3), (.int .i64 (c : Int))], defers := [] }) (by kernel_rfl) (by kernel_rfl) ?_
          refine wpAnyR_done (by kernel_rfl) ?_
          exact ⟨rfl, u', rfl, .tuple #[], by kernel_rfl, rfl, rfl, .slice o1 o2 o3, w3, hR, rfl⟩
      · cases List.mem_singleton.1 hi
        refine opR_value (i := 6) (d := some 9) (w' := w3) (v := .int .i64 (c : Int)) rfl rfl rfl (by kernel_rfl) ?_
        refine lit_both (L' := #[true, true, true, true, true, false, true, false, false]) (b' := { tmps := #[.pointer (some ⟨xc, 0, none⟩), .pointer (some ⟨oc, 0, none⟩), .pointer (some ⟨cc, 0, none⟩), (.tuple #[.slice o1 o2 o3, .int .i64 (c : Int)]), (.pointer (some ⟨x, 0, none⟩)), V, (.int .i64 (c : Int)), (.tuple #[.slice o1 o2 o3, .int .i64 (c : Int)]), undef, (.int .i64 (c : Int))], defers := [] }) (by kernel_rfl) (by kernel_rfl) ?_
        refine wpAnyR_step (rs := [5]) (by kernel_rfl) (by simp) fun i hi => ?_
        cases List.mem_singleton.1 hi
        refine opR_value (i := 5) (d := some 8) (w' := w3) (v := .slice o1 o2 o3) rfl rfl rfl (by kernel_rfl) ?_
        refine lit_both (L' := #[true, true, true, true, true, true, true, false, false]) (b' := { tmps := #[.pointer (some ⟨xc, 0, none⟩), .pointer (some ⟨oc, 0, none⟩), .pointer (some ⟨cc, 0, none⟩), (.tuple #[.slice o1 o2 o3, .int .i64 (c : Int)]), (.pointer (some ⟨x, 0, none⟩)), V, (.int .i64 (c : Int)), (.tuple #[.slice o1 o2 o3, .int .i64 (c : Int)]), (.slice o1 o2 o3), (.int .i64 (c : Int))], defers := [] }) (by kernel_rfl) (by kernel_rfl) ?_
        refine wpAnyR_step (rs := [7]) (by kernel_rfl) (by simp) fun i hi => ?_
        cases List.mem_singleton.1 hi
        refine opR_skip (i := 7) (w' := (w3.setCell ⟨oc, 0, none⟩ (.slice o1 o2 o3))) rfl rfl (by simp [go_sem, hca, hfa]) ?_
        refine lit_both (L' := #[true, true, true, true, true, true, true, true, false]) (b' := { tmps := #[.pointer (some ⟨xc, 0, none⟩), .pointer (some ⟨oc, 0, none⟩), .pointer (some ⟨cc, 0, none⟩), (.tuple #[.slice o1 o2 o3, .int .i64 (c : Int)]), (.pointer (some ⟨x, 0, none⟩)), V, (.int .i64 (c : Int)), (.tuple #[.slice o1 o2 o3, .int .i64 (c : Int)]), (.slice o1 o2 o3), (.int .i64 (c : Int))], defers := [] }) (by kernel_rfl) (by kernel_rfl) ?_
        refine wpAnyR_step (rs := [8]) (by kernel_rfl) (by simp) fun i hi => ?_
        cases List.mem_singleton.1 hi
        refine opR_skip (i := 8) (w' := (w3.setCell ⟨oc, 0, none⟩ (.slice o1 o2 o3)).setCell ⟨cc, 0, none⟩ (.int .i64 (c : Int))) rfl rfl (by simp [go_sem, hcb, hfb]) ?_
        refine lit_both (L' := #[true, true, true, true, true, true, true, true, true]) (b' := { tmps := #[.pointer (some ⟨xc, 0, none⟩), .pointer (some ⟨oc, 0, none⟩), .pointer (some ⟨cc, 0, none⟩), (.tuple #[.slice o1 o2 o3, .int .i64 (c : Int)]), (.pointer (some ⟨x, 0, none⟩)), V, (.int .i64 (c : Int)), (.tuple #[.slice o1 o2 o3, .int .i64 (c : Int)]), (.slice o1 o2 o3), (.int .i64 (c : Int))], defers := [] }) (by kernel_rfl) (by kernel_rfl) ?_
        refine wpAnyR_done (by kernel_rfl) ?_
        exact ⟨rfl, u', rfl, .tuple #[], by kernel_rfl, rfl, rfl, .slice o1 o2 o3, w3, hR, rfl⟩
    · cases List.mem_singleton.1 hi
      refine opR_call (i := 2) (d := some 6) (f := 16) (args := #[V]) rfl rfl rfl (by kernel_rfl) (hcaught w1) ?_
      rintro e w2 ⟨rfl, hb2⟩
      refine ⟨_, rfl, ?_⟩
      refine lit_both (L' := #[false, true, true, false, false, false, false, false, false]) (b' := { tmps := #[.pointer (some ⟨xc, 0, none⟩), .pointer (some ⟨oc, 0, none⟩), .pointer (some ⟨cc, 0, none⟩), undef, undef, V, (.int .i64 (c : Int)), undef, undef, undef], defers := [] }) (by kernel_rfl) (by kernel_rfl) ?_
      have hbd2 := htr hbd hb2
      refine wpAnyR_step (rs := [0]) (by kernel_rfl) (by simp) fun i hi => ?_
      cases List.mem_singleton.1 hi
      refine opR_value (i := 0) (d := some 4) (v := .pointer (some ⟨x, 0, none⟩)) (w' := w2) rfl rfl rfl (by simp [go_sem, hload w2 hbd2]) ?_
      refine lit_both (L' := #[true, true, true, false, false, false, false, false, false]) (b' := { tmps := #[.pointer (some ⟨xc, 0, none⟩), .pointer (some ⟨oc, 0, none⟩), .pointer (some ⟨cc, 0, none⟩), undef, (.pointer (some ⟨x, 0, none⟩)), V, (.int .i64 (c : Int)), undef, undef, undef], defers := [] }) (by kernel_rfl) (by kernel_rfl) ?_
      refine wpAnyR_step (rs := [3]) (by kernel_rfl) (by simp) fun i hi => ?_
      cases List.mem_singleton.1 hi
      refine opR_call (i := 3) (d := some 7) (f := 15) (args := #[.pointer (some ⟨x, 0, none⟩), .int .i64 (c : Int)]) rfl rfl rfl (by kernel_rfl) (hleave w2 hbd2) ?_
      rintro e w3 ⟨o1, o2, o3, rfl, hR, ⟨o0, ho⟩, c0, hc⟩
      refine ⟨_, rfl, ?_⟩
      refine lit_both (L' := #[true, true, true, true, false, false, false, false, false]) (b' := { tmps := #[.pointer (some ⟨xc, 0, none⟩), .pointer (some ⟨oc, 0, none⟩), .pointer (some ⟨cc, 0, none⟩), undef, (.pointer (some ⟨x, 0, none⟩)), V, (.int .i64 (c : Int)), (.tuple #[.slice o1 o2 o3, .int .i64 (c : Int)]), undef, undef], defers := [] }) (by kernel_rfl) (by kernel_rfl) ?_
      have hca : w3.cell? ⟨oc, 0, none⟩ = some o0 := ho.cell 0
      have hc2 : Blk (w3.setCell ⟨oc, 0, none⟩ (.slice o1 o2 o3)) cc 28 #[c0] := ((Only.refl (fun k => oc = k) w3).setCell (p := ⟨oc, 0, none⟩) (fun _ => rfl) _).blk hc hoc
      have hcb : (w3.setCell ⟨oc, 0, none⟩ (.slice o1 o2 o3)).cell? ⟨cc, 0, none⟩ = some c0 := hc2.cell 0
      have hfa := ho.frozen 0
      have hfb := hc2.frozen 0
      refine wpAnyR_step (rs := [4]) (by kernel_rfl) (by simp) fun i hi => ?_
      cases List.mem_singleton.1 hi
      refine opR_value (i := 4) (d := some 3) (w' := w3) (v := .tuple #[.slice o1 o2 o3, .int .i64 (c : Int)]) rfl rfl rfl (by kernel_rfl) ?_
      refine lit_both (L' := #[true, true, true, true, true, false, false, false, false]) (b' := { tmps := #[.pointer (some ⟨xc, 0, none⟩), .pointer (some ⟨oc, 0, none⟩), .pointer (some ⟨cc, 0, none⟩), (.tuple #[.slice o1 o2 o3, .int .i64 (c : Int)]), (.pointer (some ⟨x, 0, none⟩)), V, (.int .i64 (c : Int)), (.tuple #[.slice o1 o2 o3, .int .i64 (c : Int)]), undef, undef], defers := [] }) (by kernel_rfl) (by kernel_rfl) ?_
      refine wpAnyR_step (rs := [5, 6]) (by kernel_rfl) (by simp) fun i hi => ?_
      rcases List.mem_cons.1 hi with rfl | hi
      · refine opR_value (i := 5) (d := some 8) (w' := w3) (v := .slice o1 o2 o3) rfl rfl rfl (by kernel_rfl) ?_
        refine lit_both (L' := #[true, true, true, true, true, true, false, false, false]) (b' := { tmps := #[.pointer (some ⟨xc, 0, none⟩), .pointer (some ⟨oc, 0, none⟩), .pointer (some ⟨cc, 0, none⟩), (.tuple #[.slice o1 o2 o3, .int .i64 (c : Int)]), (.pointer (some ⟨x, 0, none⟩)), V, (.int .i64 (c : Int)), (.tuple #[.slice o1 o2 o3, .int .i64 (c : Int)]), (.slice o1 o2 o3), undef], defers := [] }) (by kernel_rfl) (by kernel_rfl) ?_
        refine wpAnyR_step (rs := [6, 7]) (by kernel_rfl) (by simp) fun i hi => ?_
        rcases List.mem_cons.1 hi with rfl | hi
        · refine opR_value (i := 6) (d := some 9) (w' := w3) (v := .int .i64 (c : Int)) rfl rfl rfl (by kernel_rfl) ?_
          refine lit_both (L' := #[true, true, true, true, true, true, true, false, false]) (b' := { tmps := #[.pointer (some ⟨xc, 0, none⟩), .pointer (some ⟨oc, 0, none⟩), .pointer (some ⟨cc, 0, none⟩), (.tuple #[.slice o1 o2 o3, .int .i64 (c : Int)]), (.pointer (some ⟨x, 0, none⟩)), V, (.int .i64 (c : Int)), (.tuple #[.slice o1 o2 o3, .int .i64 (c : Int)]), (.slice o1 o2 o3), (.int .i64 (c : Int))], defers := [] }) (by kernel_rfl) (by kernel_rfl) ?_
          refine wpAnyR_step (rs := [7]) (by kernel_rfl) (by simp) fun i hi => ?_
          cases List.mem_singleton.1 hi
          refine opR_skip (i := 7) (w' := (w3.setCell ⟨oc, 0, none⟩ (.slice o1 o2 o3))) rfl rfl (by simp [go_sem, hca, hfa]) ?_
          refine lit_both (L' := #[true, true, true, true, true, true, true, true, false]) (b' := { tmps := #[.pointer (some ⟨xc, 0, none⟩), .pointer (some ⟨oc, 0, none⟩), .pointer (some ⟨cc, 0, none⟩), (.tuple #[.slice o1 o2 o3, .int .i64 (c : Int)]), (.pointer (some ⟨x, 0, none⟩)), V, (.int .i64 (c : Int)), (.tuple #[.slice o1 o2 o3, .int .i64 (c : Int)]), (.slice o1 o2 o3), (.int .i64 (c : Int))], defers := [] }) (by kernel_rfl) (by kernel_rfl) ?_
          refine wpAnyR_step (rs := [8]) (by kernel_rfl) (by simp) fun i hi => ?_
          cases List.mem_singleton.1 hi
          refine opR_skip (i := 8) (w' := (w3.setCell ⟨oc, 0, none⟩ (.slice o1 o2 o3)).setCell ⟨cc, 0, none⟩ (.int .i64 (c : Int))) rfl rfl (by simp [go_sem, hcb, hfb]) ?_
          refine lit_both (L' := #[true, true, true, true, true, true, true, true, true]) (b' := { tmps := #[.pointer (some ⟨xc, 0, none⟩), .pointer (some ⟨oc, 0, none⟩), .pointer (some ⟨cc, 0, none⟩), (.tuple #[.slice o1 o2 o3, .int .i64 (c : Int)]), (.pointer (some ⟨x, 0, none⟩)), V, (.int .i64 (c : Int)), (.tuple #[.slice o1 o2 o3, .int .i64 (c : Int)]), (.slice o1 o2 o3), (.int .i64 (c : Int))], defers := [] }) (by kernel_rfl) (by kernel_rfl) ?_
          refine wpAnyR_done (by kernel_rfl) ?_
          exact ⟨rfl, u', rfl, .tuple #[], by kernel_rfl, rfl, rfl, .slice o1 o2 o3, w3, hR, rfl⟩
        · cases List.mem_singleton.1 hi
          refine opR_skip (i := 7) (w' := (w3.setCell ⟨oc, 0, none⟩ (.slice o1 o2 o3))) rfl rfl (by simp [go_sem, hca, hfa]) ?_
          refine lit_both (L' := #[true, true, true, true, true, true, false, true, false]) (b' := { tmps := #[.pointer (some ⟨xc, 0, none⟩), .pointer (some ⟨oc, 0, none⟩), .pointer (some ⟨cc, 0, none⟩), (.tuple #[.slice o1 o2 o3, .int .i64 (c : Int)]), (.pointer (some ⟨x, 0, none⟩)), V, (.int .i64 (c : Int)), (.tuple #[.slice o1 o2 o3, .int .i64 (c : Int)]), (.slice o1 o2 o3), undef], defers := [] }) (by kernel_rfl) (by kernel_rfl) ?_
          refine wpAnyR_step (rs := [6]) (by kernel_rfl) (by simp) fun i hi => ?_
          cases List.mem_singleton.1 hi
          refine opR_value (i := 6) (d := some 9) (w' := (w3.setCell ⟨oc, 0, none⟩ (.slice o1 o2 o3))) (v := .int .i64 (c : Int)) rfl rfl rfl (by kernel_rfl) ?_
          refine lit_both (L' := #[true, true, true, true, true, true, true, true, false]) (b' := { tmps := #[.pointer (some ⟨xc, 0, none⟩), .pointer (some ⟨oc, 0, none⟩), .pointer (some ⟨cc, 0, none⟩), (.tuple #[.slice o1 o2 o3, .int .i64 (c : Int)]), (.pointer (some ⟨x, 0, none⟩)), V, (.int .i64 (c : Int)), (.tuple #[.slice o1 o2 o3, .int .i64 (c : Int)]), (.slice o1 o2 o3), (.int .i64 (c : Int))], defers := [] }) (by kernel_rfl) (by kernel_rfl) ?_
          refine wpAnyR_step (rs := [8]) (by kernel_rfl) (by simp) fun i hi => ?_
          cases List.mem_singleton.1 hi
          refine opR_skip (i := 8) (w' := (w3.setCell ⟨oc, 0, none⟩ (.slice o1 o2 o3)).setCell ⟨cc, 0, none⟩ (.int .i64 (c : Int))) rfl rfl (by simp [go_sem, hcb, hfb]) ?_
          refine lit_both (L' := #[true, true, true, true, true, true, true, true, true]) (b' := { tmps := #[.pointer (some ⟨xc, 0, none⟩), .pointer (some ⟨oc, 0, none⟩), .pointer (some ⟨cc, 0, none⟩), (.tuple #[.slice o1 o2 o3, .int .i64 (c : Int)]), (.pointer (some ⟨x, 0, none⟩)), V, (.int .i64 (c : Int)), (.tuple #[.slice o1 o2 o3, .int .i64 (c : Int)]), (.slice o1 o2 o3), (.int .i64 (c : Int))], defers := [] }) (by kernel_rfl) (by kernel_rfl) ?_
          refine wpAnyR_done (by kernel_rfl) ?_
          exact ⟨rfl, u', rfl, .tuple #[], by kernel_rfl, rfl, rfl, .slice o1 o2 o3, w3, hR, rfl⟩
      · cases List.mem_singleton.1 hi
        refine opR_value (i := 6) (d := some 9) (w' := w3) (v := .int .i64 (c : Int)) rfl rfl rfl (by kernel_rfl) ?_
        refine lit_both (L' := #[true, true, true, true, true, false, true, false, false]) (b' := { tmps := #[.pointer (some ⟨xc, 0, none⟩), .pointer (some ⟨oc, 0, none⟩), .pointer (some ⟨cc, 0, none⟩), (.tuple #[.slice o1 o2 o3, .int .i64 (c : Int)]), (.pointer (some ⟨x, 0, none⟩)), V, (.int .i64 (c : Int)), (.tuple #[.slice o1 o2 o3, .int .i64 (c : Int)]), undef, (.int .i64 (c : Int))], defers := [] }) (by kernel_rfl) (by kernel_rfl) ?_
        refine wpAnyR_step (rs := [5]) (by kernel_rfl) (by simp) fun i hi => ?_
        cases List.mem_singleton.1 hi
        refine opR_value (i := 5) (d := some 8) (w' := w3) (v := .slice o1 o2 o3) rfl rfl rfl (by kernel_rfl) ?_
        refine lit_both (L' := #[true, true, true, true, true, true, true, false, false]) (b' := { tmps := #[.pointer (some ⟨xc, 0, none⟩), .pointer (some ⟨oc, 0, none⟩), .pointer (some ⟨cc, 0, none⟩), (.tuple #[.slice o1 o2 o3, .int .i64 (c : Int)]), (.pointer (some ⟨x, 0, none⟩)), V, (.int .i64 (c : Int)), (.tuple #[.slice o1 o2 o3, .int .i64 (c : Int)]), (.slice o1 o2 o3), (.int .i64 (c : Int))], defers := [] }) (by kernel_rfl) (by kernel_rfl) ?_
        refine wpAnyR_step (rs := [7]) (by kernel_rfl) (by simp) fun i hi => ?_
        cases List.mem_singleton.1 hi
        refine opR_skip (i := 7) (w' := (w3.setCell ⟨oc, 0, none⟩ (.slice o1 o2 o3))) rfl rfl (by simp [go_sem, hca, hfa]) ?_
        refine lit_both (L' := #[true, true, true, true, true, true, true, true, false]) (b' := { tmps := #[.pointer (some ⟨xc, 0, none⟩), .pointer (some ⟨oc, 0, none⟩), .pointer (some ⟨cc, 0, none⟩), (.tuple #[.slice o1 o2 o3, .int .i64 (c : Int)]), (.pointer (some ⟨x, 0, none⟩)), V, (.int .i64 (c : Int)), (.tuple #[.slice o1 o2 o3, .int .i64 (c : Int)]), (.slice o1 o2 o3), (.int .i64 (c : Int))], defers := [] }) (by kernel_rfl) (by kernel_rfl) ?_
        refine wpAnyR_step (rs := [8]) (by kernel_rfl) (by simp) fun i hi => ?_
        cases List.mem_singleton.1 hi
        refine opR_skip (i := 8) (w' := (w3.setCell ⟨oc, 0, none⟩ (.slice o1 o2 o3)).setCell ⟨cc, 0, none⟩ (.int .i64 (c : Int))) rfl rfl (by simp [go_sem, hcb, hfb]) ?_
        refine lit_both (L' := #[true, true, true, true, true, true, true, true, true]) (b' := { tmps := #[.pointer (some ⟨xc, 0, none⟩), .pointer (some ⟨oc, 0, none⟩), .pointer (some ⟨cc, 0, none⟩), (.tuple #[.slice o1 o2 o3, .int .i64 (c : Int)]), (.pointer (some ⟨x, 0, none⟩)), V, (.int .i64 (c : Int)), (.tuple #[.slice o1 o2 o3, .int .i64 (c : Int)]), (.slice o1 o2 o3), (.int .i64 (c : Int))], defers := [] }) (by kernel_rfl) (by kernel_rfl) ?_
        refine wpAnyR_done (by kernel_rfl) ?_
        exact ⟨rfl, u', rfl, .tuple #[], by kernel_rfl, rfl, rfl, .slice o1 o2 o3, w3, hR, rfl⟩
end Go.Proofs.YtjejlhpnhkacmaaGreatDoor.InfC
end
