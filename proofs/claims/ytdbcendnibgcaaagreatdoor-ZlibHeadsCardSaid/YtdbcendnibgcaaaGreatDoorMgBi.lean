import Derived.Test.YtdbcendnibgcaaaGreatDoorMgBf
import Derived.Test.YtdbcendnibgcaaaGreatDoorMgBh
import Derived.Test.YtdbcendnibgcaaaGreatDoorMgAt

section
/-
  ready; Used, Total; what a call leaves.
-/
namespace Go.Proofs.YtdbcendnibgcaaaGreatDoor.InfC
open Go.RowKit Go.My BitMath CanMath TabMath WinMath FeedC TabC CanC
open WinC (Wn)
open InfMath (M Ok CodeOk mu lack fixL fixD)

section
variable {B x : Nat} {w : World} {s : M} {d : Ad}
theorem ready_cell {cs : Array Value} (h : Hid (Blk w x 99 cs)) (n : Nat) (h6 : cs[6]? = some (.int .i64 (n : Int))) (hn : 1 ≤ n ∧ n ≤ 10) :
    Calls Tryz.prog 51 #[.pointer (some ⟨x, 0, none⟩)] w fun e w' => e = .returned (.tuple #[.int .i64 0, .bool true]) ∧ w = w' := by
  have h6' : w.cell? ⟨x, 6, none⟩ = some (.int .i64 (n : Int)) := by rw [h.out.cell 6, h6]
  have z1 : ((n : Int) == 0) = false := by simp; omega
  have z2 : ((n : Int) == 11) = false := by simp; omega
  clear h h6 hn
  go_enter Tryz.func51, Tryz.ntmps51
  go_wp2_with fail
  go_ret2
  exact ⟨rfl, rfl⟩
theorem ready_over {t c u : Nat} (h : Hid (Blk w x 99 (overCells t c u))) :
    Calls Tryz.prog 51 #[.pointer (some ⟨x, 0, none⟩)] w fun e w' => e = .returned (.tuple #[.int .i64 (c : Int), .bool false]) ∧ w = w' := by
  have h6 : w.cell? ⟨x, 6, none⟩ = some (.int .i64 11) := h.out.cell 6
  have h19 : w.cell? ⟨x, 19, none⟩ = some (.int .i64 (c : Int)) := h.out.cell 19
  clear h
  go_enter Tryz.func51, Tryz.ntmps51
  go_wp2_with fail
  go_ret2
  exact ⟨rfl, rfl⟩
theorem inf_used {cs : Array Value} (h : Hid (Blk w x 99 cs)) (n : Nat) (hc : cs[20]? = some (.int .i64 (n : Int))) :
    Calls Tryz.prog 40 #[.pointer (some ⟨x, 0, none⟩)] w fun e w' => e = .returned (.int .i64 (n : Int)) ∧ w = w' := by
  have h6' : w.cell? ⟨x, 20, none⟩ = some (.int .i64 (n : Int)) := by rw [h.out.cell 20, hc]
  clear h hc
  go_enter Tryz.func40, Tryz.ntmps40
  go_wp2_with fail
  go_ret
  exact ⟨rfl, rfl⟩
/-- Blocks of colour 4 are plain from now on. -/
def pale (c : Nat → Nat) : Nat → Nat := fun k => if c k = 4 then 0 else c k
theorem pale_of {c : Nat → Nat} {k i : Nat} (h : c k = i) (hi : i ≠ 4) : pale c k = i := by unfold pale; rw [if_neg (by omega)]; exact h
theorem pale_not (c : Nat → Nat) (k : Nat) : pale c k ≠ 4 := by unfold pale; split <;> simp_all
theorem At.pale (h : At B w x s d) (hn : d.oa = none) : At B w x s { d with c := InfC.pale d.c } := by
  obtain ⟨hk, r1, r2, r3, r4, r5, r6, r7, r8, r9, r10, r11, r12⟩ := h
  have hT : ∀ {g : Option Nat} {ls : Option (List Nat)} {f : Nat}, PT w d.c g ls f → PT w (InfC.pale d.c) g ls f := by
    rintro g ls f (⟨q, l, h1, h2, h3, ge, h4, h5⟩ | h)
    · exact .inl ⟨q, l, h1, h2, pale_of h3 (by decide), ge, pale_of h4 (by decide), h5⟩
    · exact .inr h
  refine ⟨hk, r1, pale_of r2 (by decide), fun k hk => pale_of (r3 k hk) (by decide), ⟨r4.1, fun k hk => pale_of (r4.2 k hk) (by decide)⟩, ⟨r5.1, fun k hk => pale_of (r5.2 k hk) (by decide)⟩, ⟨r6.1, fun k hk => ?_⟩, ⟨r7.1, fun k hk => pale_of (r7.2 k hk) (by decide)⟩, hT r8, hT r9, hT r10, hT r11, hT r12⟩
  simp only at hk
  rw [hn] at hk
  cases hk
theorem Mv.pale {c c' : Nat → Nat} {w w' : World} (h : Mv c c' w w') (hc : ∀ k, c k ≠ 4) : Mv c (InfC.pale c') w w' :=
  ⟨h.only, fun k hk => (pale_of (h.col k hk) (hc k))⟩

/-- What a call leaves: output, a code, an Inflate that stands there, or one that has ended. -/
def Out (B x : Nat) (w : World) (c0 : Nat → Nat) (t : M) (c : Nat) (e : Ending) (w' : World) : Prop :=
  ∃ oa oc, e = .returned (.tuple #[.slice oa t.out.length oc, .int .i64 (c : Int)]) ∧ Own 5 B w' (.slice oa t.out.length oc) t.out ∧
    (c = 5 → ∃ d', At B w' x { t with out := [] } d' ∧ Mv c0 d'.c w w' ∧ (∀ k, d'.c k ≠ 4) ∧ ∀ k, (Value.slice oa t.out.length oc).ownBlock = some k → d'.c k = 0) ∧
    (c ≠ 5 → Blk w' x 99 (overCells t.total c (if c = 0 then t.pushed - t.bits.length / 8 else 0)) ∧ Only (fun k => c0 k ≠ 0) w w')
/-- What leave leaves. -/
def LeaveTo (B x : Nat) (t : M) (c : Nat) (d : Ad) (w : World) (v : Value) (w' : World) : Prop :=
  v = .slice d.oa t.out.length d.oc ∧ (∀ k, v.ownBlock = some k → d.c k = 4) ∧ Own 5 B w' v t.out ∧ (c = 5 → At B w' x { t with out := [] } { d with oa := none, oc := 0 } ∧ Mv d.c d.c w w') ∧
    (c ≠ 5 → Blk w' x 99 (overCells t.total c (if c = 0 then t.pushed - t.bits.length / 8 else 0)) ∧ Only (fun k => k = x) w w')
theorem leave_any {t t' : M} {c : Nat} (h : Hid (At B w x t' d)) (ho : t'.out = t.out) (hto : t'.total = t.total) (h5 : c = 5 ∨ c = 0 → t' = t) (hok : Ok t) (hc2 : c ≤ 100) (w' : World) (hb : Below w.heap.size w w') :
    Calls Tryz.prog 53 #[.pointer (some ⟨x, 0, none⟩), .int .i64 (c : Int)] w' fun e w'' => ∃ o1 o2 o3, e = .returned (.tuple #[.slice o1 o2 o3, .int .i64 (c : Int)]) ∧ LeaveTo B x t c d w (.slice o1 o2 o3) w'' ∧ Mv d.c d.c w w'' := by
  have H := h.out.later hb
  by_cases hc : c = 5
  · subst hc
    obtain rfl := h5 (.inl rfl)
    refine (leave_short (Lib.hid H)).mono ?_
    rintro e w2 ⟨rfl, rfl⟩
    obtain ⟨A, m⟩ := H.noout
    have m2 : Mv d.c d.c w (w'.setCell ⟨x, 4, none⟩ (.slice none 0 0)) := (Mv.of_below hb _).trans m
    exact ⟨_, _, _, rfl, ⟨rfl, H.rs.out.2, (only_set w' x 4 _).own H.rs.out.1 (fun k hk hs => by subst hs; have := H.rs.out.2 _ hk; rw [H.rs.cx] at this; cases this), fun _ => ⟨A, m2⟩, fun h => absurd rfl h⟩, m2⟩
  · refine (leave_over (Lib.hid H) c (fun e => by rw [h5 (.inr e)]; exact hok) hc hc2).mono ?_
    rintro e w2 ⟨rfl, hk, hO⟩
    have hU : (if c = 0 then t'.pushed - t'.bits.length / 8 else 0) = (if c = 0 then t.pushed - t.bits.length / 8 else 0) := by
      by_cases h0 : c = 0
      · rw [h5 (.inr h0)]
      · rw [if_neg h0, if_neg h0]
    rw [hto, hU] at hk
    refine ⟨_, _, _, rfl, ⟨by rw [ho], H.rs.out.2, ?_, fun h => absurd h hc, fun _ => ⟨hk, (Only.of_below hb _).trans hO (fun _ _ h => h)⟩⟩, (Mv.of_below hb _).trans ((turn_x H.rs.cx hO).mv (by decide))⟩
    have hown := H.rs.out.1
    rw [ho] at hown
    rw [ho]
    exact hO.own hown (fun k hk1 hs => by have := H.rs.out.2 _ (by rw [ho]; exact hk1); rw [hs, H.rs.cx] at this; cases this)
end

section
variable {B x : Nat} {w w1 w3 W : World} {c0 c1 : Nat → Nat} {d3 : Ad} {t : M} {c oc cc : Nat} {o1 : Option Addr} {o2 o3 : Nat}
theorem only_oc (W : World) (oc cc : Nat) (u v : Value) : Only (fun k => k = oc ∨ k = cc) W ((W.setCell ⟨oc, 0, none⟩ u).setCell ⟨cc, 0, none⟩ v) :=
  ((only_set W oc 0 u).mono (fun _ _ h => .inl h)).trans ((only_set _ cc 0 v).mono (T := fun k => k = oc ∨ k = cc) (fun _ _ h => .inr h)) (fun _ _ h => h)
theorem close_out (hc4 : ∀ k, c0 k ≠ 4) (m1 : Mv c0 c1 w w1) (m2 : Mv c1 d3.c w1 w3) (h1 : w.heap.size ≤ oc ∧ oc < w1.heap.size ∧ c1 oc = 0) (h2 : w.heap.size ≤ cc ∧ cc < w1.heap.size ∧ c1 cc = 0)
    (hl : LeaveTo B x t c d3 w3 (.slice o1 o2 o3) W) (mW : Mv d3.c d3.c w3 W) (hx : x < w.heap.size) (hcx : c0 x ≠ 0) :
    Out B x w c0 t c (.returned (.tuple #[.slice o1 o2 o3, .int .i64 (c : Int)])) ((W.setCell ⟨oc, 0, none⟩ (.slice o1 o2 o3)).setCell ⟨cc, 0, none⟩ (.int .i64 (c : Int))) := by
  obtain ⟨hv, h4, hown, h5, hn⟩ := hl
  have e1 : d3.c oc = 0 := (m2.col oc h1.2.1).trans h1.2.2
  have e2 : d3.c cc = 0 := (m2.col cc h2.2.1).trans h2.2.2
  have hO := only_oc W oc cc (.slice o1 o2 o3) (.int .i64 (c : Int))
  simp only [Value.slice.injEq] at hv
  obtain ⟨rfl, rfl, rfl⟩ := hv
  refine ⟨_, _, rfl, hO.own hown (fun k hk hs => ?_), fun e => ?_, fun e => ?_⟩
  · have := h4 k hk
    rcases hs with rfl | rfl <;> omega
  · obtain ⟨hA, _⟩ := h5 e
    refine ⟨{ d3 with oa := none, oc := 0, c := pale d3.c }, ((hA.other e1 0 _).other e2 0 _).pale rfl, (((((m1.trans m2).trans mW).set h1.1 0 _).set h2.1 0 _).pale hc4), pale_not _, fun k hk => ?_⟩
    have := h4 k hk
    show pale d3.c k = 0
    unfold pale
    rw [if_pos this]
  · obtain ⟨hk, hx2⟩ := hn e
    refine ⟨hO.blk hk (fun hs => by rcases hs with e | e <;> omega), ?_⟩
    have q1 := (m1.trans m2).only
    refine ⟨?_, ?_, ?_, ?_, ?_⟩
    · exact hO.os.trans (hx2.os.trans q1.os)
    · exact hO.tape.trans (hx2.tape.trans q1.tape)
    · exact hO.output.trans (hx2.output.trans q1.output)
    · exact Nat.le_trans q1.size (Nat.le_trans hx2.size hO.size)
    · intro k hk hs
      have a1 := q1.block k hk hs
      have a2 := hx2.block k (Nat.lt_of_lt_of_le hk q1.size) (fun e => by subst e; exact hs hcx)
      have a3 := hO.block k (Nat.lt_of_lt_of_le hk (Nat.le_trans q1.size hx2.size)) (fun e => by rcases e with e | e <;> omega)
      exact a3.trans (a2.trans a1)
end
end Go.Proofs.YtdbcendnibgcaaaGreatDoor.InfC
end

section
/-
  Push, End.
-/
namespace Go.Proofs.YtdbcendnibgcaaaGreatDoor.InfC
open Go.RowKit Go.My BitMath CanMath TabMath WinMath FeedC TabC CanC
open WinC (Wn)
open InfMath (M Ok CodeOk mu lack fixL fixD)

theorem mf : ∀ (fn : Fn) (first cap : Array Value) (w : World), (Instr.makeFunc fn first cap).run Tryz.prog w = .ok (.func fn first cap) w := fun _ _ _ _ => rfl
theorem rm_end {t : M} {c : Nat} (h : InfMath.step t = .halt c) (hc : c = 5) : Rm t := by
  intro e
  unfold InfMath.step at h
  rw [e] at h
  simp only [InfMath.readDistance] at h
  split at h
  · cases h; omega
  · omega
theorem recov_idle (c₀ : Frame) (cs : List Frame) (h : c₀.mode = .returning) : recov (c₀ :: cs) = (.nilIface, { c₀ with mode := .returning } :: cs) := by
  cases c₀
  simp only at h
  subst h
  simp [recov, recoverD]
theorem recov_fault (f : Value) (older : List PanicEntry) (c₀ : Frame) (cs : List Frame) (h : c₀.mode = .panicking ({ v := f, recovered := false } :: older)) : recov (c₀ :: cs) = (f, { c₀ with mode := .panicking ({ v := f, recovered := true } :: older) } :: cs) := by
  cases c₀
  simp only at h
  subst h
  simp [recov, recoverD]
/-- The three cells that a call makes. -/
def boxes (w : World) (x : Nat) : World := ((w.alloc (.cells #[.pointer (some ⟨x, 0, none⟩)] 67)).alloc (.cells #[.slice none 0 0] 22)).alloc (.cells #[.int .i64 0] 25)
section
variable {B x : Nat} {w : World} {s : M} {d : Ad}
theorem boxes_below (w : World) (x : Nat) : Below w.heap.size w (boxes w x) := (((Below.refl _ _).alloc (Nat.le_refl _) _).alloc (by simp) _).alloc (by simp; omega) _
theorem boxes_size (w : World) (x : Nat) : (boxes w x).heap.size = w.heap.size + 3 := by unfold boxes; simp
theorem boxes_blk (w : World) (x : Nat) : Blk (boxes w x) w.heap.size 67 #[.pointer (some ⟨x, 0, none⟩)] ∧ Blk (boxes w x) (w.heap.size + 1) 22 #[.slice none 0 0] ∧ Blk (boxes w x) (w.heap.size + 2) 25 #[.int .i64 0] := by
  refine ⟨((Blk.new w _ _).alloc _).alloc _, ?_, ?_⟩
  · have := (Blk.new (w.alloc (.cells #[.pointer (some ⟨x, 0, none⟩)] 67)) 22 #[.slice none 0 0]).alloc (.cells #[.int .i64 0] 25)
    rw [World.size_alloc] at this
    exact this
  · have := Blk.new ((w.alloc (.cells #[.pointer (some ⟨x, 0, none⟩)] 67)).alloc (.cells #[.slice none 0 0] 22)) 25 #[.int .i64 0]
    rw [World.size_alloc, World.size_alloc] at this
    exact this
set_option maxRecDepth 100000 in
set_option maxHeartbeats 8000000 in
theorem push_any (h : Hid (At B w x s d)) (v : Value) (xs : List Bool) (n : Nat) (hok : Ok s) (hok2 : Ok { s with bits := s.bits ++ xs, pushed := s.pushed + n, ended := false }) (hr : Rm s) (hO : Ordr B w) (hn : s.next ≠ 11) (hc4 : ∀ k, d.c k ≠ 4)
    (hp : ∀ W, Below w.heap.size w W → Calls Tryz.prog 55 #[.pointer (some ⟨d.f, 0, none⟩), v] W fun e w' => e = .returned (.tuple #[]) ∧ Done B d.f d.F W (s.bits ++ xs) (s.pushed + n) false w') :
    Calls Tryz.prog 38 #[.pointer (some ⟨x, 0, none⟩), v] w fun e w' =>
      ∃ t c, InfMath.Ends { s with bits := s.bits ++ xs, pushed := s.pushed + n, ended := false } t c ∧ Out B x w d.c t c e w' := by
  have hmf := mf
  have HX := Lib.hid (And.intro h.out.lt (show d.c x ≠ 0 by rw [h.out.rs.cx]; decide))
  have HL := Lib.hid (And.intro h.out.rs.low h.out.rs.lt)
  obtain ⟨w1, hw1⟩ : ∃ w1, w1 = boxes w x := ⟨_, rfl⟩
  have hbb := boxes_blk w x
  have hA1 := h.out.plain (boxes_below w x)
  have hbl := boxes_below w x
  have hsz := boxes_size w x
  rw [← hw1] at hbb hA1 hbl hsz
  have hp1 := Lib.hid (hp w1 hbl)
  have HO := Lib.hid (hO.mv HL.out.1 HL.out.2 hA1.2)
  have HS := Lib.hid (And.intro hok hok2)
  have HR := Lib.hid hr
  have HN := Lib.hid (And.intro (And.intro hok.next1 (show s.next ≤ 10 by have := hok.next2; omega)) hc4)
  have HB := Lib.hid (And.intro hbl hsz)
  have HBX := Lib.hid hbb.1
  have HBO := Lib.hid hbb.2.1
  have HBC := Lib.hid hbb.2.2
  have HM1 := Lib.hid hA1.2
  have HA1 := Lib.hid hA1.1
  unfold boxes at hw1
  clear h hp hO hok hok2 hr hn hc4 hbb hA1 hbl hsz
  go_enter_defers Tryz.func38, Tryz.ntmps38
  go_upto_region 1 with (fail)
  rw [← hw1]
  clear hw1 hmf
  have hcx : w1.cell? ⟨w.heap.size, 0, none⟩ = some (.pointer (some ⟨x, 0, none⟩)) := HBX.out.cell 0
  obtain ⟨cc, hcc⟩ : ∃ cc, cc = w.heap.size + 1 + 1 := ⟨_, rfl⟩
  rw [show w.heap.size + 2 = w.heap.size + 1 + 1 from rfl, ← hcc] at HBC
  rw [← hcc]
  obtain ⟨oc, hoc⟩ : ∃ oc, oc = w.heap.size + 1 := ⟨_, rfl⟩
  rw [← hoc] at HBO ⊢
  obtain ⟨xc, hxc⟩ : ∃ xc, xc = w.heap.size := ⟨_, rfl⟩
  rw [← hxc] at HBX hcx ⊢
  have HE := Lib.hid (And.intro hcc (And.intro hoc hxc))
  clear hcc hoc hxc
  have HQ := Lib.hid (ready_cell (Lib.hid HA1.out.blk) s.next rfl HN.out.1)
  have h2 : w1.cell? ⟨x, 2, none⟩ = some (.pointer (some ⟨d.f, 0, none⟩)) := HA1.out.blk.cell 2
  go_wp2_with fail
  refine HQ.out.mono ?_
  rintro e w2 ⟨rfl, rfl⟩
  go_wp2_with fail
  refine hp1.out.mono ?_
  rintro e w2 ⟨rfl, hD⟩
  obtain ⟨c2, F2, hA2, hM2⟩ := HA1.out.feds hD
  have HA2 := Lib.hid hA2
  have HM2 := Lib.hid hM2
  have hcx2 : w2.cell? ⟨xc, 0, none⟩ = some (.pointer (some ⟨x, 0, none⟩)) := (hM2.blk HBX.out (recol_new d.c (by have := HE.out; omega))).cell 0
  have HRun := Lib.hid (run_any HA2 HS.out.2 HR.out (HO.out.mv HA1.out.rs.low HA1.out.rs.lt hM2))
  clear hD hA2 hM2 hp1 HQ h2 hcx
  go_wp2_with fail
  refine HRun.out.mono ?_
  rintro e w3 ⟨c, t, t', d3, M3, he, hends, A3, ho, hto, h5⟩
  have HC : Hid (c ≤ 100 ∧ Ok t) := Lib.hid ⟨by have := InfMath.halt_codes hends.2; omega, HS.out.2.steps hends.1⟩
  have hcol : ∀ k, xc ≤ k → k < w1.heap.size → d3.c k = 0 := fun k hk hk2 => (M3.out.col k (Nat.lt_of_lt_of_le hk2 HM2.out.size)).trans ((HM2.out.col k hk2).trans (recol_new d.c (by have := HE.out; omega)))
  have hne : ∀ {k : Nat} {ty : TypeId} {cs : Array Value}, xc ≤ k → Hid (Blk w1 k ty cs) → Blk w3 k ty cs := fun hk hb => M3.out.blk (HM2.out.blk hb.out (recol_new d.c (by have := HE.out; omega))) ((HM2.out.col _ hb.out.lt).trans (recol_new d.c (by have := HE.out; omega)))
  have HX3 := Lib.hid (hne (Nat.le_refl _) HBX)
  have HO3 := Lib.hid (hne (by have := HE.out; omega) HBO)
  have HC3 := Lib.hid (hne (by have := HE.out; omega) HBC)
  have hz1 : d3.c oc = 0 := hcol oc (by have := HE.out; omega) HBO.out.lt
  have hz2 : d3.c cc = 0 := hcol cc (by have := HE.out; omega) HBC.out.lt
  have HZ := Lib.hid (And.intro hz1 hz2)
  have HLv : Hid (∀ w', Below w3.heap.size w3 w' → Calls Tryz.prog 53 #[.pointer (some ⟨x, 0, none⟩), .int .i64 (c : Int)] w' fun e w'' => ∃ o1 o2 o3, e = .returned (.tuple #[.slice o1 o2 o3, .int .i64 (c : Int)]) ∧ (LeaveTo B x t c d3 w3 (.slice o1 o2 o3) w'' ∧ Mv d3.c d3.c w3 w'') ∧ (∃ o0, Blk w'' oc 22 #[o0]) ∧ (∃ c0, Blk w'' cc 25 #[c0])) := Lib.hid fun w' hb => by
    refine (leave_any A3 ho hto h5 HC.out.2 HC.out.1 w' hb).mono ?_
    rintro e w'' ⟨o1, o2, o3, rfl, hL, hM⟩
    exact ⟨o1, o2, o3, rfl, ⟨hL, hM⟩, ⟨_, hM.blk HO3.out hz1⟩, ⟨_, hM.blk HC3.out hz2⟩⟩
  have HEnd : Hid (∀ (o1 : Option Addr) (o2 o3 : Nat) (W : World), LeaveTo B x t c d3 w3 (.slice o1 o2 o3) W → Mv d3.c d3.c w3 W → Out B x w d.c t c (.returned (.tuple #[.slice o1 o2 o3, .int .i64 (c : Int)])) ((W.setCell ⟨oc, 0, none⟩ (.slice o1 o2 o3)).setCell ⟨cc, 0, none⟩ (.int .i64 (c : Int)))) := Lib.hid fun o1 o2 o3 W hl hm =>
    close_out HN.out.2 HM1.out (HM2.out.trans M3.out) ⟨by have := HE.out; omega, HBO.out.lt, recol_new d.c (by have := HE.out; omega)⟩ ⟨by have := HE.out; omega, HBC.out.lt, recol_new d.c (by have := HE.out; omega)⟩ hl hm HX.out.1 HX.out.2
  have HEnds := Lib.hid hends
  have HAB : Hid (oc ≠ cc) := Lib.hid (by have := HE.out; omega)
  clear hends ho hto h5 hcol hne hz1 hz2 hcx2
  rcases he with ⟨rfl, rfl⟩ | hth
  · go_wp2_with fail
    refine leaves_cons (f := 52) (args := #[.pointer (some ⟨xc, 0, none⟩), .pointer (some ⟨oc, 0, none⟩), .pointer (some ⟨cc, 0, none⟩)]) (by simp) (by simp [go_sem]) ?_
    refine (push1_any x xc oc cc 0 .returning .returning .nilIface w3 (fun v W => LeaveTo B x t 0 d3 w3 v W ∧ Mv d3.c d3.c w3 W) HX3.out HAB.out recov_idle (fun w' => caught_nil w') HLv.out).mono ?_
    rintro e u2 w5 ⟨rfl, rfl, ov, w4, ⟨hL, hM⟩, rfl⟩
    obtain rfl := hL.1
    have hk1 := (hM.blk HO3.out HZ.out.1).set_ 0 (.slice d3.oa t.out.length d3.oc)
    have hk2 := (only_set (w4.setCell ⟨oc, 0, none⟩ (.slice d3.oa t.out.length d3.oc)) cc 0 (.int .i64 ((0 : Nat) : Int))).blk hk1 HAB.out
    have hj1 := (only_set w4 oc 0 (.slice d3.oa t.out.length d3.oc)).blk (hM.blk HC3.out HZ.out.2) (fun e => HAB.out e.symm)
    have hj2 := hj1.set_ 0 (.int .i64 ((0 : Nat) : Int))
    have hca : ((w4.setCell ⟨oc, 0, none⟩ (.slice d3.oa t.out.length d3.oc)).setCell ⟨cc, 0, none⟩ (.int .i64 ((0 : Nat) : Int))).cell? ⟨oc, 0, none⟩ = some (.slice d3.oa t.out.length d3.oc) := hk2.cell 0
    have hcb : ((w4.setCell ⟨oc, 0, none⟩ (.slice d3.oa t.out.length d3.oc)).setCell ⟨cc, 0, none⟩ (.int .i64 ((0 : Nat) : Int))).cell? ⟨cc, 0, none⟩ = some (.int .i64 ((0 : Nat) : Int)) := hj2.cell 0
    have HF := Lib.hid (HEnd.out _ _ _ _ hL hM)
    clear hk1 hk2 hj1 hj2 hL hM
    generalize (w4.setCell ⟨oc, 0, none⟩ (.slice d3.oa t.out.length d3.oc)).setCell ⟨cc, 0, none⟩ (.int .i64 ((0 : Nat) : Int)) = w6 at *
    simp [Leaves, settle, results, Tryz.results38, go_sem, hca, hcb]
    exact ⟨t, 0, HEnds.out, HF.out⟩
  · unfold Thrown at hth
    subst hth
    go_wp2_with fail
    refine leaves_cons (f := 52) (args := #[.pointer (some ⟨xc, 0, none⟩), .pointer (some ⟨oc, 0, none⟩), .pointer (some ⟨cc, 0, none⟩)]) (by simp) (by simp [go_sem]) ?_
    refine (push1_any x xc oc cc c (.panicking ({ v := fault c, recovered := false } :: [])) (.panicking ({ v := fault c, recovered := true } :: [])) (fault c) w3 (fun v W => LeaveTo B x t c d3 w3 v W ∧ Mv d3.c d3.c w3 W) HX3.out HAB.out (recov_fault (fault c) []) (fun w' => caught_fault c w') HLv.out).mono ?_
    rintro e u2 w5 ⟨rfl, rfl, ov, w4, ⟨hL, hM⟩, rfl⟩
    obtain rfl := hL.1
    have hk1 := (hM.blk HO3.out HZ.out.1).set_ 0 (.slice d3.oa t.out.length d3.oc)
    have hk2 := (only_set (w4.setCell ⟨oc, 0, none⟩ (.slice d3.oa t.out.length d3.oc)) cc 0 (.int .i64 (c : Int))).blk hk1 HAB.out
    have hj1 := (only_set w4 oc 0 (.slice d3.oa t.out.length d3.oc)).blk (hM.blk HC3.out HZ.out.2) (fun e => HAB.out e.symm)
    have hj2 := hj1.set_ 0 (.int .i64 (c : Int))
    have hca : ((w4.setCell ⟨oc, 0, none⟩ (.slice d3.oa t.out.length d3.oc)).setCell ⟨cc, 0, none⟩ (.int .i64 (c : Int))).cell? ⟨oc, 0, none⟩ = some (.slice d3.oa t.out.length d3.oc) := hk2.cell 0
    have hcb : ((w4.setCell ⟨oc, 0, none⟩ (.slice d3.oa t.out.length d3.oc)).setCell ⟨cc, 0, none⟩ (.int .i64 (c : Int))).cell? ⟨cc, 0, none⟩ = some (.int .i64 (c : Int)) := hj2.cell 0
    have HF := Lib.hid (HEnd.out _ _ _ _ hL hM)
    clear hk1 hk2 hj1 hj2 hL hM
    generalize (w4.setCell ⟨oc, 0, none⟩ (.slice d3.oa t.out.length d3.oc)).setCell ⟨cc, 0, none⟩ (.int .i64 (c : Int)) = w6 at *
    simp [Leaves, settle, results, Tryz.results38, go_sem, hca, hcb]
    exact ⟨t, c, HEnds.out, HF.out⟩
set_option maxRecDepth 100000 in
set_option maxHeartbeats 8000000 in
theorem end_ (h : Hid (At B w x s d)) (hok : Ok s) (hok2 : Ok { s with ended := true }) (hr : Rm s) (hO : Ordr B w) (hn : s.next ≠ 11) (hc4 : ∀ k, d.c k ≠ 4)
    (hp : ∀ W, Below w.heap.size w W → Calls Tryz.prog 58 #[.pointer (some ⟨d.f, 0, none⟩)] W fun e w' => e = .returned (.tuple #[]) ∧ Done B d.f d.F W s.bits s.pushed true w') :
    Calls Tryz.prog 39 #[.pointer (some ⟨x, 0, none⟩)] w fun e w' =>
      ∃ t c, InfMath.Ends { s with ended := true } t c ∧ Out B x w d.c t c e w' := by
  have hmf := mf
  have HX := Lib.hid (And.intro h.out.lt (show d.c x ≠ 0 by rw [h.out.rs.cx]; decide))
  have HL := Lib.hid (And.intro h.out.rs.low h.out.rs.lt)
  obtain ⟨w1, hw1⟩ : ∃ w1, w1 = boxes w x := ⟨_, rfl⟩
  have hbb := boxes_blk w x
  have hA1 := h.out.plain (boxes_below w x)
  have hbl := boxes_below w x
  have hsz := boxes_size w x
  rw [← hw1] at hbb hA1 hbl hsz
  have hp1 := Lib.hid (hp w1 hbl)
  have HO := Lib.hid (hO.mv HL.out.1 HL.out.2 hA1.2)
  have HS := Lib.hid (And.intro hok hok2)
  have HR := Lib.hid hr
  have HN := Lib.hid (And.intro (And.intro hok.next1 (show s.next ≤ 10 by have := hok.next2; omega)) hc4)
  have HB := Lib.hid (And.intro hbl hsz)
  have HBX := Lib.hid hbb.1
  have HBO := Lib.hid hbb.2.1
  have HBC := Lib.hid hbb.2.2
  have HM1 := Lib.hid hA1.2
  have HA1 := Lib.hid hA1.1
  unfold boxes at hw1
  clear h hp hO hok hok2 hr hn hc4 hbb hA1 hbl hsz
  go_enter_defers Tryz.func39, Tryz.ntmps39
  go_upto_region 1 with (fail)
  rw [← hw1]
  clear hw1 hmf
  have hcx : w1.cell? ⟨w.heap.size, 0, none⟩ = some (.pointer (some ⟨x, 0, none⟩)) := HBX.out.cell 0
  obtain ⟨cc, hcc⟩ : ∃ cc, cc = w.heap.size + 1 + 1 := ⟨_, rfl⟩
  rw [show w.heap.size + 2 = w.heap.size + 1 + 1 from rfl, ← hcc] at HBC
  rw [← hcc]
  obtain ⟨oc, hoc⟩ : ∃ oc, oc = w.heap.size + 1 := ⟨_, rfl⟩
  rw [← hoc] at HBO ⊢
  obtain ⟨xc, hxc⟩ : ∃ xc, xc = w.heap.size := ⟨_, rfl⟩
  rw [← hxc] at HBX hcx ⊢
  have HE := Lib.hid (And.intro hcc (And.intro hoc hxc))
  clear hcc hoc hxc
  have HQ := Lib.hid (ready_cell (Lib.hid HA1.out.blk) s.next rfl HN.out.1)
  have h2 : w1.cell? ⟨x, 2, none⟩ = some (.pointer (some ⟨d.f, 0, none⟩)) := HA1.out.blk.cell 2
  go_wp2_with fail
  refine HQ.out.mono ?_
  rintro e w2 ⟨rfl, rfl⟩
  go_wp2_with fail
  refine hp1.out.mono ?_
  rintro e w2 ⟨rfl, hD⟩
  obtain ⟨c2, F2, hA2, hM2⟩ := HA1.out.feds hD
  have HA2 := Lib.hid hA2
  have HM2 := Lib.hid hM2
  have hcx2 : w2.cell? ⟨xc, 0, none⟩ = some (.pointer (some ⟨x, 0, none⟩)) := (hM2.blk HBX.out (recol_new d.c (by have := HE.out; omega))).cell 0
  have HRun := Lib.hid (run_any HA2 HS.out.2 HR.out (HO.out.mv HA1.out.rs.low HA1.out.rs.lt hM2))
  clear hD hA2 hM2 hp1 HQ h2 hcx
  go_wp2_with fail
  refine HRun.out.mono ?_
  rintro e w3 ⟨c, t, t', d3, M3, he, hends, A3, ho, hto, h5⟩
  have HC : Hid (c ≤ 100 ∧ Ok t) := Lib.hid ⟨by have := InfMath.halt_codes hends.2; omega, HS.out.2.steps hends.1⟩
  have hcol : ∀ k, xc ≤ k → k < w1.heap.size → d3.c k = 0 := fun k hk hk2 => (M3.out.col k (Nat.lt_of_lt_of_le hk2 HM2.out.size)).trans ((HM2.out.col k hk2).trans (recol_new d.c (by have := HE.out; omega)))
  have hne : ∀ {k : Nat} {ty : TypeId} {cs : Array Value}, xc ≤ k → Hid (Blk w1 k ty cs) → Blk w3 k ty cs := fun hk hb => M3.out.blk (HM2.out.blk hb.out (recol_new d.c (by have := HE.out; omega))) ((HM2.out.col _ hb.out.lt).trans (recol_new d.c (by have := HE.out; omega)))
  have HX3 := Lib.hid (hne (Nat.le_refl _) HBX)
  have HO3 := Lib.hid (hne (by have := HE.out; omega) HBO)
  have HC3 := Lib.hid (hne (by have := HE.out; omega) HBC)
  have hz1 : d3.c oc = 0 := hcol oc (by have := HE.out; omega) HBO.out.lt
  have hz2 : d3.c cc = 0 := hcol cc (by have := HE.out; omega) HBC.out.lt
  have HZ := Lib.hid (And.intro hz1 hz2)
  have HLv : Hid (∀ w', Below w3.heap.size w3 w' → Calls Tryz.prog 53 #[.pointer (some ⟨x, 0, none⟩), .int .i64 (c : Int)] w' fun e w'' => ∃ o1 o2 o3, e = .returned (.tuple #[.slice o1 o2 o3, .int .i64 (c : Int)]) ∧ (LeaveTo B x t c d3 w3 (.slice o1 o2 o3) w'' ∧ Mv d3.c d3.c w3 w'') ∧ (∃ o0, Blk w'' oc 22 #[o0]) ∧ (∃ c0, Blk w'' cc 25 #[c0])) := Lib.hid fun w' hb => by
    refine (leave_any A3 ho hto h5 HC.out.2 HC.out.1 w' hb).mono ?_
    rintro e w'' ⟨o1, o2, o3, rfl, hL, hM⟩
    exact ⟨o1, o2, o3, rfl, ⟨hL, hM⟩, ⟨_, hM.blk HO3.out hz1⟩, ⟨_, hM.blk HC3.out hz2⟩⟩
  have HEnd : Hid (∀ (o1 : Option Addr) (o2 o3 : Nat) (W : World), LeaveTo B x t c d3 w3 (.slice o1 o2 o3) W → Mv d3.c d3.c w3 W → Out B x w d.c t c (.returned (.tuple #[.slice o1 o2 o3, .int .i64 (c : Int)])) ((W.setCell ⟨oc, 0, none⟩ (.slice o1 o2 o3)).setCell ⟨cc, 0, none⟩ (.int .i64 (c : Int)))) := Lib.hid fun o1 o2 o3 W hl hm =>
    close_out HN.out.2 HM1.out (HM2.out.trans M3.out) ⟨by have := HE.out; omega, HBO.out.lt, recol_new d.c (by have := HE.out; omega)⟩ ⟨by have := HE.out; omega, HBC.out.lt, recol_new d.c (by have := HE.out; omega)⟩ hl hm HX.out.1 HX.out.2
  have HEnds := Lib.hid hends
  have HAB : Hid (oc ≠ cc) := Lib.hid (by have := HE.out; omega)
  clear hends ho hto h5 hcol hne hz1 hz2 hcx2
  rcases he with ⟨rfl, rfl⟩ | hth
  · go_wp2_with fail
    refine leaves_cons (f := 57) (args := #[.pointer (some ⟨xc, 0, none⟩), .pointer (some ⟨oc, 0, none⟩), .pointer (some ⟨cc, 0, none⟩)]) (by simp) (by simp [go_sem]) ?_
    refine (end1_any x xc oc cc 0 .returning .returning .nilIface w3 (fun v W => LeaveTo B x t 0 d3 w3 v W ∧ Mv d3.c d3.c w3 W) HX3.out HAB.out recov_idle (fun w' => caught_nil w') HLv.out).mono ?_
    rintro e u2 w5 ⟨rfl, rfl, ov, w4, ⟨hL, hM⟩, rfl⟩
    obtain rfl := hL.1
    have hk1 := (hM.blk HO3.out HZ.out.1).set_ 0 (.slice d3.oa t.out.length d3.oc)
    have hk2 := (only_set (w4.setCell ⟨oc, 0, none⟩ (.slice d3.oa t.out.length d3.oc)) cc 0 (.int .i64 ((0 : Nat) : Int))).blk hk1 HAB.out
    have hj1 := (only_set w4 oc 0 (.slice d3.oa t.out.length d3.oc)).blk (hM.blk HC3.out HZ.out.2) (fun e => HAB.out e.symm)
    have hj2 := hj1.set_ 0 (.int .i64 ((0 : Nat) : Int))
    have hca : ((w4.setCell ⟨oc, 0, none⟩ (.slice d3.oa t.out.length d3.oc)).setCell ⟨cc, 0, none⟩ (.int .i64 ((0 : Nat) : Int))).cell? ⟨oc, 0, none⟩ = some (.slice d3.oa t.out.length d3.oc) := hk2.cell 0
    have hcb : ((w4.setCell ⟨oc, 0, none⟩ (.slice d3.oa t.out.length d3.oc)).setCell ⟨cc, 0, none⟩ (.int .i64 ((0 : Nat) : Int))).cell? ⟨cc, 0, none⟩ = some (.int .i64 ((0 : Nat) : Int)) := hj2.cell 0
    have HF := Lib.hid (HEnd.out _ _ _ _ hL hM)
    clear hk1 hk2 hj1 hj2 hL hM
    generalize (w4.setCell ⟨oc, 0, none⟩ (.slice d3.oa t.out.length d3.oc)).setCell ⟨cc, 0, none⟩ (.int .i64 ((0 : Nat) : Int)) = w6 at *
    simp [Leaves, settle, results, Tryz.results39, go_sem, hca, hcb]
    exact ⟨t, 0, HEnds.out, HF.out⟩
  · unfold Thrown at hth
    subst hth
    go_wp2_with fail
    refine leaves_cons (f := 57) (args := #[.pointer (some ⟨xc, 0, none⟩), .pointer (some ⟨oc, 0, none⟩), .pointer (some ⟨cc, 0, none⟩)]) (by simp) (by simp [go_sem]) ?_
    refine (end1_any x xc oc cc c (.panicking ({ v := fault c, recovered := false } :: [])) (.panicking ({ v := fault c, recovered := true } :: [])) (fault c) w3 (fun v W => LeaveTo B x t c d3 w3 v W ∧ Mv d3.c d3.c w3 W) HX3.out HAB.out (recov_fault (fault c) []) (fun w' => caught_fault c w') HLv.out).mono ?_
    rintro e u2 w5 ⟨rfl, rfl, ov, w4, ⟨hL, hM⟩, rfl⟩
    obtain rfl := hL.1
    have hk1 := (hM.blk HO3.out HZ.out.1).set_ 0 (.slice d3.oa t.out.length d3.oc)
    have hk2 := (only_set (w4.setCell ⟨oc, 0, none⟩ (.slice d3.oa t.out.length d3.oc)) cc 0 (.int .i64 (c : Int))).blk hk1 HAB.out
    have hj1 := (only_set w4 oc 0 (.slice d3.oa t.out.length d3.oc)).blk (hM.blk HC3.out HZ.out.2) (fun e => HAB.out e.symm)
    have hj2 := hj1.set_ 0 (.int .i64 (c : Int))
    have hca : ((w4.setCell ⟨oc, 0, none⟩ (.slice d3.oa t.out.length d3.oc)).setCell ⟨cc, 0, none⟩ (.int .i64 (c : Int))).cell? ⟨oc, 0, none⟩ = some (.slice d3.oa t.out.length d3.oc) := hk2.cell 0
    have hcb : ((w4.setCell ⟨oc, 0, none⟩ (.slice d3.oa t.out.length d3.oc)).setCell ⟨cc, 0, none⟩ (.int .i64 (c : Int))).cell? ⟨cc, 0, none⟩ = some (.int .i64 (c : Int)) := hj2.cell 0
    have HF := Lib.hid (HEnd.out _ _ _ _ hL hM)
    clear hk1 hk2 hj1 hj2 hL hM
    generalize (w4.setCell ⟨oc, 0, none⟩ (.slice d3.oa t.out.length d3.oc)).setCell ⟨cc, 0, none⟩ (.int .i64 (c : Int)) = w6 at *
    simp [Leaves, settle, results, Tryz.results39, go_sem, hca, hcb]
    exact ⟨t, c, HEnds.out, HF.out⟩
set_option maxRecDepth 100000 in
theorem push_over {t c u : Nat} (h : Hid (Blk w x 99 (overCells t c u))) (v : Value) :
    Calls Tryz.prog 38 #[.pointer (some ⟨x, 0, none⟩), v] w fun e w' => e = .returned (.tuple #[.slice none 0 0, .int .i64 (c : Int)]) ∧ Below w.heap.size w w' := by
  obtain ⟨w1, hw1⟩ : ∃ w1, w1 = boxes w x := ⟨_, rfl⟩
  have hbb := boxes_blk w x
  have hbl := boxes_below w x
  rw [← hw1] at hbb hbl
  have HA1 := Lib.hid (h.out.same (hbl.block x h.out.lt))
  have HB := Lib.hid hbl
  have HBX := Lib.hid hbb.1
  have HBO := Lib.hid hbb.2.1
  have HBC := Lib.hid hbb.2.2
  unfold boxes at hw1
  clear h hbb hbl
  go_enter_defers Tryz.func38, Tryz.ntmps38
  go_upto_region 1 with (fail)
  rw [← hw1]
  clear hw1
  have hcx : w1.cell? ⟨w.heap.size, 0, none⟩ = some (.pointer (some ⟨x, 0, none⟩)) := HBX.out.cell 0
  obtain ⟨cc, hcc⟩ : ∃ cc, cc = w.heap.size + 1 + 1 := ⟨_, rfl⟩
  rw [show w.heap.size + 2 = w.heap.size + 1 + 1 from rfl, ← hcc] at HBC
  rw [← hcc]
  obtain ⟨oc, hoc⟩ : ∃ oc, oc = w.heap.size + 1 := ⟨_, rfl⟩
  rw [← hoc] at HBO ⊢
  obtain ⟨xc, hxc⟩ : ∃ xc, xc = w.heap.size := ⟨_, rfl⟩
  rw [← hxc] at HBX hcx ⊢
  have HE := Lib.hid (And.intro hcc (And.intro hoc hxc))
  clear hcc hoc hxc
  have HQ := Lib.hid (ready_over HA1)
  have hj0 : w1.cell? ⟨oc, 0, none⟩ = some (.slice none 0 0) := HBO.out.cell 0
  have hf0 := HBO.out.frozen 0
  have hk0 := (only_set w1 oc 0 (.slice none 0 0)).blk HBC.out (fun e => by have := HE.out; omega)
  have hk1 : (w1.setCell ⟨oc, 0, none⟩ (.slice none 0 0)).cell? ⟨cc, 0, none⟩ = some (.int .i64 0) := hk0.cell 0
  have hf1 := hk0.frozen 0
  have hca : ((w1.setCell ⟨oc, 0, none⟩ (.slice none 0 0)).setCell ⟨cc, 0, none⟩ (.int .i64 (c : Int))).cell? ⟨oc, 0, none⟩ = some (.slice none 0 0) := ((only_set (w1.setCell ⟨oc, 0, none⟩ (.slice none 0 0)) cc 0 (.int .i64 (c : Int))).blk (HBO.out.set_ 0 (.slice none 0 0)) (fun e => by have := HE.out; omega)).cell 0
  have hcb : ((w1.setCell ⟨oc, 0, none⟩ (.slice none 0 0)).setCell ⟨cc, 0, none⟩ (.int .i64 (c : Int))).cell? ⟨cc, 0, none⟩ = some (.int .i64 (c : Int)) := (hk0.set_ 0 (.int .i64 (c : Int))).cell 0
  have hbe : Hid (Below w.heap.size w ((w1.setCell ⟨oc, 0, none⟩ (.slice none 0 0)).setCell ⟨cc, 0, none⟩ (.int .i64 (c : Int)))) := Lib.hid ((only_oc w1 oc cc _ _).below HB.out.size (fun k hk => by have := HE.out; omega) |> HB.out.trans)
  clear hk0
  go_wp2_with fail
  refine HQ.out.mono ?_
  rintro e w2 ⟨rfl, rfl⟩
  go_wp2_with fail
  change Leaves _ _ _ _ _ _ _
  simp [Leaves, results, Tryz.results38, go_sem, hca, hcb]
  exact hbe.out
set_option maxRecDepth 100000 in
theorem end_over {t c u : Nat} (h : Hid (Blk w x 99 (overCells t c u))) :
    Calls Tryz.prog 39 #[.pointer (some ⟨x, 0, none⟩)] w fun e w' => e = .returned (.tuple #[.slice none 0 0, .int .i64 (c : Int)]) ∧ Below w.heap.size w w' := by
  obtain ⟨w1, hw1⟩ : ∃ w1, w1 = boxes w x := ⟨_, rfl⟩
  have hbb := boxes_blk w x
  have hbl := boxes_below w x
  rw [← hw1] at hbb hbl
  have HA1 := Lib.hid (h.out.same (hbl.block x h.out.lt))
  have HB := Lib.hid hbl
  have HBX := Lib.hid hbb.1
  have HBO := Lib.hid hbb.2.1
  have HBC := Lib.hid hbb.2.2
  unfold boxes at hw1
  clear h hbb hbl
  go_enter_defers Tryz.func39, Tryz.ntmps39
  go_upto_region 1 with (fail)
  rw [← hw1]
  clear hw1
  have hcx : w1.cell? ⟨w.heap.size, 0, none⟩ = some (.pointer (some ⟨x, 0, none⟩)) := HBX.out.cell 0
  obtain ⟨cc, hcc⟩ : ∃ cc, cc = w.heap.size + 1 + 1 := ⟨_, rfl⟩
  rw [show w.heap.size + 2 = w.heap.size + 1 + 1 from rfl, ← hcc] at HBC
  rw [← hcc]
  obtain ⟨oc, hoc⟩ : ∃ oc, oc = w.heap.size + 1 := ⟨_, rfl⟩
  rw [← hoc] at HBO ⊢
  obtain ⟨xc, hxc⟩ : ∃ xc, xc = w.heap.size := ⟨_, rfl⟩
  rw [← hxc] at HBX hcx ⊢
  have HE := Lib.hid (And.intro hcc (And.intro hoc hxc))
  clear hcc hoc hxc
  have HQ := Lib.hid (ready_over HA1)
  have hj0 : w1.cell? ⟨oc, 0, none⟩ = some (.slice none 0 0) := HBO.out.cell 0
  have hf0 := HBO.out.frozen 0
  have hk0 := (only_set w1 oc 0 (.slice none 0 0)).blk HBC.out (fun e => by have := HE.out; omega)
  have hk1 : (w1.setCell ⟨oc, 0, none⟩ (.slice none 0 0)).cell? ⟨cc, 0, none⟩ = some (.int .i64 0) := hk0.cell 0
  have hf1 := hk0.frozen 0
  have hca : ((w1.setCell ⟨oc, 0, none⟩ (.slice none 0 0)).setCell ⟨cc, 0, none⟩ (.int .i64 (c : Int))).cell? ⟨oc, 0, none⟩ = some (.slice none 0 0) := ((only_set (w1.setCell ⟨oc, 0, none⟩ (.slice none 0 0)) cc 0 (.int .i64 (c : Int))).blk (HBO.out.set_ 0 (.slice none 0 0)) (fun e => by have := HE.out; omega)).cell 0
  have hcb : ((w1.setCell ⟨oc, 0, none⟩ (.slice none 0 0)).setCell ⟨cc, 0, none⟩ (.int .i64 (c : Int))).cell? ⟨cc, 0, none⟩ = some (.int .i64 (c : Int)) := (hk0.set_ 0 (.int .i64 (c : Int))).cell 0
  have hbe : Hid (Below w.heap.size w ((w1.setCell ⟨oc, 0, none⟩ (.slice none 0 0)).setCell ⟨cc, 0, none⟩ (.int .i64 (c : Int)))) := Lib.hid ((only_oc w1 oc cc _ _).below HB.out.size (fun k hk => by have := HE.out; omega) |> HB.out.trans)
  clear hk0
  go_wp2_with fail
  refine HQ.out.mono ?_
  rintro e w2 ⟨rfl, rfl⟩
  go_wp2_with fail
  change Leaves _ _ _ _ _ _ _
  simp [Leaves, results, Tryz.results39, go_sem, hca, hcb]
  exact hbe.out
end
end Go.Proofs.YtdbcendnibgcaaaGreatDoor.InfC
end

section
/-
  New, All.
-/
namespace Go.Proofs.YtdbcendnibgcaaaGreatDoor.InfC
open Go.RowKit Go.My BitMath CanMath TabMath WinMath FeedC TabC CanC
open WinC (Wn)
open InfMath (M Ok CodeOk mu lack fixL fixD)

set_option maxRecDepth 100000 in
theorem own_weak {E : TypeId} {B B' : Nat} {w : World} {v : Value} {l : List UInt8} (h : Own E B w v l) (hB : B' ≤ B) : Own E B' w v l := by
  refine ⟨h.1, ?_⟩
  rcases h.2 with hn | ⟨g, cap, cur, h1, h2, rest⟩
  · exact .inl hn
  · exact .inr ⟨g, cap, cur, h1, Nat.le_trans hB h2, rest⟩
theorem chain_weak {B B' : Nat} {w : World} (hB : B' ≤ B) : ∀ {ps : List Pc} {nx : Option Addr}, Chain B w ps nx → Chain B' w ps nx
  | [], _, h => h
  | _ :: _, _, ⟨h, k⟩ => ⟨⟨h.blk, own_weak h.own hB, Nat.le_trans hB h.base, h.most⟩, chain_weak hB k⟩
theorem fed_weak {B B' f p : Nat} {w : World} {F : Nat → Prop} {bs : List Bool} {e : Bool} (h : Fed B w f F bs p e) (hB : B' ≤ B) : Fed B' w f F bs p e := by
  obtain ⟨q, ps, word, count, h1, h2, h3, rfl⟩ := h
  refine ⟨q, ps, word, count, ⟨h1.blk, ⟨h1.que.blk, chain_weak hB h1.que.chain, h1.que.apart, h1.que.full, Nat.le_trans hB h1.que.base⟩, Nat.le_trans hB h1.base, h1.small, h1.most⟩, h2, h3, rfl⟩
/-- The parts of a new Inflate. -/
def fresh (n n1 n2 : Nat) (F : Nat → Prop) : Ad :=
  ⟨recol n2 (recol n1 (recol n (fun _ => 0) 3) 2) 1, n1 + 1, F, n, none, none, 0, none, 0, none, none, none, none, none⟩
theorem inf_new_ok (wide : Bool) (S most : Nat) (w : World) (h1 : 0 < S) (h2 : S ≤ 65536) (h3 : most ≤ 1073741824) :
    Calls Tryz.prog 37 #[.bool wide, .int .i64 (S : Int), .int .i64 (most : Int)] w fun e w' =>
      ∃ x d, e = .returned (.tuple #[.pointer (some ⟨x, 0, none⟩), .int .i64 0]) ∧ At w.heap.size w' x (InfMath.start wide S most) d ∧ Below w.heap.size w w' ∧ ∀ k, d.c k ≠ 4 := by
  have HQ := Lib.hid (WinC.new_ok S w h1 h2)
  have z1 : ¬ ((most : Int) < 0) := by omega
  have z2 : ¬ ((most : Int) > 1073741824) := by omega
  have z3 : ¬ (1073741824 < (most : Int)) := by omega
  clear h1 h2 h3
  go_enter Tryz.func37, Tryz.ntmps37
  go_wp2_with fail
  refine HQ.out.mono ?_
  rintro e w1 ⟨rfl, hw, hb⟩
  have HW := Lib.hid (And.intro hw hb)
  clear hw hb HQ
  have HQ := Lib.hid (FeedC.new_any w1)
  go_wp2_with fail
  refine HQ.out.mono ?_
  rintro e w2 ⟨F, rfl, hf, hb2⟩
  have HF := Lib.hid (And.intro hf hb2)
  clear hf hb2 HQ
  go_wp2_with fail
  go_ret2
  have hs1 := HW.out.2.size
  have hs2 := HF.out.2.size
  have ha : Below w2.heap.size w2 (w2.alloc (.cells (cells (InfMath.start wide S most) (fresh w.heap.size w1.heap.size w2.heap.size F)) 99)) := (Below.refl _ _).alloc (Nat.le_refl _) _
  have hw2 := (HW.out.1.below HF.out.2).below ha
  have hf2 := HF.out.1.below ha
  refine ⟨w2.heap.size, fresh w.heap.size w1.heap.size w2.heap.size F, rfl, ⟨Blk.new _ _ _, by omega, recol_new _ (Nat.le_refl _), fun k hk => ?_, ⟨fed_weak hf2 hs1, fun k hk => ?_⟩, ⟨hw2, fun k hk => ?_⟩, ⟨Own.nil _ _ _, fun k hk => by cases hk⟩, ⟨OwnV.nil _ _ _, fun k hk => by cases hk⟩, .inr ⟨rfl, rfl⟩, .inr ⟨rfl, rfl⟩, .inr ⟨rfl, rfl⟩, .inr ⟨rfl, rfl⟩, .inr ⟨rfl, rfl⟩⟩, ?_, fun k => ?_⟩
  · show recol _ _ _ k = 0
    rw [recol_old _ (by omega), recol_old _ (by omega), recol_old _ (by omega)]
  · show recol _ _ _ k = 2
    have h1 := HF.out.1.lt k hk
    rw [recol_old _ (by omega), recol_new _ (by omega)]
  · show recol _ _ _ k = 3
    have h1 := HW.out.1.flt k hk
    have h2 := HW.out.1.fp k hk
    rw [recol_old _ (by omega), recol_old _ (by omega), recol_new _ (by omega)]
  · exact HW.out.2.trans ((HF.out.2.mono hs1).trans (ha.mono (by omega)))
  · show recol _ _ _ k ≠ 4
    unfold recol
    split
    · split
      · split
        · exact fun e => by cases e
        · decide
      · decide
    · decide
end Go.Proofs.YtdbcendnibgcaaaGreatDoor.InfC
end
