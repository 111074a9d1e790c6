import Derived.Test.YtjejlhpnhkacmaaGreatDoorMgN
import Derived.Test.YtjejlhpnhkacmaaGreatDoorMgM
import Derived.Test.YtjejlhpnhkacmaaGreatDoorMgC
import Derived.Test.YtjejlhpnhkacmaaGreatDoorMgD

section
/-
  ready; Used, Total; what a call leaves.
-/
namespace Go.Proofs.YtjejlhpnhkacmaaGreatDoor.InfC
open Go.RowKit Go.My BitMath CanMath TabMath WinMath FeedC TabC CanC
open WinC (Wn)
open InfMath (M Ok CodeOk mu lack fixL fixD)

section
variable {B x : Nat} {w : World} {s : M} {d : Ad}
theorem ready_cell {cs : Array Value} (h : Hid (Blk w x 49 cs)) (n : Nat) (h6 : cs[6]? = some (.int .i64 (n : Int))) (hn : 1 ≤ n ∧ n ≤ 10) :
    Calls Tryz.prog 13 #[.pointer (some ⟨x, 0, none⟩)] w fun e w' => e = .returned (.tuple #[.int .i64 0, .bool true]) ∧ w = w' := by
  have h6' : w.cell? ⟨x, 6, none⟩ = some (.int .i64 (n : Int)) := by rw [h.out.cell 6, h6]
  have z1 : ((n : Int) == 0) = false := by simp; omega
  have z2 : ((n : Int) == 11) = false := by simp; omega
  clear h h6 hn
  go_enter Tryz.func13, Tryz.ntmps13
  go_wp2_with fail
  go_ret2
  exact ⟨rfl, rfl⟩
theorem ready_over {t c u : Nat} (h : Hid (Blk w x 49 (overCells t c u))) :
    Calls Tryz.prog 13 #[.pointer (some ⟨x, 0, none⟩)] w fun e w' => e = .returned (.tuple #[.int .i64 (c : Int), .bool false]) ∧ w = w' := by
  have h6 : w.cell? ⟨x, 6, none⟩ = some (.int .i64 11) := h.out.cell 6
  have h19 : w.cell? ⟨x, 19, none⟩ = some (.int .i64 (c : Int)) := h.out.cell 19
  clear h
  go_enter Tryz.func13, Tryz.ntmps13
  go_wp2_with fail
  go_ret2
  exact ⟨rfl, rfl⟩
theorem inf_used {cs : Array Value} (h : Hid (Blk w x 49 cs)) (n : Nat) (hc : cs[20]? = some (.int .i64 (n : Int))) :
    Calls Tryz.prog 9 #[.pointer (some ⟨x, 0, none⟩)] w fun e w' => e = .returned (.int .i64 (n : Int)) ∧ w = w' := by
  have h6' : w.cell? ⟨x, 20, none⟩ = some (.int .i64 (n : Int)) := by rw [h.out.cell 20, hc]
  clear h hc
  go_enter Tryz.func9, Tryz.ntmps9
  go_wp2_with fail
  go_ret
  exact ⟨rfl, rfl⟩
/-- Blocks of colour 4 are plain from now on. -/
def pale (c : Nat → Nat) : Nat → Nat := fun k => if c k = 4 then 0 else c k
theorem pale_of {c : Nat → Nat} {k i : Nat} (h : c k = i) (hi : i ≠ 4) : pale c k = i := by unfold pale; rw [if_neg (by omega)]; exact h
theorem pale_not (c : Nat → Nat) (k : Nat) : pale c k ≠ 4 := by unfold pale; split <;> simp_all
theorem At.pale (h : At B w x s d) (hn : d.oa = none) : At B w x s { d with c := InfC.pale d.c } := by
  obtain ⟨hk, r1, r2, r3, r4, r5, r6, r7, r8, r9, r10, r11, r12⟩ := h
  have hT : ∀ {g : Option Nat} {ls : Option (List Nat)} {f : Nat}, PT w d.c g ls f → PT w (InfC.pale d.c) g ls f := by
    rintro g ls f (⟨q, l, h1, h2, h3, ge, h4, h5⟩ | h)
    · exact .inl ⟨q, l, h1, h2, pale_of h3 (by decide), ge, pale_of h4 (by decide), h5⟩
    · exact .inr h
  refine ⟨hk, r1, pale_of r2 (by decide), fun k hk => pale_of (r3 k hk) (by decide), ⟨r4.1, fun k hk => pale_of (r4.2 k hk) (by decide)⟩, ⟨r5.1, fun k hk => pale_of (r5.2 k hk) (by decide)⟩, ⟨r6.1, fun k hk => ?_⟩, ⟨r7.1, fun k hk => pale_of (r7.2 k hk) (by decide)⟩, hT r8, hT r9, hT r10, hT r11, hT r12⟩
  simp only at hk
  rw [hn] at hk
  cases hk
theorem Mv.pale {c c' : Nat → Nat} {w w' : World} (h : Mv c c' w w') (hc : ∀ k, c k ≠ 4) : Mv c (InfC.pale c') w w' :=
  ⟨h.only, fun k hk => (pale_of (h.col k hk) (hc k))⟩

/-- What a call leaves: output, a code, an Inflate that stands there, or one that has ended. -/
def Out (B x : Nat) (w : World) (c0 : Nat → Nat) (t : M) (c : Nat) (e : Ending) (w' : World) : Prop :=
  ∃ oa oc, e = .returned (.tuple #[.slice oa t.out.length oc, .int .i64 (c : Int)]) ∧ Own 5 B w' (.slice oa t.out.length oc) t.out ∧
    (c = 5 → ∃ d', At B w' x { t with out := [] } d' ∧ Mv c0 d'.c w w' ∧ (∀ k, d'.c k ≠ 4) ∧ ∀ k, (Value.slice oa t.out.length oc).ownBlock = some k → d'.c k = 0) ∧
    (c ≠ 5 → Blk w' x 49 (overCells t.total c (if c = 0 then t.pushed - t.bits.length / 8 else 0)) ∧ Only (fun k => c0 k ≠ 0) w w')
/-- What leave leaves. -/
def LeaveTo (B x : Nat) (t : M) (c : Nat) (d : Ad) (w : World) (v : Value) (w' : World) : Prop :=
  v = .slice d.oa t.out.length d.oc ∧ (∀ k, v.ownBlock = some k → d.c k = 4) ∧ Own 5 B w' v t.out ∧ (c = 5 → At B w' x { t with out := [] } { d with oa := none, oc := 0 } ∧ Mv d.c d.c w w') ∧
    (c ≠ 5 → Blk w' x 49 (overCells t.total c (if c = 0 then t.pushed - t.bits.length / 8 else 0)) ∧ Only (fun k => k = x) w w')
theorem leave_any {t t' : M} {c : Nat} (h : Hid (At B w x t' d)) (ho : t'.out = t.out) (hto : t'.total = t.total) (h5 : c = 5 ∨ c = 0 → t' = t) (hok : Ok t) (hc2 : c ≤ 100) (w' : World) (hb : Below w.heap.size w w') :
    Calls Tryz.prog 15 #[.pointer (some ⟨x, 0, none⟩), .int .i64 (c : Int)] w' fun e w'' => ∃ o1 o2 o3, e = .returned (.tuple #[.slice o1 o2 o3, .int .i64 (c : Int)]) ∧ LeaveTo B x t c d w (.slice o1 o2 o3) w'' ∧ Mv d.c d.c w w'' := by
  have H := h.out.later hb
  by_cases hc : c = 5
  · subst hc
    obtain rfl := h5 (.inl rfl)
    refine (leave_short (Lib.hid H)).mono ?_
    rintro e w2 ⟨rfl, rfl⟩
    obtain ⟨A, m⟩ := H.noout
    have m2 : Mv d.c d.c w (w'.setCell ⟨x, 4, none⟩ (.slice none 0 0)) := (Mv.of_below hb _).trans m
    exact ⟨_, _, _, rfl, ⟨rfl, H.rs.out.2, (only_set w' x 4 _).own H.rs.out.1 (fun k hk hs => by subst hs; have := H.rs.out.2 _ hk; rw [H.rs.cx] at this; cases this), fun _ => ⟨A, m2⟩, fun h => absurd rfl h⟩, m2⟩
  · refine (leave_over (Lib.hid H) c (fun e => by rw [h5 (.inr e)]; exact hok) hc hc2).mono ?_
    rintro e w2 ⟨rfl, hk, hO⟩
    have hU : (if c = 0 then t'.pushed - t'.bits.length / 8 else 0) = (if c = 0 then t.pushed - t.bits.length / 8 else 0) := by
      by_cases h0 : c = 0
      · rw [h5 (.inr h0)]
      · rw [if_neg h0, if_neg h0]
    rw [hto, hU] at hk
    refine ⟨_, _, _, rfl, ⟨by rw [ho], H.rs.out.2, ?_, fun h => absurd h hc, fun _ => ⟨hk, (Only.of_below hb _).trans hO (fun _ _ h => h)⟩⟩, (Mv.of_below hb _).trans ((turn_x H.rs.cx hO).mv (by decide))⟩
    have hown := H.rs.out.1
    rw [ho] at hown
    rw [ho]
    exact hO.own hown (fun k hk1 hs => by have := H.rs.out.2 _ (by rw [ho]; exact hk1); rw [hs, H.rs.cx] at this; cases this)
end

section
variable {B x : Nat} {w w1 w3 W : World} {c0 c1 : Nat → Nat} {d3 : Ad} {t : M} {c oc cc : Nat} {o1 : Option Addr} {o2 o3 : Nat}
theorem only_oc (W : World) (oc cc : Nat) (u v : Value) : Only (fun k => k = oc ∨ k = cc) W ((W.setCell ⟨oc, 0, none⟩ u).setCell ⟨cc, 0, none⟩ v) :=
  ((only_set W oc 0 u).mono (fun _ _ h => .inl h)).trans ((only_set _ cc 0 v).mono (T := fun k => k = oc ∨ k = cc) (fun _ _ h => .inr h)) (fun _ _ h => h)
theorem close_out (hc4 : ∀ k, c0 k ≠ 4) (m1 : Mv c0 c1 w w1) (m2 : Mv c1 d3.c w1 w3) (h1 : w.heap.size ≤ oc ∧ oc < w1.heap.size ∧ c1 oc = 0) (h2 : w.heap.size ≤ cc ∧ cc < w1.heap.size ∧ c1 cc = 0)
    (hl : LeaveTo B x t c d3 w3 (.slice o1 o2 o3) W) (mW : Mv d3.c d3.c w3 W) (hx : x < w.heap.size) (hcx : c0 x ≠ 0) :
    Out B x w c0 t c (.returned (.tuple #[.slice o1 o2 o3, .int .i64 (c : Int)])) ((W.setCell ⟨oc, 0, none⟩ (.slice o1 o2 o3)).setCell ⟨cc, 0, none⟩ (.int .i64 (c : Int))) := by
  obtain ⟨hv, h4, hown, h5, hn⟩ := hl
  have e1 : d3.c oc = 0 := (m2.col oc h1.2.1).trans h1.2.2
  have e2 : d3.c cc = 0 := (m2.col cc h2.2.1).trans h2.2.2
  have hO := only_oc W oc cc (.slice o1 o2 o3) (.int .i64 (c : Int))
  simp only [Value.slice.injEq] at hv
  obtain ⟨rfl, rfl, rfl⟩ := hv
  refine ⟨_, _, rfl, hO.own hown (fun k hk hs => ?_), fun e => ?_, fun e => ?_⟩
  · have := h4 k hk
    rcases hs with rfl | rfl <;> omega
  · obtain ⟨hA, _⟩ := h5 e
    refine ⟨{ d3 with oa := none, oc := 0, c := pale d3.c }, ((hA.other e1 0 _).other e2 0 _).pale rfl, (((((m1.trans m2).trans mW).set h1.1 0 _).set h2.1 0 _).pale hc4), pale_not _, fun k hk => ?_⟩
    have := h4 k hk
    show pale d3.c k = 0
    unfold pale
    rw [if_pos this]
  · obtain ⟨hk, hx2⟩ := hn e
    refine ⟨hO.blk hk (fun hs => by rcases hs with e | e <;> omega), ?_⟩
    have q1 := (m1.trans m2).only
    refine ⟨?_, ?_, ?_, ?_, ?_⟩
    · exact hO.os.trans (hx2.os.trans q1.os)
    · exact hO.tape.trans (hx2.tape.trans q1.tape)
    · exact hO.output.trans (hx2.output.trans q1.output)
    · exact Nat.le_trans q1.size (Nat.le_trans hx2.size hO.size)
    · intro k hk hs
      have a1 := q1.block k hk hs
      have a2 := hx2.block k (Nat.lt_of_lt_of_le hk q1.size) (fun e => by subst e; exact hs hcx)
      have a3 := hO.block k (Nat.lt_of_lt_of_le hk (Nat.le_trans q1.size hx2.size)) (fun e => by rcases e with e | e <;> omega)
      exact a3.trans (a2.trans a1)
end
end Go.Proofs.YtjejlhpnhkacmaaGreatDoor.InfC
end

section
/-
  Push, End.
-/
namespace Go.Proofs.YtjejlhpnhkacmaaGreatDoor.InfC
open Go.RowKit Go.My BitMath CanMath TabMath WinMath FeedC TabC CanC
open WinC (Wn)
open InfMath (M Ok CodeOk mu lack fixL fixD)

theorem mf : ∀ (fn : Fn) (first cap : Array Value) (w : World), (Instr.makeFunc fn first cap).run Tryz.prog w = .ok (.func fn first cap) w := fun _ _ _ _ => rfl
theorem rm_end {t : M} {c : Nat} (h : InfMath.step t = .halt c) (hc : c = 5) : Rm t := by
  intro e
  unfold InfMath.step at h
  rw [e] at h
  simp only [InfMath.readDistance] at h
  split at h
  · cases h; omega
  · omega
theorem recov_idle (c₀ : Frame) (cs : List Frame) (h : c₀.mode = .returning) : recov (c₀ :: cs) = (.nilIface, { c₀ with mode := .returning } :: cs) := by
  cases c₀
  simp only at h
  subst h
  simp [recov, recoverD]
theorem recov_fault (f : Value) (older : List PanicEntry) (c₀ : Frame) (cs : List Frame) (h : c₀.mode = .panicking ({ v := f, recovered := false } :: older)) : recov (c₀ :: cs) = (f, { c₀ with mode := .panicking ({ v := f, recovered := true } :: older) } :: cs) := by
  cases c₀
  simp only at h
  subst h
  simp [recov, recoverD]
/-- The three cells that a call makes. -/
def boxes (w : World) (x : Nat) : World := ((w.alloc (.cells #[.pointer (some ⟨x, 0, none⟩)] 27)).alloc (.cells #[.slice none 0 0] 22)).alloc (.cells #[.int .i64 0] 28)
section
variable {B x : Nat} {w : World} {s : M} {d : Ad}
theorem boxes_below (w : World) (x : Nat) : Below w.heap.size w (boxes w x) := (((Below.refl _ _).alloc (Nat.le_refl _) _).alloc (by simp) _).alloc (by simp; omega) _
theorem boxes_size (w : World) (x : Nat) : (boxes w x).heap.size = w.heap.size + 3 := by unfold boxes; simp
theorem boxes_blk (w : World) (x : Nat) : Blk (boxes w x) w.heap.size 27 #[.pointer (some ⟨x, 0, none⟩)] ∧ Blk (boxes w x) (w.heap.size + 1) 22 #[.slice none 0 0] ∧ Blk (boxes w x) (w.heap.size + 2) 28 #[.int .i64 0] := by
  refine ⟨((Blk.new w _ _).alloc _).alloc _, ?_, ?_⟩
  · have := (Blk.new (w.alloc (.cells #[.pointer (some ⟨x, 0, none⟩)] 27)) 22 #[.slice none 0 0]).alloc (.cells #[.int .i64 0] 28)
    rw [World.size_alloc] at this
    exact this
  · have := Blk.new ((w.alloc (.cells #[.pointer (some ⟨x, 0, none⟩)] 27)).alloc (.cells #[.slice none 0 0] 22)) 28 #[.int .i64 0]
    rw [World.size_alloc, World.size_alloc] at this
    exact this
set_option maxRecDepth 100000 in
set_option maxHeartbeats 8000000 in
theorem push_any (h : Hid (At B w x s d)) (v : Value) (xs : List Bool) (n : Nat) (hok : Ok s) (hok2 : Ok { s with bits := s.bits ++ xs, pushed := s.pushed + n, ended := false }) (hr : Rm s) (hO : Ordr B w) (hn : s.next ≠ 11) (hc4 : ∀ k, d.c k ≠ 4)
    (hp : ∀ W, Below w.heap.size w W → Calls Tryz.prog 17 #[.pointer (some ⟨d.f, 0, none⟩), v] W fun e w' => e = .returned (.tuple #[]) ∧ Done B d.f d.F W (s.bits ++ xs) (s.pushed + n) false w') :
    Calls Tryz.prog 7 #[.pointer (some ⟨x, 0, none⟩), v] w fun e w' =>
      ∃ t c, InfMath.Ends { s with bits := s.bits ++ xs, pushed := s.pushed + n, ended := false } t c ∧ Out B x w d.c t c e w' := by
  have hmf := mf
  have HX := Lib.hid (And.intro h.out.lt (show d.c x ≠ 0 by rw [h.out.rs.cx]; decide))
  have HL := Lib.hid (And.intro h.out.rs.low h.out.rs.lt)
  obtain ⟨w1, hw1⟩ : ∃ w1, w1 = boxes w x := ⟨_, rfl⟩
  have hbb := boxes_blk w x
  have hA1 := h.out.plain (boxes_below w x)
  have hbl := boxes_below w x
  have hsz := boxes_size w x
  rw [← hw1] at hbb hA1 hbl hsz
  have hp1 := Lib.hid (hp w1 hbl)
  have HO := Lib.hid (hO.mv HL.out.1 HL.out.2 hA1.2)
  have HS := Lib.hid (And.intro hok hok2)
  have HR := Lib.hid hr
  have HN := Lib.hid (And.intro (And.intro hok.next1 (show s.next ≤ 10 by have := hok.next2; omega)) hc4)
  have HB := Lib.hid (And.intro hbl hsz)
  have HBX := Lib.hid hbb.1
  have HBO := Lib.hid hbb.2.1
  have HBC := Lib.hid hbb.2.2
  have HM1 := Lib.hid hA1.2
  have HA1 := Lib.hid hA1.1
  unfold boxes at hw1
  clear h hp hO hok hok2 hr hn hc4 hbb hA1 hbl hsz
  go_enter_defers Tryz.func7, Tryz.ntmps7
  go_upto_region 1 with (fail)
  rw [← hw1]
  clear hw1 hmf
  have hcx : w1.cell? ⟨w.heap.size, 0, none⟩ = some (.pointer (some ⟨x, 0, none⟩)) := HBX.out.cell 0
  obtain ⟨cc, hcc⟩ : ∃ cc, cc = w.heap.size + 1 + 1 := ⟨_, rfl⟩
  rw [show w.heap.size + 2 = w.heap.size + 1 + 1 from rfl, ← hcc] at HBC
  rw [← hcc]
  obtain ⟨oc, hoc⟩ : ∃ oc, oc = w.heap.size + 1 := ⟨_, rfl⟩
  rw [← hoc] at HBO ⊢
  obtain ⟨xc, hxc⟩ : ∃ xc, xc = w.heap.size := ⟨_, rfl⟩
  rw [← hxc] at HBX hcx ⊢
  have HE := Lib.hid (And.intro hcc (And.intro hoc hxc))
  clear hcc hoc hxc
  have HQ := Lib.hid (ready_cell (Lib.hid HA1.out.blk) s.next rfl HN.out.1)
  have h2 : w1.cell? ⟨x, 2, none⟩ = some (.pointer (some ⟨d.f, 0, none⟩)) := HA1.out.blk.cell 2
  go_wp2_with fail
  refine HQ.out.mono ?_
  rintro e w2 ⟨rfl, rfl⟩
  go_wp2_with fail
  refine hp1.out.mono ?_
  rintro e w2 ⟨rfl, hD⟩
  obtain ⟨c2, F2, hA2, hM2⟩ := HA1.out.feds hD
  have HA2 := Lib.hid hA2
  have HM2 := Lib.hid hM2
  have hcx2 : w2.cell? ⟨xc, 0, none⟩ = some (.pointer (some ⟨x, 0, none⟩)) := (hM2.blk HBX.out (recol_new d.c (by have := HE.out; omega))).cell 0
  have HRun := Lib.hid (run_any HA2 HS.out.2 HR.out (HO.out.mv HA1.out.rs.low HA1.out.rs.lt hM2))
  clear hD hA2 hM2 hp1 HQ h2 hcx
  go_wp2_with fail
  refine HRun.out.mono ?_
  rintro e w3 ⟨c, t, t', d3, M3, he, hends, A3, ho, hto, h5⟩
  have HC : Hid (c ≤ 100 ∧ Ok t) := Lib.hid ⟨by have := InfMath.halt_codes hends.2; omega, HS.out.2.steps hends.1⟩
  have hcol : ∀ k, xc ≤ k → k < w1.heap.size → d3.c k = 0 := fun k hk hk2 => (M3.out.col k (Nat.lt_of_lt_of_le hk2 HM2.out.size)).trans ((HM2.out.col k hk2).trans (recol_new d.c (by have := HE.out; omega)))
  have hne : ∀ {k : Nat} {ty : TypeId} {cs : Array Value}, xc ≤ k → Hid (Blk w1 k ty cs) → Blk w3 k ty cs := fun hk hb => M3.out.blk (HM2.out.blk hb.out (recol_new d.c (by have := HE.out; omega))) ((HM2.out.col _ hb.out.lt).trans (recol_new d.c (by have := HE.out; omega)))
  have HX3 := Lib.hid (hne (Nat.le_refl _) HBX)
  have HO3 := Lib.hid (hne (by have := HE.out; omega) HBO)
  have HC3 := Lib.hid (hne (by have := HE.out; omega) HBC)
  have hz1 : d3.c oc = 0 := hcol oc (by have := HE.out; omega) HBO.out.lt
  have hz2 : d3.c cc = 0 := hcol cc (by have := HE.out; omega) HBC.out.lt
  have HZ := Lib.hid (And.intro hz1 hz2)
  have HLv : Hid (∀ w', Below w3.heap.size w3 w' → Calls Tryz.prog 15 #[.pointer (some ⟨x, 0, none⟩), .int .i64 (c : Int)] w' fun e w'' => ∃ o1 o2 o3, e = .returned (.tuple #[.slice o1 o2 o3, .int .i64 (c : Int)]) ∧ (LeaveTo B x t c d3 w3 (.slice o1 o2 o3) w'' ∧ Mv d3.c d3.c w3 w'') ∧ (∃ o0, Blk w'' oc 22 #[o0]) ∧ (∃ c0, Blk w'' cc 28 #[c0])) := Lib.hid fun w' hb => by
    refine (leave_any A3 ho hto h5 HC.out.2 HC.out.1 w' hb).mono ?_
    rintro e w'' ⟨o1, o2, o3, rfl, hL, hM⟩
    exact ⟨o1, o2, o3, rfl, ⟨hL, hM⟩, ⟨_, hM.blk HO3.out hz1⟩, ⟨_, hM.blk HC3.out hz2⟩⟩
  have HEnd : Hid (∀ (o1 : Option Addr) (o2 o3 : Nat) (W : World), LeaveTo B x t c d3 w3 (.slice o1 o2 o3) W → Mv d3.c d3.c w3 W → Out B x w d.c t c (.returned (.tuple #[.slice o1 o2 o3, .int .i64 (c : Int)])) ((W.setCell ⟨oc, 0, none⟩ (.slice o1 o2 o3)).setCell ⟨cc, 0, none⟩ (.int .i64 (c : Int)))) := Lib.hid fun o1 o2 o3 W hl hm =>
    close_out HN.out.2 HM1.out (HM2.out.trans M3.out) ⟨by have := HE.out; omega, HBO.out.lt, recol_new d.c (by have := HE.out; omega)⟩ ⟨by have := HE.out; omega, HBC.out.lt, recol_new d.c (by have := HE.out; omega)⟩ hl hm HX.out.1 HX.out.2
  have HEnds := Lib.hid hends
  have HAB : Hid (oc ≠ cc) := Lib.hid (by have := HE.out; omega)
  clear hends ho hto h5 hcol hne hz1 hz2 hcx2
  rcases he with ⟨rfl, rfl⟩ | hth
  · go_wp2_with fail
    refine leaves_cons (f := 14) (args := #[.pointer (some ⟨xc, 0, none⟩), .pointer (some ⟨oc, 0, none⟩), .pointer (some ⟨cc, 0, none⟩)]) (by simp) (by simp [go_sem]) ?_
    refine (push1_any x xc oc cc 0 .returning .returning .nilIface w3 (fun v W => LeaveTo B x t 0 d3 w3 v W ∧ Mv d3.c d3.c w3 W) HX3.out HAB.out recov_idle (fun w' => caught_nil w') HLv.out).mono ?_
    rintro e u2 w5 ⟨rfl, rfl, ov, w4, ⟨hL, hM⟩, rfl⟩
    obtain rfl := hL.1
    have hk1 := (hM.blk HO3.out HZ.out.1).set_ 0 (.slice d3.oa t.out.length d3.oc)
    have hk2 := (only_set (w4.setCell ⟨oc, 0, none⟩ (.slice d3.oa t.out.length d3.oc)) cc 0 (.int .i64 ((0 : Nat) : Int))).blk hk1 HAB.out
    have hj1 := (only_set w4 oc 0 (.slice d3.oa t.out.length d3.oc)).blk (hM.blk HC3.out HZ.out.2) (fun e => HAB.out e.symm)
    have hj2 := hj1.set_ 0 (.int .i64 ((0 : Nat) : Int))
    have hca : ((w4.setCell ⟨oc, 0, none⟩ (.slice d3.oa t.out.length d3.oc)).setCell ⟨cc, 0, none⟩ (.int .i64 ((0 : Nat) : Int))).cell? ⟨oc, 0, none⟩ = some (.slice d3.oa t.out.length d3.oc) := hk2.cell 0
    have hcb : ((w4.setCell ⟨oc, 0, none⟩ (.slice d3.oa t.out.length d3.oc)).setCell ⟨cc, 0, none⟩ (.int .i64 ((0 : Nat) : Int))).cell? ⟨cc, 0, none⟩ = some (.int .i64 ((0 : Nat) : Int)) := hj2.cell 0
    have HF := Lib.hid (HEnd.out _ _ _ _ hL hM)
    clear hk1 hk2 hj1 hj2 hL hM
    generalize (w4.setCell ⟨oc, 0, none⟩ (.slice d3.oa t.out.length d3.oc)).setCell ⟨cc, 0, none⟩ (.int .i64 ((0 : Nat) : Int)) = w6 at *
    simp [Leaves, settle, results, Tryz.results7, go_sem, hca, hcb]
    exact ⟨t, 0, HEnds.out, HF.out⟩
  · unfold Thrown at hth
    subst hth
    go_wp2_with fail
    refine leaves_cons (f := 14) (args := #[.pointer (some ⟨xc, 0, none⟩), .pointer (some ⟨oc, 0, none⟩), .pointer (some ⟨cc, 0, none⟩)]) (by simp) (by simp [go_sem]) ?_
    refine (push1_any x xc oc cc c (.panicking ({ v := fault c, recovered := false } :: [])) (.panicking ({ v := fault c, recovered := true } :: [])) (fault c) w3 (fun v W => LeaveTo B x t c d3 w3 v W ∧ Mv d3.c d3.c w3 W) HX3.out HAB.out (recov_fault (fault c) []) (fun w' => caught_fault c w') HLv.out).mono ?_
    rintro e u2 w5 ⟨rfl, rfl, ov, w4, ⟨hL, hM⟩, rfl⟩
    obtain rfl := hL.1
    have hk1 := (hM.blk HO3.out HZ.out.1).set_ 0 (.slice d3.oa t.out.length d3.oc)
    have hk2 := (only_set (w4.setCell ⟨oc, 0, none⟩ (.slice d3.oa t.out.length d3.oc)) cc 0 (.int .i64 (c : Int))).blk hk1 HAB.out
    have hj1 := (only_set w4 oc 0 (.slice d3.oa t.out.length d3.oc)).blk (hM.blk HC3.out HZ.out.2) (fun e => HAB.out e.symm)
    have hj2 := hj1.set_ 0 (.int .i64 (c : Int))
    have hca : ((w4.setCell ⟨oc, 0, none⟩ (.slice d3.oa t.out.length d3.oc)).setCell ⟨cc, 0, none⟩ (.int .i64 (c : Int))).cell? ⟨oc, 0, none⟩ = some (.slice d3.oa t.out.length d3.oc) := hk2.cell 0
    have hcb : ((w4.setCell ⟨oc, 0, none⟩ (.slice d3.oa t.out.length d3.oc)).setCell ⟨cc, 0, none⟩ (.int .i64 (c : Int))).cell? ⟨cc, 0, none⟩ = some (.int .i64 (c : Int)) := hj2.cell 0
    have HF := Lib.hid (HEnd.out _ _ _ _ hL hM)
    clear hk1 hk2 hj1 hj2 hL hM
    generalize (w4.setCell ⟨oc, 0, none⟩ (.slice d3.oa t.out.length d3.oc)).setCell ⟨cc, 0, none⟩ (.int .i64 (c : Int)) = w6 at *
    simp [Leaves, settle, results, Tryz.results7, go_sem, hca, hcb]
    exact ⟨t, c, HEnds.out, HF.out⟩
set_option maxRecDepth 100000 in
set_option maxHeartbeats 8000000 in
theorem end_ (h : Hid (At B w x s d)) (hok : Ok s) (hok2 : Ok { s with ended := true }) (hr : Rm s) (hO : Ordr B w) (hn : s.next ≠ 11) (hc4 : ∀ k, d.c k ≠ 4)
    (hp : ∀ W, Below w.heap.size w W → Calls Tryz.prog 30 #[.pointer (some ⟨d.f, 0, none⟩)] W fun e w' => e = .returned (.tuple #[]) ∧ Done B d.f d.F W s.bits s.pushed true w') :
    Calls Tryz.prog 19 #[.pointer (some ⟨x, 0, none⟩)] w fun e w' =>
      ∃ t c, InfMath.Ends { s with ended := true } t c ∧ Out B x w d.c t c e w' := by
  have hmf := mf
  have HX := Lib.hid (And.intro h.out.lt (show d.c x ≠ 0 by rw [h.out.rs.cx]; decide))
  have HL := Lib.hid (And.intro h.out.rs.low h.out.rs.lt)
  obtain ⟨w1, hw1⟩ : ∃ w1, w1 = boxes w x := ⟨_, rfl⟩
  have hbb := boxes_blk w x
  have hA1 := h.out.plain (boxes_below w x)
  have hbl := boxes_below w x
  have hsz := boxes_size w x
  rw [← hw1] at hbb hA1 hbl hsz
  have hp1 := Lib.hid (hp w1 hbl)
  have HO := Lib.hid (hO.mv HL.out.1 HL.out.2 hA1.2)
  have HS := Lib.hid (And.intro hok hok2)
  have HR := Lib.hid hr
  have HN := Lib.hid (And.intro (And.intro hok.next1 (show s.next ≤ 10 by have := hok.next2; omega)) hc4)
  have HB := Lib.hid (And.intro hbl hsz)
  have HBX := Lib.hid hbb.1
  have HBO := Lib.hid hbb.2.1
  have HBC := Lib.hid hbb.2.2
  have HM1 := Lib.hid hA1.2
  have HA1 := Lib.hid hA1.1
  unfold boxes at hw1
  clear h hp hO hok hok2 hr hn hc4 hbb hA1 hbl hsz
  go_enter_defers Tryz.func19, Tryz.ntmps19
  go_upto_region 1 with (fail)
  rw [← hw1]
  clear hw1 hmf
  have hcx : w1.cell? ⟨w.heap.size, 0, none⟩ = some (.pointer (some ⟨x, 0, none⟩)) := HBX.out.cell 0
  obtain ⟨cc, hcc⟩ : ∃ cc, cc = w.heap.size + 1 + 1 := ⟨_, rfl⟩
  rw [show w.heap.size + 2 = w.heap.size + 1 + 1 from rfl, ← hcc] at HBC
  rw [← hcc]
  obtain ⟨oc, hoc⟩ : ∃ oc, oc = w.heap.size + 1 := ⟨_, rfl⟩
  rw [← hoc] at HBO ⊢
  obtain ⟨xc, hxc⟩ : ∃ xc, xc = w.heap.size := ⟨_, rfl⟩
  rw [← hxc] at HBX hcx ⊢
  have HE := Lib.hid (And.intro hcc (And.intro hoc hxc))
  clear hcc hoc hxc
  have HQ := Lib.hid (ready_cell (Lib.hid HA1.out.blk) s.next rfl HN.out.1)
  have h2 : w1.cell? ⟨x, 2, none⟩ = some (.pointer (some ⟨d.f, 0, none⟩)) := HA1.out.blk.cell 2
  go_wp2_with fail
  refine HQ.out.mono ?_
  rintro e w2 ⟨rfl, rfl⟩
  go_wp2_with fail
  refine hp1.out.mono ?_
  rintro e w2 ⟨rfl, hD⟩
  obtain ⟨c2, F2, hA2, hM2⟩ := HA1.out.feds hD
  have HA2 := Lib.hid hA2
  have HM2 := Lib.hid hM2
  have hcx2 : w2.cell? ⟨xc, 0, none⟩ = some (.pointer (some ⟨x, 0, none⟩)) := (hM2.blk HBX.out (recol_new d.c (by have := HE.out; omega))).cell 0
  have HRun := Lib.hid (run_any HA2 HS.out.2 HR.out (HO.out.mv HA1.out.rs.low HA1.out.rs.lt hM2))
  clear hD hA2 hM2 hp1 HQ h2 hcx
  go_wp2_with fail
  refine HRun.out.mono ?_
  rintro e w3 ⟨c, t, t', d3, M3, he, hends, A3, ho, hto, h5⟩
  have HC : Hid (c ≤ 100 ∧ Ok t) := Lib.hid ⟨by have := InfMath.halt_codes hends.2; omega, HS.out.2.steps hends.1⟩
  have hcol : ∀ k, xc ≤ k → k < w1.heap.size → d3.c k = 0 := fun k hk hk2 => (M3.out.col k (Nat.lt_of_lt_of_le hk2 HM2.out.size)).trans ((HM2.out.col k hk2).trans (recol_new d.c (by have := HE.out; omega)))
  have hne : ∀ {k : Nat} {ty : TypeId} {cs : Array Value}, xc ≤ k → Hid (Blk w1 k ty cs) → Blk w3 k ty cs := fun hk hb => M3.out.blk (HM2.out.blk hb.out (recol_new d.c (by have := HE.out; omega))) ((HM2.out.col _ hb.out.lt).trans (recol_new d.c (by have := HE.out; omega)))
  have HX3 := Lib.hid (hne (Nat.le_refl _) HBX)
  have HO3 := Lib.hid (hne (by have := HE.out; omega) HBO)
  have HC3 := Lib.hid (hne (by have := HE.out; omega) HBC)
  have hz1 : d3.c oc = 0 := hcol oc (by have := HE.out; omega) HBO.out.lt
  have hz2 : d3.c cc = 0 := hcol cc (by have := HE.out; omega) HBC.out.lt
  have HZ := Lib.hid (And.intro hz1 hz2)
  have HLv : Hid (∀ w', Below w3.heap.size w3 w' → Calls Tryz.prog 15 #[.pointer (some ⟨x, 0, none⟩), .int .i64 (c : Int)] w' fun e w'' => ∃ o1 o2 o3, e = .returned (.tuple #[.slice o1 o2 o3, .int .i64 (c : Int)]) ∧ (LeaveTo B x t c d3 w3 (.slice o1 o2 o3) w'' ∧ Mv d3.c d3.c w3 w'') ∧ (∃ o0, Blk w'' oc 22 #[o0]) ∧ (∃ c0, Blk w'' cc 28 #[c0])) := Lib.hid fun w' hb => by
    refine (leave_any A3 ho hto h5 HC.out.2 HC.out.1 w' hb).mono ?_
    rintro e w'' ⟨o1, o2, o3, rfl, hL, hM⟩
    exact ⟨o1, o2, o3, rfl, ⟨hL, hM⟩, ⟨_, hM.blk HO3.out hz1⟩, ⟨_, hM.blk HC3.out hz2⟩⟩
  have HEnd : Hid (∀ (o1 : Option Addr) (o2 o3 : Nat) (W : World), LeaveTo B x t c d3 w3 (.slice o1 o2 o3) W → Mv d3.c d3.c w3 W → Out B x w d.c t c (.returned (.tuple #[.slice o1 o2 o3, .int .i64 (c : Int)])) ((W.setCell ⟨oc, 0, none⟩ (.slice o1 o2 o3)).setCell ⟨cc, 0, none⟩ (.int .i64 (c : Int)))) := Lib.hid fun o1 o2 o3 W hl hm =>
    close_out HN.out.2 HM1.out (HM2.out.trans M3.out) ⟨by have := HE.out; omega, HBO.out.lt, recol_new d.c (by have := HE.out; omega)⟩ ⟨by have := HE.out; omega, HBC.out.lt, recol_new d.c (by have := HE.out; omega)⟩ hl hm HX.out.1 HX.out.2
  have HEnds := Lib.hid hends
  have HAB : Hid (oc ≠ cc) := Lib.hid (by have := HE.out; omega)
  clear hends ho hto h5 hcol hne hz1 hz2 hcx2
  rcases he with ⟨rfl, rfl⟩ | hth
  · go_wp2_with fail
    refine leaves_cons (f := 29) (args := #[.pointer (some ⟨xc, 0, none⟩), .pointer (some ⟨oc, 0, none⟩), .pointer (some ⟨cc, 0, none⟩)]) (by simp) (by simp [go_sem]) ?_
    refine (end1_any x xc oc cc 0 .returning .returning .nilIface w3 (fun v W => LeaveTo B x t 0 d3 w3 v W ∧ Mv d3.c d3.c w3 W) HX3.out HAB.out recov_idle (fun w' => caught_nil w') HLv.out).mono ?_
    rintro e u2 w5 ⟨rfl, rfl, ov, w4, ⟨hL, hM⟩, rfl⟩
    obtain rfl := hL.1
    have hk1 := (hM.blk HO3.out HZ.out.1).set_ 0 (.slice d3.oa t.out.length d3.oc)
    have hk2 := (only_set (w4.setCell ⟨oc, 0, none⟩ (.slice d3.oa t.out.length d3.oc)) cc 0 (.int .i64 ((0 : Nat) : Int))).blk hk1 HAB.out
    have hj1 := (only_set w4 oc 0 (.slice d3.oa t.out.length d3.oc)).blk (hM.blk HC3.out HZ.out.2) (fun e => HAB.out e.symm)
    have hj2 := hj1.set_ 0 (.int .i64 ((0 : Nat) : Int))
    have hca : ((w4.setCell ⟨oc, 0, none⟩ (.slice d3.oa t.out.length d3.oc)).setCell ⟨cc, 0, none⟩ (.int .i64 ((0 : Nat) : Int))).cell? ⟨oc, 0, none⟩ = some (.slice d3.oa t.out.length d3.oc) := hk2.cell 0
    have hcb : ((w4.setCell ⟨oc, 0, none⟩ (.slice d3.oa t.out.length d3.oc)).setCell ⟨cc, 0, none⟩ (.int .i64 ((0 : Nat) : Int))).cell? ⟨cc, 0, none⟩ = some (.int .i64 ((0 : Nat) : Int)) := hj2.cell 0
    have HF := Lib.hid (HEnd.out _ _ _ _ hL hM)
    clear hk1 hk2 hj1 hj2 hL hM
    generalize (w4.setCell ⟨oc, 0, none⟩ (.slice d3.oa t.out.length d3.oc)).setCell ⟨cc, 0, none⟩ (.int .i64 ((0 : Nat) : Int)) = w6 at *
    simp [Leaves, settle, results, Tryz.results19, go_sem, hca, hcb]
    exact ⟨t, 0, HEnds.out, HF.out⟩
  · unfold Thrown at hth
    subst hth
    go_wp2_with fail
    refine leaves_cons (f := 29) (args := #[.pointer (some ⟨xc, 0, none⟩), .pointer (some ⟨oc, 0, none⟩), .pointer (some ⟨cc, 0, none⟩)]) (by simp) (by simp [go_sem]) ?_
    refine (end1_any x xc oc cc c (.panicking ({ v := fault c, recovered := false } :: [])) (.panicking ({ v := fault c, recovered := true } :: [])) (fault c) w3 (fun v W => LeaveTo B x t c d3 w3 v W ∧ Mv d3.c d3.c w3 W) HX3.out HAB.out (recov_fault (fault c) []) (fun w' => caught_fault c w') HLv.out).mono ?_
    rintro e u2 w5 ⟨rfl, rfl, ov, w4, ⟨hL, hM⟩, rfl⟩
    obtain rfl := hL.1
    have hk1 := (hM.blk HO3.out HZ.out.1).set_ 0 (.slice d3.oa t.out.length d3.oc)
    have hk2 := (only_set (w4.setCell ⟨oc, 0, none⟩ (.slice d3.oa t.out.length d3.oc)) cc 0 (.int .i64 (c : Int))).blk hk1 HAB.out
    have hj1 := (only_set w4 oc 0 (.slice d3.oa t.out.length d3.oc)).blk (hM.blk HC3.out HZ.out.2) (fun e => HAB.out e.symm)
    have hj2 := hj1.set_ 0 (.int .i64 (c : Int))
    have hca : ((w4.setCell ⟨oc, 0, none⟩ (.slice d3.oa t.out.length d3.oc)).setCell ⟨cc, 0, none⟩ (.int .i64 (c : Int))).cell? ⟨oc, 0, none⟩ = some (.slice d3.oa t.out.length d3.oc) := hk2.cell 0
    have hcb : ((w4.setCell ⟨oc, 0, none⟩ (.slice d3.oa t.out.length d3.oc)).setCell ⟨cc, 0, none⟩ (.int .i64 (c : Int))).cell? ⟨cc, 0, none⟩ = some (.int .i64 (c : Int)) := hj2.cell 0
    have HF := Lib.hid (HEnd.out _ _ _ _ hL hM)
    clear hk1 hk2 hj1 hj2 hL hM
    generalize (w4.setCell ⟨oc, 0, none⟩ (.slice d3.oa t.out.length d3.oc)).setCell ⟨cc, 0, none⟩ (.int .i64 (c : Int)) = w6 at *
    simp [Leaves, settle, results, Tryz.results19, go_sem, hca, hcb]
    exact ⟨t, c, HEnds.out, HF.out⟩
set_option maxRecDepth 100000 in
theorem push_over {t c u : Nat} (h : Hid (Blk w x 49 (overCells t c u))) (v : Value) :
    Calls Tryz.prog 7 #[.pointer (some ⟨x, 0, none⟩), v] w fun e w' => e = .returned (.tuple #[.slice none 0 0, .int .i64 (c : Int)]) ∧ Below w.heap.size w w' := by
  obtain ⟨w1, hw1⟩ : ∃ w1, w1 = boxes w x := ⟨_, rfl⟩
  have hbb := boxes_blk w x
  have hbl := boxes_below w x
  rw [← hw1] at hbb hbl
  have HA1 := Lib.hid (h.out.same (hbl.block x h.out.lt))
  have HB := Lib.hid hbl
  have HBX := Lib.hid hbb.1
  have HBO := Lib.hid hbb.2.1
  have HBC := Lib.hid hbb.2.2
  unfold boxes at hw1
  clear h hbb hbl
  go_enter_defers Tryz.func7, Tryz.ntmps7
  go_upto_region 1 with (fail)
  rw [← hw1]
  clear hw1
  have hcx : w1.cell? ⟨w.heap.size, 0, none⟩ = some (.pointer (some ⟨x, 0, none⟩)) := HBX.out.cell 0
  obtain ⟨cc, hcc⟩ : ∃ cc, cc = w.heap.size + 1 + 1 := ⟨_, rfl⟩
  rw [show w.heap.size + 2 = w.heap.size + 1 + 1 from rfl, ← hcc] at HBC
  rw [← hcc]
  obtain ⟨oc, hoc⟩ : ∃ oc, oc = w.heap.size + 1 := ⟨_, rfl⟩
  rw [← hoc] at HBO ⊢
  obtain ⟨xc, hxc⟩ : ∃ xc, xc = w.heap.size := ⟨_, rfl⟩
  rw [← hxc] at HBX hcx ⊢
  have HE := Lib.hid (And.intro hcc (And.intro hoc hxc))
  clear hcc hoc hxc
  have HQ := Lib.hid (ready_over HA1)
  have hj0 : w1.cell? ⟨oc, 0, none⟩ = some (.slice none 0 0) := HBO.out.cell 0
  have hf0 := HBO.out.frozen 0
  have hk0 := (only_set w1 oc 0 (.slice none 0 0)).blk HBC.out (fun e => by have := HE.out; omega)
  have hk1 : (w1.setCell ⟨oc, 0, none⟩ (.slice none 0 0)).cell? ⟨cc, 0, none⟩ = some (.int .i64 0) := hk0.cell 0
  have hf1 := hk0.frozen 0
  have hca : ((w1.setCell ⟨oc, 0, none⟩ (.slice none 0 0)).setCell ⟨cc, 0, none⟩ (.int .i64 (c : Int))).cell? ⟨oc, 0, none⟩ = some (.slice none 0 0) := ((only_set (w1.setCell ⟨oc, 0, none⟩ (.slice none 0 0)) cc 0 (.int .i64 (c : Int))).blk (HBO.out.set_ 0 (.slice none 0 0)) (fun e => by have := HE.out; omega)).cell 0
  have hcb : ((w1.setCell ⟨oc, 0, none⟩ (.slice none 0 0)).setCell ⟨cc, 0, none⟩ (.int .i64 (c : Int))).cell? ⟨cc, 0, none⟩ = some (.int .i64 (c : Int)) := (hk0.set_ 0 (.int .i64 (c : Int))).cell 0
  have hbe : Hid (Below w.heap.size w ((w1.setCell ⟨oc, 0, none⟩ (.slice none 0 0)).setCell ⟨cc, 0, none⟩ (.int .i64 (c : Int)))) := Lib.hid ((only_oc w1 oc cc _ _).below HB.out.size (fun k hk => by have := HE.out; omega) |> HB.out.trans)
  clear hk0
  go_wp2_with fail
  refine HQ.out.mono ?_
  rintro e w2 ⟨rfl, rfl⟩
  go_wp2_with fail
  change Leaves _ _ _ _ _ _ _
  simp [Leaves, results, Tryz.results7, go_sem, hca, hcb]
  exact hbe.out
set_option maxRecDepth 100000 in
theorem end_over {t c u : Nat} (h : Hid (Blk w x 49 (overCells t c u))) :
    Calls Tryz.prog 19 #[.pointer (some ⟨x, 0, none⟩)] w fun e w' => e = .returned (.tuple #[.slice none 0 0, .int .i64 (c : Int)]) ∧ Below w.heap.size w w' := by
  obtain ⟨w1, hw1⟩ : ∃ w1, w1 = boxes w x := ⟨_, rfl⟩
  have hbb := boxes_blk w x
  have hbl := boxes_below w x
  rw [← hw1] at hbb hbl
  have HA1 := Lib.hid (h.out.same (hbl.block x h.out.lt))
  have HB := Lib.hid hbl
  have HBX := Lib.hid hbb.1
  have HBO := Lib.hid hbb.2.1
  have HBC := Lib.hid hbb.2.2
  unfold boxes at hw1
  clear h hbb hbl
  go_enter_defers Tryz.func19, Tryz.ntmps19
  go_upto_region 1 with (fail)
  rw [← hw1]
  clear hw1
  have hcx : w1.cell? ⟨w.heap.size, 0, none⟩ = some (.pointer (some ⟨x, 0, none⟩)) := HBX.out.cell 0
  obtain ⟨cc, hcc⟩ : ∃ cc, cc = w.heap.size + 1 + 1 := ⟨_, rfl⟩
  rw [show w.heap.size + 2 = w.heap.size + 1 + 1 from rfl, ← hcc] at HBC
  rw [← hcc]
  obtain ⟨oc, hoc⟩ : ∃ oc, oc = w.heap.size + 1 := ⟨_, rfl⟩
  rw [← hoc] at HBO ⊢
  obtain ⟨xc, hxc⟩ : ∃ xc, xc = w.heap.size := ⟨_, rfl⟩
  rw [← hxc] at HBX hcx ⊢
  have HE := Lib.hid (And.intro hcc (And.intro hoc hxc))
  clear hcc hoc hxc
  have HQ := Lib.hid (ready_over HA1)
  have hj0 : w1.cell? ⟨oc, 0, none⟩ = some (.slice none 0 0) := HBO.out.cell 0
  have hf0 := HBO.out.frozen 0
  have hk0 := (only_set w1 oc 0 (.slice none 0 0)).blk HBC.out (fun e => by have := HE.out; omega)
  have hk1 : (w1.setCell ⟨oc, 0, none⟩ (.slice none 0 0)).cell? ⟨cc, 0, none⟩ = some (.int .i64 0) := hk0.cell 0
  have hf1 := hk0.frozen 0
  have hca : ((w1.setCell ⟨oc, 0, none⟩ (.slice none 0 0)).setCell ⟨cc, 0, none⟩ (.int .i64 (c : Int))).cell? ⟨oc, 0, none⟩ = some (.slice none 0 0) := ((only_set (w1.setCell ⟨oc, 0, none⟩ (.slice none 0 0)) cc 0 (.int .i64 (c : Int))).blk (HBO.out.set_ 0 (.slice none 0 0)) (fun e => by have := HE.out; omega)).cell 0
  have hcb : ((w1.setCell ⟨oc, 0, none⟩ (.slice none 0 0)).setCell ⟨cc, 0, none⟩ (.int .i64 (c : Int))).cell? ⟨cc, 0, none⟩ = some (.int .i64 (c : Int)) := (hk0.set_ 0 (.int .i64 (c : Int))).cell 0
  have hbe : Hid (Below w.heap.size w ((w1.setCell ⟨oc, 0, none⟩ (.slice none 0 0)).setCell ⟨cc, 0, none⟩ (.int .i64 (c : Int)))) := Lib.hid ((only_oc w1 oc cc _ _).below HB.out.size (fun k hk => by have := HE.out; omega) |> HB.out.trans)
  clear hk0
  go_wp2_with fail
  refine HQ.out.mono ?_
  rintro e w2 ⟨rfl, rfl⟩
  go_wp2_with fail
  change Leaves _ _ _ _ _ _ _
  simp [Leaves, results, Tryz.results19, go_sem, hca, hcb]
  exact hbe.out
end
end Go.Proofs.YtjejlhpnhkacmaaGreatDoor.InfC
end

section
/-
  New, All.
-/
namespace Go.Proofs.YtjejlhpnhkacmaaGreatDoor.InfC
open Go.RowKit Go.My BitMath CanMath TabMath WinMath FeedC TabC CanC
open WinC (Wn)
open InfMath (M Ok CodeOk mu lack fixL fixD)

set_option maxRecDepth 100000 in
theorem own_weak {E : TypeId} {B B' : Nat} {w : World} {v : Value} {l : List UInt8} (h : Own E B w v l) (hB : B' ≤ B) : Own E B' w v l := by
  refine ⟨h.1, ?_⟩
  rcases h.2 with hn | ⟨g, cap, cur, h1, h2, rest⟩
  · exact .inl hn
  · exact .inr ⟨g, cap, cur, h1, Nat.le_trans hB h2, rest⟩
theorem chain_weak {B B' : Nat} {w : World} (hB : B' ≤ B) : ∀ {ps : List Pc} {nx : Option Addr}, Chain B w ps nx → Chain B' w ps nx
  | [], _, h => h
  | _ :: _, _, ⟨h, k⟩ => ⟨⟨h.blk, own_weak h.own hB, Nat.le_trans hB h.base, h.most⟩, chain_weak hB k⟩
theorem fed_weak {B B' f p : Nat} {w : World} {F : Nat → Prop} {bs : List Bool} {e : Bool} (h : Fed B w f F bs p e) (hB : B' ≤ B) : Fed B' w f F bs p e := by
  obtain ⟨q, ps, word, count, h1, h2, h3, rfl⟩ := h
  refine ⟨q, ps, word, count, ⟨h1.blk, ⟨h1.que.blk, chain_weak hB h1.que.chain, h1.que.apart, h1.que.full, Nat.le_trans hB h1.que.base⟩, Nat.le_trans hB h1.base, h1.small, h1.most⟩, h2, h3, rfl⟩
/-- The parts of a new Inflate. -/
def fresh (n n1 n2 : Nat) (F : Nat → Prop) : Ad :=
  ⟨recol n2 (recol n1 (recol n (fun _ => 0) 3) 2) 1, n1 + 1, F, n, none, none, 0, none, 0, none, none, none, none, none⟩
theorem inf_new_ok (wide : Bool) (S most : Nat) (w : World) (h1 : 0 < S) (h2 : S ≤ 65536) (h3 : most ≤ 1073741824) :
    Calls Tryz.prog 6 #[.bool wide, .int .i64 (S : Int), .int .i64 (most : Int)] w fun e w' =>
      ∃ x d, e = .returned (.tuple #[.pointer (some ⟨x, 0, none⟩), .int .i64 0]) ∧ At w.heap.size w' x (InfMath.start wide S most) d ∧ Below w.heap.size w w' ∧ ∀ k, d.c k ≠ 4 := by
  have HQ := Lib.hid (WinC.new_ok S w h1 h2)
  have z1 : ¬ ((most : Int) < 0) := by omega
  have z2 : ¬ ((most : Int) > 1073741824) := by omega
  have z3 : ¬ (1073741824 < (most : Int)) := by omega
  clear h1 h2 h3
  go_enter Tryz.func6, Tryz.ntmps6
  go_wp2_with fail
  refine HQ.out.mono ?_
  rintro e w1 ⟨rfl, hw, hb⟩
  have HW := Lib.hid (And.intro hw hb)
  clear hw hb HQ
  have HQ := Lib.hid (FeedC.new_any w1)
  go_wp2_with fail
  refine HQ.out.mono ?_
  rintro e w2 ⟨F, rfl, hf, hb2⟩
  have HF := Lib.hid (And.intro hf hb2)
  clear hf hb2 HQ
  go_wp2_with fail
  go_ret2
  have hs1 := HW.out.2.size
  have hs2 := HF.out.2.size
  have ha : Below w2.heap.size w2 (w2.alloc (.cells (cells (InfMath.start wide S most) (fresh w.heap.size w1.heap.size w2.heap.size F)) 49)) := (Below.refl _ _).alloc (Nat.le_refl _) _
  have hw2 := (HW.out.1.below HF.out.2).below ha
  have hf2 := HF.out.1.below ha
  refine ⟨w2.heap.size, fresh w.heap.size w1.heap.size w2.heap.size F, rfl, ⟨Blk.new _ _ _, by omega, recol_new _ (Nat.le_refl _), fun k hk => ?_, ⟨fed_weak hf2 hs1, fun k hk => ?_⟩, ⟨hw2, fun k hk => ?_⟩, ⟨Own.nil _ _ _, fun k hk => by cases hk⟩, ⟨OwnV.nil _ _ _, fun k hk => by cases hk⟩, .inr ⟨rfl, rfl⟩, .inr ⟨rfl, rfl⟩, .inr ⟨rfl, rfl⟩, .inr ⟨rfl, rfl⟩, .inr ⟨rfl, rfl⟩⟩, ?_, fun k => ?_⟩
  · show recol _ _ _ k = 0
    rw [recol_old _ (by omega), recol_old _ (by omega), recol_old _ (by omega)]
  · show recol _ _ _ k = 2
    have h1 := HF.out.1.lt k hk
    rw [recol_old _ (by omega), recol_new _ (by omega)]
  · show recol _ _ _ k = 3
    have h1 := HW.out.1.flt k hk
    have h2 := HW.out.1.fp k hk
    rw [recol_old _ (by omega), recol_old _ (by omega), recol_new _ (by omega)]
  · exact HW.out.2.trans ((HF.out.2.mono hs1).trans (ha.mono (by omega)))
  · show recol _ _ _ k ≠ 4
    unfold recol
    split
    · split
      · split
        · exact fun e => by cases e
        · decide
      · decide
    · decide
end Go.Proofs.YtjejlhpnhkacmaaGreatDoor.InfC
end

section
/-
  New that fails; All.
-/
namespace Go.Proofs.YtjejlhpnhkacmaaGreatDoor.InfC
open Go.RowKit Go.My BitMath CanMath TabMath WinMath FeedC TabC CanC
open WinC (Wn)
open InfMath (M Ok CodeOk mu lack fixL fixD bare shut)

theorem ok_open {wide : Bool} {S most p : Nat} {bs : List Bool} (h1 : 0 < S) (h2 : S ≤ 65536) (h3 : most ≤ 1073741824) (h4 : p ≤ 100000000) (h5 : bs.length ≤ 8 * p) :
    Ok { InfMath.start wide S most with bits := bs, pushed := p } := by
  unfold InfMath.start
  refine ⟨rfl, h1, h2, h3, Nat.zero_le _, Nat.le_refl _, h4, h5, ?_, ?_, ?_, ?_, ?_, ?_, ?_, ?_, ?_, ?_, ?_, ?_⟩ <;> simp
theorem ok_bare {t : M} (h : Ok t) (e : Bool) : Ok { t with out := [], ended := e } := by
  obtain ⟨h1, h2, h3, h4, h5, h6, h7, h8, h9, h10, h11, h12, h13, h14, h15, h16, h17, h18, h19, h20⟩ := h
  exact ⟨h1, h2, h3, h4, h5, Nat.zero_le _, h7, h8, h9, h10, h11, h12, h13, h14, h15, h16, h17, h18, h19, h20⟩
theorem Ordr.below {B : Nat} {w w' : World} (h : Ordr B w) (hB : B ≤ w.heap.size) (hb : Below w.heap.size w w') : Ordr B w' := h.mv (c := fun _ => 0) (c' := fun _ => 0) (fun _ _ => rfl) hB (Mv.of_below hb _)

theorem inf_new_bad (wide : Bool) (n most : Int) (w : World) (h : (n < 1 ∨ 65536 < n) ∨ (most < 0 ∨ 1073741824 < most)) :
    Calls Tryz.prog 6 #[.bool wide, .int .i64 n, .int .i64 most] w fun e w' => e = .returned (.tuple #[.pointer none, .int .i64 7]) ∧ Below w.heap.size w w' := by
  by_cases h1 : n < 1 ∨ 65536 < n
  · have HQ := Lib.hid (WinC.new_bad n w h1)
    clear h h1
    go_enter Tryz.func6, Tryz.ntmps6
    go_wp2_with fail
    refine HQ.out.mono ?_
    rintro e w1 ⟨rfl, rfl⟩
    go_wp2_with fail
    go_ret2
    exact ⟨rfl, Below.refl _ _⟩
  · obtain ⟨S, rfl⟩ : ∃ S : Nat, n = (S : Int) := ⟨n.toNat, by omega⟩
    have HQ := Lib.hid (WinC.new_ok S w (by omega) (by omega))
    have hm : most < 0 ∨ 1073741824 < most := by omega
    clear h h1
    by_cases h2 : most < 0
    · go_enter Tryz.func6, Tryz.ntmps6
      go_wp2_with fail
      refine HQ.out.mono ?_
      rintro e w1 ⟨rfl, hw, hb⟩
      have HB := Lib.hid hb
      clear hw hb
      go_wp2_with fail
      go_ret2
      exact ⟨rfl, HB.out⟩
    · have h3 : 1073741824 < most := by omega
      clear hm
      go_enter Tryz.func6, Tryz.ntmps6
      go_wp2_with fail
      refine HQ.out.mono ?_
      rintro e w1 ⟨rfl, hw, hb⟩
      have HB := Lib.hid hb
      clear hw hb
      go_wp2_with fail
      go_ret2
      exact ⟨rfl, HB.out⟩

/-- The machine before a stream. -/
abbrev began (wide : Bool) (S most : Nat) (l : List UInt8) : M := { InfMath.start wide S most with bits := bitsOf l, pushed := l.length }
/-- What All answers. -/
def Answer (B : Nat) (t : M) (c : Nat) (e : Ending) (w' : World) : Prop :=
  (c = 0 ∧ ∃ oa oc, e = .returned (.tuple #[.slice oa t.out.length oc, .int .i64 ((t.pushed - t.bits.length / 8 : Nat) : Int), .int .i64 0]) ∧ Own 5 B w' (.slice oa t.out.length oc) t.out) ∨
  (c ≠ 0 ∧ e = .returned (.tuple #[.slice none 0 0, .int .i64 0, .int .i64 ((if c = 5 then 2 else c : Nat) : Int)]))
/-- The first piece of a new Inflate. -/
theorem first_push {B x : Nat} {w0 w : World} {d : Ad} {wide : Bool} {S most : Nat} (a : Option Addr) (len cap : Nat) (l : List UInt8) (hb : Bytes w0 a len cap l) (hl : len ≤ 100000000) (h1 : 0 < S) (h2 : S ≤ 65536) (h3 : most ≤ 1073741824)
    (hB : w0.heap.size ≤ B) (hw : Below w0.heap.size w0 w) (h : At B w x (InfMath.start wide S most) d) (hc4 : ∀ k, d.c k ≠ 4) (hO : Ordr B w) :
    Calls Tryz.prog 7 #[.pointer (some ⟨x, 0, none⟩), .slice a len cap] w fun e w' =>
      ∃ t c, InfMath.Ends (began wide S most l) t c ∧ Out B x w d.c t c e w' := by
  have hlen := hb.len_eq
  have e1 : { InfMath.start wide S most with bits := (InfMath.start wide S most).bits ++ bitsOf l, pushed := (InfMath.start wide S most).pushed + len, ended := false } = began wide S most l := by
    unfold began InfMath.start
    rw [hlen]
    simp
  have hk := ok_open (wide := wide) (S := S) (most := most) (p := l.length) (bs := bitsOf l) h1 h2 h3 (by omega) (by rw [bitsOf_len]; exact Nat.le_refl _)
  have h0 := ok_open (wide := wide) (S := S) (most := most) (p := 0) (bs := []) h1 h2 h3 (by omega) (by simp)
  have hs : w0.heap.size ≤ w.heap.size := hw.size
  have := push_any (Lib.hid h) (.slice a len cap) (bitsOf l) len h0 (by rw [e1]; exact hk) (fun e => by cases e) hO (fun e => by cases e) hc4 (fun W hW => push_in B d.f _ d.F _ w0 W (h.rs.feed.1.below hW) hB (hw.trans (hW.mono hs)) a len cap l hb (by simp [InfMath.start]) (by simp [InfMath.start]) (by omega))
  rw [e1] at this
  exact this
set_option maxRecDepth 100000 in
set_option maxHeartbeats 2000000 in
theorem all_any (wide : Bool) (S most : Nat) (a : Option Addr) (len cap : Nat) (l : List UInt8) (w : World) (hb : Bytes w a len cap l) (hl : len ≤ 100000000) (h1 : 0 < S) (h2 : S ≤ 65536) (h3 : most ≤ 1073741824) (hO : Ordr w.heap.size w) :
    Calls Tryz.prog 8 #[.slice a len cap, .bool wide, .int .i64 (S : Int), .int .i64 (most : Int)] w fun e w' =>
      Below w.heap.size w w' ∧ ∃ t c, InfMath.Ends (began wide S most l) t c ∧ Answer w.heap.size t c e w' := by
  have HQ := Lib.hid (inf_new_ok wide S most w h1 h2 h3)
  have HI := Lib.hid (And.intro hb (And.intro hl (And.intro h1 (And.intro h2 (And.intro h3 hO)))))
  clear hb hl h1 h2 h3 hO
  go_enter Tryz.func8, Tryz.ntmps8
  go_wp2_with fail
  refine HQ.out.mono ?_
  rintro e w1 ⟨x, d, rfl, hA, hbl, hc4⟩
  have HA := Lib.hid (And.intro hA (And.intro hbl hc4))
  clear hA hbl hc4 HQ
  go_wp2_with fail
  refine (first_push a len cap l HI.out.1 HI.out.2.1 HI.out.2.2.1 HI.out.2.2.2.1 HI.out.2.2.2.2.1 (Nat.le_refl _) HA.out.2.1 HA.out.1 HA.out.2.2 (HI.out.2.2.2.2.2.below (Nat.le_refl _) HA.out.2.1)).mono ?_
  rintro e w2 ⟨t, c, hends, oa, oc, rfl, hown, h5, hn⟩
  have HE := Lib.hid hends
  have HOw := Lib.hid hown
  have hlow : ∀ k, d.c k ≠ 0 → w.heap.size ≤ k := fun k hk => by
    by_cases hlt : k < w.heap.size
    · exact absurd (HA.out.1.rs.low k hlt) hk
    · omega
  by_cases hc : c = 5
  · subst hc
    obtain ⟨d2, hA2, hM2, hc42, hcol2⟩ := h5 rfl
    have HA2 := Lib.hid (And.intro hA2 (And.intro hM2 hc42))
    have HB2 : Hid (Below w.heap.size w w2) := Lib.hid (HA.out.2.1.trans (hM2.only.below HA.out.2.1.size hlow))
    have hokt : Ok t := (ok_open (wide := wide) (S := S) (most := most) (p := l.length) (bs := bitsOf l) HI.out.2.2.1 HI.out.2.2.2.1 HI.out.2.2.2.2.1 (by have := HI.out.2.1; have := HI.out.1.len_eq; omega) (by rw [bitsOf_len]; exact Nat.le_refl _)).steps hends.1
    have hne : t.next ≠ 11 := fun e => by
      have := InfMath.over_halts e
      rw [hends.2] at this
      cases this
    have HQ := Lib.hid (end_ (Lib.hid hA2) (ok_bare hokt t.ended) (ok_bare hokt true) (fun e => rm_end (InfMath.step_bare hends.2) rfl e) (((HI.out.2.2.2.2.2.below (Nat.le_refl _) HA.out.2.1).mv HA.out.1.rs.low HA.out.1.rs.lt hM2)) hne hc42 (fun W hW => FeedC.end_any _ d2.f _ d2.F _ _ W (hA2.rs.feed.1.below hW)))
    have hlow2 : ∀ k, d2.c k ≠ 0 → w.heap.size ≤ k := fun k hk => by
      by_cases hlt : k < w.heap.size
      · exact absurd (hA2.rs.low k hlt) hk
      · omega
    have HL2 := Lib.hid hlow2
    clear hends hown h5 hn hlow hA2 hM2 hc42 hcol2 hokt hne hlow2
    go_wp2_with fail
    refine HQ.out.mono ?_
    rintro e w3 ⟨t3, c3, hends3, oa3, oc3, rfl, hown3, h53, hn3⟩
    have hsh : InfMath.step { t with out := [], ended := true } = .halt 2 := InfMath.step_bare (InfMath.shut_step HE.out.2)
    have h3c : c3 = 2 := (hends3.det ⟨.refl _, hsh⟩).2
    subst h3c
    have HB3 : Hid (Below w.heap.size w w3) := Lib.hid (HB2.out.trans ((hn3 (by decide)).2.below HB2.out.size HL2.out))
    clear hends3 hown3 h53 hn3 hsh HQ
    go_wp2_with fail
    go_ret3
    exact ⟨HB3.out, t, 5, HE.out, .inr ⟨by decide, rfl⟩⟩
  · obtain ⟨hk, hO2⟩ := hn hc
    have HB2 : Hid (Below w.heap.size w w2) := Lib.hid (HA.out.2.1.trans (hO2.below HA.out.2.1.size hlow))
    have HK := Lib.hid hk
    have HQ := Lib.hid (end_over HK)
    have HC := Lib.hid hc
    clear hends hown h5 hn hlow hk hO2 hc
    by_cases h0 : c = 0
    · subst h0
      go_wp2_with fail
      refine HQ.out.mono ?_
      rintro e w3 ⟨rfl, hb3⟩
      have HB3 := Lib.hid (HB2.out.trans (hb3.mono HB2.out.size))
      have HU := Lib.hid (inf_used (Lib.hid (HK.out.same (hb3.block x HK.out.lt))) (t.pushed - t.bits.length / 8) rfl)
      have HOw3 := Lib.hid ((Only.of_below hb3 (fun _ => False)).own HOw.out (fun _ _ h => h))
      clear hb3 HQ
      go_wp2_with fail
      refine HU.out.mono ?_
      rintro e w4 ⟨rfl, rfl⟩
      go_wp2_with fail
      go_ret3
      exact ⟨HB3.out, t, 0, HE.out, .inl ⟨rfl, oa, oc, rfl, HOw3.out⟩⟩
    · have hz : ((c : Int) != 0) = true := by simp; omega
      have HZ := Lib.hid h0
      clear h0
      go_wp2_with fail
      refine HQ.out.mono ?_
      rintro e w3 ⟨rfl, hb3⟩
      have HB3 := Lib.hid (HB2.out.trans (hb3.mono HB2.out.size))
      clear hb3 HQ
      go_wp2_with fail
      go_ret3
      exact ⟨HB3.out, t, c, HE.out, .inr ⟨HZ.out, by rw [if_neg HC.out]; rfl⟩⟩
theorem all_bad (wide : Bool) (n most : Int) (v : Value) (w : World) (h : (n < 1 ∨ 65536 < n) ∨ (most < 0 ∨ 1073741824 < most)) :
    Calls Tryz.prog 8 #[v, .bool wide, .int .i64 n, .int .i64 most] w fun e w' => e = .returned (.tuple #[.slice none 0 0, .int .i64 0, .int .i64 7]) ∧ Below w.heap.size w w' := by
  have HQ := Lib.hid (inf_new_bad wide n most w h)
  clear h
  go_enter Tryz.func8, Tryz.ntmps8
  go_wp2_with fail
  refine HQ.out.mono ?_
  rintro e w1 ⟨rfl, hb⟩
  have HB := Lib.hid hb
  clear hb HQ
  go_wp2_with fail
  go_ret3
  exact ⟨rfl, HB.out⟩
end Go.Proofs.YtjejlhpnhkacmaaGreatDoor.InfC
end

section
/-
  told of law 12.
-/
namespace Go.Proofs.YtjejlhpnhkacmaaGreatDoor.InfC
open Go.RowKit Go.My BitMath CanMath TabMath WinMath FeedC TabC CanC
open WinC (Wn)
open InfMath (M Ok CodeOk mu lack fixL fixD bare shut)

theorem conv_own {X : World} {B n c : Nat} {a : Option Addr} {l : List UInt8} (h : Own 5 B X (.slice a n c) l) : (convert 22 9 (.slice a n c)).run Tryz.prog X = .ok (.string ⟨l.toArray⟩) X := by
  obtain ⟨a', c', h1, h2⟩ := h.bytes
  simp only [Value.slice.injEq] at h1
  obtain ⟨rfl, rfl, rfl⟩ := h1
  exact run_string_bytes X 22 9 5 Tryz.underlying22 Tryz.underlying5 Tryz.underlying9 h2
theorem row_bytes (E : TypeId) (w : World) (l : List UInt8) (hl : l.length ≤ 1000) : Bytes (w.alloc (.cells (l.map fun c => Value.int .u8 (c.toNat : Int)).toArray E)) (some ⟨w.heap.size, 0, none⟩) l.length l.length l := by
  refine ⟨rfl, Nat.le_refl _, by omega, (fun h => by cases h), .inr ⟨w.heap.size, 0, rfl, by simp, ?_⟩⟩
  intro i hi
  rw [cell_of_row _ _ _ _ _ _ (heap_alloc_new w _)]
  simp [hi]
theorem ends_run {n c : Nat} {s : M} (h : (InfMath.run n s).2 = some c) : InfMath.Ends s (InfMath.run n s).1 c := InfMath.run_ends n s _ c (by rw [← h])
theorem Ordr.mono {B B' : Nat} {w : World} (h : Ordr B w) (hB : B ≤ B') : Ordr B' w := ⟨Nat.lt_of_lt_of_le h.lt hB, h.cell⟩
theorem Ordr.up {w w' : World} (h : Ordr w.heap.size w) (hb : Below w.heap.size w w') : Ordr w'.heap.size w' := (h.below (Nat.le_refl _) hb).mono hb.size
/-- All, where it is known how the machine ends. -/
theorem all_ok {wide : Bool} {S most : Nat} {a : Option Addr} {len cap : Nat} {l : List UInt8} {w : World} {t : M} (hb : Bytes w a len cap l) (hl : len ≤ 100000000) (h1 : 0 < S) (h2 : S ≤ 65536) (h3 : most ≤ 1073741824) (hO : Ordr w.heap.size w)
    (hE : InfMath.Ends (began wide S most l) t 0) :
    Calls Tryz.prog 8 #[.slice a len cap, .bool wide, .int .i64 (S : Int), .int .i64 (most : Int)] w fun e w' =>
      ∃ oa oc, e = .returned (.tuple #[.slice oa t.out.length oc, .int .i64 ((t.pushed - t.bits.length / 8 : Nat) : Int), .int .i64 0]) ∧ Hid (Own 5 w.heap.size w' (.slice oa t.out.length oc) t.out) ∧ Hid (Below w.heap.size w w') :=
  (all_any wide S most a len cap l w hb hl h1 h2 h3 hO).mono fun e w' ⟨hbl, t', c, he, ha⟩ => by
    obtain ⟨rfl, rfl⟩ := he.det hE
    rcases ha with ⟨-, oa, oc, h1, h2⟩ | ⟨h0, -⟩
    · exact ⟨oa, oc, h1, Lib.hid h2, Lib.hid hbl⟩
    · exact absurd rfl h0
theorem all_err {wide : Bool} {S most : Nat} {a : Option Addr} {len cap : Nat} {l : List UInt8} {w : World} {t : M} {c : Nat} (hb : Bytes w a len cap l) (hl : len ≤ 100000000) (h1 : 0 < S) (h2 : S ≤ 65536) (h3 : most ≤ 1073741824) (hO : Ordr w.heap.size w)
    (hE : InfMath.Ends (began wide S most l) t c) (hc : c ≠ 0) :
    Calls Tryz.prog 8 #[.slice a len cap, .bool wide, .int .i64 (S : Int), .int .i64 (most : Int)] w fun e w' =>
      e = .returned (.tuple #[.slice none 0 0, .int .i64 0, .int .i64 ((if c = 5 then 2 else c : Nat) : Int)]) ∧ Hid (Below w.heap.size w w') :=
  (all_any wide S most a len cap l w hb hl h1 h2 h3 hO).mono fun e w' ⟨hbl, t', c', he, ha⟩ => by
    obtain ⟨rfl, rfl⟩ := he.det hE
    rcases ha with ⟨h0, -⟩ | ⟨-, h1⟩
    · exact absurd h0 hc
    · exact ⟨h1, Lib.hid hbl⟩
theorem told_1 : ∃ t, InfMath.Ends (began false 32768 9 [1, 1, 0, 254, 255, 97]) t 0 ∧ t.out = [97] ∧ t.pushed - t.bits.length / 8 = 6 := ⟨_, ends_run (n := 20) (by decide +kernel), by decide +kernel, by decide +kernel⟩
theorem told_2 : ∃ t, InfMath.Ends (began false 32768 0 [3, 0]) t 0 ∧ t.out = [] ∧ t.pushed - t.bits.length / 8 = 2 := ⟨_, ends_run (n := 20) (by decide +kernel), by decide +kernel, by decide +kernel⟩
theorem told_3 : ∃ t, InfMath.Ends (began false 32768 9 [7]) t 2 := ⟨_, ends_run (n := 20) (by decide +kernel)⟩
set_option maxRecDepth 100000 in
set_option maxHeartbeats 8000000 in
theorem told_any (w : World) (hO : Ordr w.heap.size w) : Calls Tryz.prog 4 #[] w fun e w' => e = .returned (.bool true) ∧ Below w.heap.size w w' := by
  have HO := Lib.hid hO
  clear hO
  go_enter Tryz.func4, Tryz.ntmps4
  go_wp2_with fail
  have H1 : Hid (Bytes (w.alloc (.cells #[.int .u8 1, .int .u8 1, .int .u8 0, .int .u8 254, .int .u8 255, .int .u8 97] 5)) (some ⟨w.heap.size, 0, none⟩) 6 6 [1, 1, 0, 254, 255, 97]) := Lib.hid (row_bytes 5 w [1, 1, 0, 254, 255, 97] (by decide))
  have HB0 : Hid (Below w.heap.size w (w.alloc (.cells #[.int .u8 1, .int .u8 1, .int .u8 0, .int .u8 254, .int .u8 255, .int .u8 97] 5))) := Lib.hid ((Below.refl _ _).alloc (Nat.le_refl _) _)
  generalize w.alloc (.cells #[.int .u8 1, .int .u8 1, .int .u8 0, .int .u8 254, .int .u8 255, .int .u8 97] 5) = w0 at *
  obtain ⟨t1, e1, o1, u1⟩ := told_1
  refine (all_ok (S := 32768) (most := 9) H1.out (by omega) (by omega) (by omega) (by omega) (HO.out.up HB0.out) e1).mono ?_
  rw [o1, u1]
  rintro e w1 ⟨a1, c1, rfl, HO1, hb1⟩
  have HB1 := Lib.hid (HB0.out.trans (hb1.out.mono HB0.out.size))
  clear H1 HB0 hb1 e1
  go_wp2_with fail
  have H2 : Hid (Bytes (w1.alloc (.cells #[.int .u8 3, .int .u8 0] 5)) (some ⟨w1.heap.size, 0, none⟩) 2 2 [3, 0]) := Lib.hid (row_bytes 5 w1 [3, 0] (by decide))
  have hb2 : Below w1.heap.size w1 (w1.alloc (.cells #[.int .u8 3, .int .u8 0] 5)) := (Below.refl _ _).alloc (Nat.le_refl _) _
  generalize w1.alloc (.cells #[.int .u8 3, .int .u8 0] 5) = w2 at *
  have HO2 := Lib.hid ((Only.of_below hb2 (fun _ => False)).own HO1.out (fun _ _ h => h))
  have HB2 := Lib.hid (HB1.out.trans (hb2.mono HB1.out.size))
  clear HO1 HB1 hb2
  obtain ⟨t2, e2, o2, u2⟩ := told_2
  refine (all_ok (S := 32768) (most := 0) H2.out (by omega) (by omega) (by omega) (by omega) (HO.out.up HB2.out) e2).mono ?_
  rw [o2, u2]
  rintro e w3 ⟨a2, c2, rfl, -, hb3⟩
  have HO3 := Lib.hid ((Only.of_below hb3.out (fun _ => False)).own HO2.out (fun _ _ h => h))
  have HB3 := Lib.hid (HB2.out.trans (hb3.out.mono HB2.out.size))
  clear HO2 HB2 hb3 H2 e2
  go_wp2_with fail
  have H4 : Hid (Bytes (w3.alloc (.cells #[.int .u8 7] 5)) (some ⟨w3.heap.size, 0, none⟩) 1 1 [7]) := Lib.hid (row_bytes 5 w3 [7] (by decide))
  have hb4 : Below w3.heap.size w3 (w3.alloc (.cells #[.int .u8 7] 5)) := (Below.refl _ _).alloc (Nat.le_refl _) _
  generalize w3.alloc (.cells #[.int .u8 7] 5) = w4 at *
  have HO4 := Lib.hid ((Only.of_below hb4 (fun _ => False)).own HO3.out (fun _ _ h => h))
  have HB4 := Lib.hid (HB3.out.trans (hb4.mono HB3.out.size))
  clear HO3 HB3 hb4
  obtain ⟨t3, e3⟩ := told_3
  refine (all_err (S := 32768) (most := 9) H4.out (by omega) (by omega) (by omega) (by omega) (HO.out.up HB4.out) e3 (by decide)).mono ?_
  rintro e w5 ⟨rfl, hb5⟩
  have HO5 := Lib.hid ((Only.of_below hb5.out (fun _ => False)).own HO4.out (fun _ _ h => h))
  have HB5 := Lib.hid (HB4.out.trans (hb5.out.mono HB4.out.size))
  have hcv : (convert 22 9 (.slice a1 1 c1)).run Tryz.prog w5 = .ok (.string ⟨#[97]⟩) w5 := conv_own HO5.out
  clear HO4 HB4 hb5 H4 e3
  go_wp2_with fail
  go_ret
  exact ⟨rfl, HB5.out⟩
end Go.Proofs.YtjejlhpnhkacmaaGreatDoor.InfC
end
