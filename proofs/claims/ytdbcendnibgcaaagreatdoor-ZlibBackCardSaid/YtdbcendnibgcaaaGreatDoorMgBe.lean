import Derived.Test.YtdbcendnibgcaaaGreatDoorMgBd
import Derived.Test.YtdbcendnibgcaaaGreatDoorMgAa
import Derived.Recover
import Derived.Orders

section
/-
  step, run.
-/
namespace Go.Proofs.YtdbcendnibgcaaaGreatDoor.InfC
open Go.RowKit Go.My BitMath CanMath TabMath WinMath FeedC TabC CanC
open WinC (Wn)
open InfMath (M Ok CodeOk mu lack fixL fixD)

/-- How many bits a feed has, out of memory. -/
def feedBits (w : World) (f : Nat) : Nat :=
  match w.cell? ⟨f, 1, none⟩, w.cell? ⟨f, 2, none⟩ with
  | some (.int _ c), some (.pointer (some p)) => (match w.cell? ⟨p.block, 2, none⟩ with | some (.int _ n) => c.toNat + 8 * n.toNat | _ => 0)
  | _, _ => 0
theorem feedBits_of {B f p : Nat} {w : World} {F : Nat → Prop} {bs : List Bool} {e : Bool} (h : Fed B w f F bs p e) : feedBits w f = bs.length := by
  obtain ⟨q, ps, word, count, h1, h2, h3, rfl⟩ := h
  have e1 : w.cell? ⟨f, 1, none⟩ = some (.int .i64 (count : Int)) := h1.blk.cell 1
  have e2 : w.cell? ⟨f, 2, none⟩ = some (.pointer (some ⟨q, 0, none⟩)) := h1.blk.cell 2
  have e3 : w.cell? ⟨q, 2, none⟩ = some (.int .i64 ((cat ps).length : Int)) := h1.que.blk.cell 2
  unfold feedBits
  rw [e1, e2]
  simp only
  rw [e3, h3, bits_len]
  simp
/-- How far it is to the end, out of memory. -/
def muAt (w : World) (x : Nat) : Nat :=
  match w.cell? ⟨x, 2, none⟩, w.cell? ⟨x, 6, none⟩ with
  | some (.pointer (some p)), some (.int _ n) => 8 * feedBits w p.block + InfMath.rank n.toNat
  | _, _ => 0
theorem muAt_of {B x : Nat} {w : World} {s : M} {d : Ad} (h : At B w x s d) : muAt w x = mu s := by
  have e1 : w.cell? ⟨x, 2, none⟩ = some (.pointer (some ⟨d.f, 0, none⟩)) := h.blk.cell 2
  have e2 : w.cell? ⟨x, 6, none⟩ = some (.int .i64 (s.next : Int)) := h.blk.cell 6
  unfold muAt
  rw [e1, e2]
  simp only
  rw [feedBits_of h.rs.feed.1]
  rfl

/-- There is room for the match that is read. -/
def Rm (s : M) : Prop := s.next = 10 → s.total + s.matching ≤ s.most
theorem Goes.ends {B x : Nat} {w w' : World} {s : M} {d : Ad} {e : Ending} (h : Goes B x s d w e w') : e = .returned (.tuple #[]) ∨ ∃ c, e = .panicked [{ v := fault c, recovered := false }] := by
  obtain ⟨_, _, ⟨h1, _⟩ | ⟨c, _, _, h1, _⟩⟩ := h
  · exact .inl h1
  · exact .inr ⟨c, h1⟩
section
variable {B x : Nat} {w : World} {s : M} {d : Ad}
set_option maxHeartbeats 2000000 in
theorem step_any (h : Hid (At B w x s d)) (hok : Ok s) (hr : Rm s) (hO : Ordr B w) (hn : s.next ≠ 11) :
    Calls Tryz.prog 73 #[.pointer (some ⟨x, 0, none⟩)] w (Goes B x s d w) := by
  have hb : s.bits.length ≤ 1000000000 := by have := hok.bnd; have := hok.psh; omega
  have h6 : w.cell? ⟨x, 6, none⟩ = some (.int .i64 (s.next : Int)) := h.out.blk.cell 6
  have h1 := hok.next1
  have h2 := hok.next2
  have hcase : (s.next = 1 ∨ s.next = 2 ∨ s.next = 3 ∨ s.next = 4 ∨ s.next = 5 ∨ s.next = 6 ∨ s.next = 7 ∨ s.next = 8 ∨ s.next = 9 ∨ s.next = 10) := by omega
  have HC : Hid (
      (s.next = 1 → Calls Tryz.prog 78 #[.pointer (some ⟨x, 0, none⟩)] w (Goes B x s d w)) ∧
      (s.next = 2 → Calls Tryz.prog 79 #[.pointer (some ⟨x, 0, none⟩)] w (Goes B x s d w)) ∧
      (s.next = 3 → Calls Tryz.prog 80 #[.pointer (some ⟨x, 0, none⟩)] w (Goes B x s d w)) ∧
      (s.next = 4 ∨ s.next = 5 ∨ s.next = 6 → Calls Tryz.prog 81 #[.pointer (some ⟨x, 0, none⟩)] w (Goes B x s d w)) ∧
      (s.next = 7 → Calls Tryz.prog 82 #[.pointer (some ⟨x, 0, none⟩)] w (Goes B x s d w)) ∧
      (s.next = 8 → Calls Tryz.prog 83 #[.pointer (some ⟨x, 0, none⟩)] w (Goes B x s d w)) ∧
      (s.next = 9 → Calls Tryz.prog 84 #[.pointer (some ⟨x, 0, none⟩)] w (Goes B x s d w)) ∧
      (s.next = 10 → Calls Tryz.prog 85 #[.pointer (some ⟨x, 0, none⟩)] w (Goes B x s d w))) := Lib.hid
    ⟨fun e => open_any h e hb, fun e => size_any h e hb, fun e => bytes_any h hok e, fun e => by
      rcases e with e | e | e
      · exact count4 h e hb
      · exact count5 h e hb
      · exact count6 h e hb, fun e => codelens_any h hok e hO, fun e => lengths_any h hok e, fun e => literal_any h hok e, fun e => distance_any h hok e (hr e)⟩
  obtain ⟨N, hN⟩ : ∃ N, N = s.next := ⟨_, rfl⟩
  rw [← hN] at h6 hcase HC
  clear h hok hr hO hn hb h1 h2 hN
  rcases hcase with rfl | rfl | rfl | rfl | rfl | rfl | rfl | rfl | rfl | rfl
  · have HQ := Lib.hid (HC.out.1 rfl)
    clear HC
    go_enter Tryz.func73, Tryz.ntmps73
    go_wp2_with fail
    refine HQ.out.mono ?_
    intro e w' hg
    have HG := Lib.hid hg
    rcases hg.ends with rfl | ⟨c, rfl⟩
    · clear hg
      go_wp2_with fail
      go_end0
      exact HG.out
    · clear hg
      go_wp2_with fail
      exact ⟨rfl, HG.out⟩
  · have HQ := Lib.hid (HC.out.2.1 rfl)
    clear HC
    go_enter Tryz.func73, Tryz.ntmps73
    go_wp2_with fail
    refine HQ.out.mono ?_
    intro e w' hg
    have HG := Lib.hid hg
    rcases hg.ends with rfl | ⟨c, rfl⟩
    · clear hg
      go_wp2_with fail
      go_end0
      exact HG.out
    · clear hg
      go_wp2_with fail
      exact ⟨rfl, HG.out⟩
  · have HQ := Lib.hid (HC.out.2.2.1 rfl)
    clear HC
    go_enter Tryz.func73, Tryz.ntmps73
    go_wp2_with fail
    refine HQ.out.mono ?_
    intro e w' hg
    have HG := Lib.hid hg
    rcases hg.ends with rfl | ⟨c, rfl⟩
    · clear hg
      go_wp2_with fail
      go_end0
      exact HG.out
    · clear hg
      go_wp2_with fail
      exact ⟨rfl, HG.out⟩
  · have HQ := Lib.hid (HC.out.2.2.2.1 (.inl rfl))
    clear HC
    go_enter Tryz.func73, Tryz.ntmps73
    go_wp2_with fail
    refine HQ.out.mono ?_
    intro e w' hg
    have HG := Lib.hid hg
    rcases hg.ends with rfl | ⟨c, rfl⟩
    · clear hg
      go_wp2_with fail
      go_end0
      exact HG.out
    · clear hg
      go_wp2_with fail
      exact ⟨rfl, HG.out⟩
  · have HQ := Lib.hid (HC.out.2.2.2.1 (.inr (.inl rfl)))
    clear HC
    go_enter Tryz.func73, Tryz.ntmps73
    go_wp2_with fail
    refine HQ.out.mono ?_
    intro e w' hg
    have HG := Lib.hid hg
    rcases hg.ends with rfl | ⟨c, rfl⟩
    · clear hg
      go_wp2_with fail
      go_end0
      exact HG.out
    · clear hg
      go_wp2_with fail
      exact ⟨rfl, HG.out⟩
  · have HQ := Lib.hid (HC.out.2.2.2.1 (.inr (.inr rfl)))
    clear HC
    go_enter Tryz.func73, Tryz.ntmps73
    go_wp2_with fail
    refine HQ.out.mono ?_
    intro e w' hg
    have HG := Lib.hid hg
    rcases hg.ends with rfl | ⟨c, rfl⟩
    · clear hg
      go_wp2_with fail
      go_end0
      exact HG.out
    · clear hg
      go_wp2_with fail
      exact ⟨rfl, HG.out⟩
  · have HQ := Lib.hid (HC.out.2.2.2.2.1 rfl)
    clear HC
    go_enter Tryz.func73, Tryz.ntmps73
    go_wp2_with fail
    refine HQ.out.mono ?_
    intro e w' hg
    have HG := Lib.hid hg
    rcases hg.ends with rfl | ⟨c, rfl⟩
    · clear hg
      go_wp2_with fail
      go_end0
      exact HG.out
    · clear hg
      go_wp2_with fail
      exact ⟨rfl, HG.out⟩
  · have HQ := Lib.hid (HC.out.2.2.2.2.2.1 rfl)
    clear HC
    go_enter Tryz.func73, Tryz.ntmps73
    go_wp2_with fail
    refine HQ.out.mono ?_
    intro e w' hg
    have HG := Lib.hid hg
    rcases hg.ends with rfl | ⟨c, rfl⟩
    · clear hg
      go_wp2_with fail
      go_end0
      exact HG.out
    · clear hg
      go_wp2_with fail
      exact ⟨rfl, HG.out⟩
  · have HQ := Lib.hid (HC.out.2.2.2.2.2.2.1 rfl)
    clear HC
    go_enter Tryz.func73, Tryz.ntmps73
    go_wp2_with fail
    refine HQ.out.mono ?_
    intro e w' hg
    have HG := Lib.hid hg
    rcases hg.ends with rfl | ⟨c, rfl⟩
    · clear hg
      go_wp2_with fail
      go_end0
      exact HG.out
    · clear hg
      go_wp2_with fail
      exact ⟨rfl, HG.out⟩
  · have HQ := Lib.hid (HC.out.2.2.2.2.2.2.2 rfl)
    clear HC
    go_enter Tryz.func73, Tryz.ntmps73
    go_wp2_with fail
    refine HQ.out.mono ?_
    intro e w' hg
    have HG := Lib.hid hg
    rcases hg.ends with rfl | ⟨c, rfl⟩
    · clear hg
      go_wp2_with fail
      go_end0
      exact HG.out
    · clear hg
      go_wp2_with fail
      exact ⟨rfl, HG.out⟩

/-- Where run comes to. -/
def RunTo (B x : Nat) (s : M) (d : Ad) (w : World) (e : Ending) (w' : World) : Prop :=
  ∃ c t t' d', Hid (Mv d.c d'.c w w') ∧ (e = .returned (.tuple #[]) ∧ c = 0 ∨ Thrown c e) ∧ InfMath.Ends s t c ∧ Hid (At B w' x t' d') ∧ t'.out = t.out ∧ t'.total = t.total ∧ (c = 5 ∨ c = 0 → t' = t)
def Runs (B x : Nat) (s : M) (d : Ad) (w : World) (t : M) (d' : Ad) (w' : World) : Prop :=
  InfMath.Steps s t ∧ Ok t ∧ Rm t ∧ At B w' x t d' ∧ Mv d.c d'.c w w'
set_option maxHeartbeats 2000000 in
theorem run_any (h : Hid (At B w x s d)) (hok : Ok s) (hr : Rm s) (hO : Ordr B w) :
    Calls Tryz.prog 56 #[.pointer (some ⟨x, 0, none⟩)] w (RunTo B x s d w) := by
  have HOrd : Hid (Ordr B w ∧ (∀ k, k < B → d.c k = 0) ∧ B ≤ w.heap.size) := Lib.hid ⟨hO, h.out.rs.low, h.out.rs.lt⟩
  have HST : Hid (Runs B x s d w s d w) := Lib.hid ⟨.refl _, hok, hr, h.out, Mv.refl _ _⟩
  clear h hok hr hO
  go_enter Tryz.func56, Tryz.ntmps56
  go_wp2_with fail
  go_loopw [] (fun wr => ∃ t d', Hid (Runs B x s d w t d' wr)) (fun wr => muAt wr x)
  case atStart => exact ⟨s, d, HST⟩
  case round =>
    clear HST
    obtain ⟨t, d1, HR⟩ := hrel
    have h6 : wr.cell? ⟨x, 6, none⟩ = some (.int .i64 (t.next : Int)) := HR.out.2.2.2.1.blk.cell 6
    by_cases h11 : t.next = 11
    · have hz : ((t.next : Int) != 11) = false := by simp; omega
      go_wp2_with fail
      go_end0
      exact ⟨0, t, t, d1, Lib.hid HR.out.2.2.2.2, .inl ⟨rfl, rfl⟩, ⟨HR.out.1, InfMath.over_halts h11⟩, Lib.hid HR.out.2.2.2.1, rfl, rfl, fun _ => rfl⟩
    · have hz : ((t.next : Int) != 11) = true := by simp; omega
      have HQ := Lib.hid (step_any (Lib.hid HR.out.2.2.2.1) HR.out.2.1 HR.out.2.2.1 (HOrd.out.1.mv HOrd.out.2.1 HOrd.out.2.2 HR.out.2.2.2.2) h11)
      have HMU := Lib.hid (muAt_of HR.out.2.2.2.1)
      clear h11
      go_wp2_with fail
      refine HQ.out.mono ?_
      rintro e w2 ⟨d2, M2, hg⟩
      rcases hg with ⟨rfl, t2, hst, hrm, H2⟩ | ⟨c, t2, t3, rfl, hen, H2, ho, hto, h5⟩
      · have hmu : mu t2 < mu t := by
          obtain ⟨u, h1, h2⟩ := hst
          have := InfMath.mu_step h1
          have := InfMath.mu_steps h2
          omega
        have hsteps : InfMath.Steps t t2 := by
          obtain ⟨u, h1, h2⟩ := hst
          exact .cons h1 h2
        have HRR : Hid (Runs B x s d w t2 d2 w2) := Lib.hid ⟨HR.out.1.trans hsteps, HR.out.2.1.steps hsteps, hrm, H2.out, HR.out.2.2.2.2.trans M2.out⟩
        have HME := Lib.hid (And.intro (muAt_of H2.out) hmu)
        clear hst hrm hmu hsteps HQ
        go_wp2_with fail
        go_roundw
        case rel => exact ⟨_, d2, HRR⟩
        case measure => rw [HME.out.1, HMU.out]; exact HME.out.2
      · go_wp2_with fail
        exact ⟨rfl, c, t2, t3, d2, Lib.hid (HR.out.2.2.2.2.trans M2.out), .inr rfl, hen.of HR.out.1, H2, ho, hto, h5⟩
end
end Go.Proofs.YtdbcendnibgcaaaGreatDoor.InfC
end

section
/-
  A region that draws its order in a deferred function, where recover is one of its operations. No program.
-/
namespace Go
section
variable {P : Program} {ops : Array Oper} {Q : Exit → Act → List Frame → World → Prop} {md : Region.Mode}
/-- One operation of such a region. -/
def wpOpR (P : Program) (ops : Array Oper) (Q : Exit → Act → List Frame → World → Prop) (i : Nat) (K : Act → List Frame → World → Prop) (a : Act) (cs : List Frame) (w : World) : Prop :=
  match ops[i]? with
  | none => K a cs w
  | some o =>
    if Region.wanted o (yielded ops a.tmps) then
      match (execOp a.eval o).run P w with
      | .ok .recover w' =>
        match recoverD cs with
        | some (v, cs') => K (a.put o.dst v) cs' w'
        | none => K (a.put o.dst .nilIface) cs w'
      | r => o.upon P a (fun a' w' => K a' cs w') (fun e a' w' => Q e a' cs w') r
    else K (a.put o.dst undef) cs w
theorem wpOpsS_cons (i : Nat) (rest : List Nat) (a : Act) (cs : List Frame) (w : World) : wpOpsS P ops Q (i :: rest) a cs w = wpOpR P ops Q i (wpOpsS P ops Q rest) a cs w := by
  cases h : ops[i]? with
  | none => simp only [wpOpsS, wpOpR, h]
  | some o =>
    simp only [wpOpsS, wpOpR, h]
    by_cases hw : Region.wanted o (yielded ops a.tmps) = true
    · simp only [hw, if_true]
      generalize (execOp a.eval o).run P w = r
      cases r with
      | halt x w' => rfl
      | ok n w' =>
        cases n <;> rfl
    · simp only [hw, if_false, Bool.false_eq_true]
theorem upon_mono {o : Oper} {a : Act} {K K' : Act → World → Prop} {E : Exit → Act → World → Prop} (h : ∀ a w, K a w → K' a w) {r : Result Next} (hh : o.upon P a K E r) : o.upon P a K' E r := by
  cases r with
  | ok n w' =>
    cases n <;> simp only [Oper.upon] at hh ⊢ <;>
      first
        | exact h _ _ hh
        | exact Calls.mono hh (fun e w'' he => by cases e <;> first | exact h _ _ he | exact he)
        | exact Rows.mono hh (fun _ _ he => h _ _ he)
        | exact hh
  | halt x w' => cases x <;> simp only [Oper.upon] at hh ⊢ <;> exact hh
theorem wpOpR_mono {i : Nat} {a : Act} {cs : List Frame} {w : World} {K K' : Act → List Frame → World → Prop} (h : ∀ a cs w, K a cs w → K' a cs w) (hh : wpOpR P ops Q i K a cs w) : wpOpR P ops Q i K' a cs w := by
  unfold wpOpR at *
  cases ho : ops[i]? with
  | none => simp only [ho] at hh ⊢; exact h _ _ _ hh
  | some o =>
    simp only [ho] at hh ⊢
    by_cases hw : Region.wanted o (yielded ops a.tmps) = true
    · simp only [hw, if_true] at hh ⊢
      split at hh
      · split at hh
        · exact h _ _ _ hh
        · exact h _ _ _ hh
      · exact upon_mono (fun a w => h a cs w) hh
    · simp only [hw, if_false, Bool.false_eq_true] at hh ⊢
      exact h _ _ _ hh
/-- All orders. -/
def wpAnyR (P : Program) (md : Region.Mode) (ops : Array Oper) (Q : Exit → Act → List Frame → World → Prop) : Nat → Array Bool → Act → List Frame → World → Prop
  | 0, listed, a, cs, w => Region.ready md ops listed = [] ∧ Q .normal a cs w
  | fuel + 1, listed, a, cs, w =>
    (Region.ready md ops listed = [] → Q .normal a cs w) ∧
    ∀ i ∈ Region.ready md ops listed, wpOpR P ops Q i (wpAnyR P md ops Q fuel (listed.setIfInBounds i true)) a cs w
theorem wpAnyR_sound : ∀ (fuel t : Nat) (listed : Array Bool) (a : Act) (cs : List Frame) (w : World), wpAnyR P md ops Q fuel listed a cs w →
    wpOpsS P ops Q (Region.linearise.go md ops fuel t listed []) a cs w := by
  intro fuel
  induction fuel with
  | zero => intro t listed a cs w h; simpa [Region.linearise.go, wpOpsS] using h.2
  | succ fuel ih =>
    intro t listed a cs w h
    obtain ⟨h₀, h₁⟩ := h
    simp only [Region.linearise.go]
    change wpOpsS P ops Q (match (Region.ready md ops listed)[t % (Region.ready md ops listed).length]? with
      | some i => Region.linearise.go md ops fuel (t / (Region.ready md ops listed).length) (listed.setIfInBounds i true) [i]
      | none => [].reverse) a cs w
    cases hi : (Region.ready md ops listed)[t % (Region.ready md ops listed).length]? with
    | none =>
      have hnil : Region.ready md ops listed = [] := by
        cases hr : Region.ready md ops listed with
        | nil => rfl
        | cons x xs =>
          rw [hr] at hi
          have hlt : t % (x :: xs).length < (x :: xs).length := Nat.mod_lt _ (by simp)
          simp at hi
          simp at hlt
          omega
      simpa [wpOpsS] using h₀ hnil
    | some i =>
      simp only []
      rw [linearise_go_acc, List.reverse_singleton, List.singleton_append, wpOpsS_cons]
      exact wpOpR_mono (fun a cs w => ih _ _ a cs w) (h₁ i (List.mem_of_getElem? hi))
theorem wpS_region_any {id : Nat} {a : Act} {cs : List Frame} {w : World} (hm : P.follows .mixedOrders = true)
    (h : wpAnyR P .any ops Q ops.size (Array.replicate ops.size false) a cs { w with drawn := w.drawn + 1 }) : (Code.region id ops true).wpS P Q a cs w := by
  intro b k hb hr
  have h2 := wpAnyR_sound ops.size (w.tape w.drawn (.order b.fn id)) _ a cs _ h
  obtain ⟨e, a', cs', w', q, r⟩ := wp_opsS _ a cs _ h2 b k hb hr
  refine ⟨e, a', cs', w', q, .of_steps (.one step_region_draw) ?_⟩
  simp only [Region.schedule, hm, Bool.true_or, if_true]
  exact r
theorem wpAnyR_step {rs : List Nat} {fuel : Nat} {listed : Array Bool} {a : Act} {cs : List Frame} {w : World} (hr : Region.ready md ops listed = rs) (hne : rs ≠ [])
    (h : ∀ i ∈ rs, wpOpR P ops Q i (wpAnyR P md ops Q fuel (listed.setIfInBounds i true)) a cs w) : wpAnyR P md ops Q (fuel + 1) listed a cs w :=
  ⟨fun hh => absurd (hr.symm.trans hh) hne, fun i hi => h i (by rw [← hr]; exact hi)⟩
theorem wpAnyR_done {fuel : Nat} {listed : Array Bool} {a : Act} {cs : List Frame} {w : World} (hr : Region.ready md ops listed = []) (h : Q .normal a cs w) : wpAnyR P md ops Q fuel listed a cs w := by
  cases fuel with
  | zero => exact ⟨hr, h⟩
  | succ n => exact ⟨fun _ => h, fun i hi => by rw [hr] at hi; cases hi⟩
/-- What recover hands back, and the frames below. -/
def recov (cs : List Frame) : Value × List Frame := match recoverD cs with | some p => p | none => (.nilIface, cs)
theorem opR_recover {i : Nat} {o : Oper} {d : Option Tmp} {K : Act → List Frame → World → Prop} {a : Act} {cs : List Frame} {w : World} {v : Value} {cs' : List Frame} (hi : ops[i]? = some o) (hd : o.dst = d) (hw : Region.wanted o (yielded ops a.tmps) = true)
    (hr : (execOp a.eval o).run P w = .ok .recover w) (hc : recov cs = (v, cs')) (h : K (a.put d v) cs' w) : wpOpR P ops Q i K a cs w := by
  subst hd
  unfold wpOpR
  simp only [hi, hw, if_true, hr]
  unfold recov at hc
  cases hq : recoverD cs with
  | none =>
    rw [hq] at hc
    simp only [Prod.mk.injEq] at hc
    obtain ⟨rfl, rfl⟩ := hc
    exact h
  | some p =>
    obtain ⟨v2, cs2⟩ := p
    rw [hq] at hc
    simp only [Prod.mk.injEq] at hc
    obtain ⟨rfl, rfl⟩ := hc
    exact h
theorem opR_value {i : Nat} {o : Oper} {d : Option Tmp} {K : Act → List Frame → World → Prop} {a : Act} {cs : List Frame} {w w' : World} {v : Value} (hi : ops[i]? = some o) (hd : o.dst = d) (hw : Region.wanted o (yielded ops a.tmps) = true)
    (hr : (execOp a.eval o).run P w = .ok (.value v) w') (h : K (a.put d v) cs w') : wpOpR P ops Q i K a cs w := by
  subst hd
  unfold wpOpR
  simp only [hi, hw, if_true, hr, Oper.upon]
  exact h
theorem opR_skip {i : Nat} {o : Oper} {K : Act → List Frame → World → Prop} {a : Act} {cs : List Frame} {w w' : World} (hi : ops[i]? = some o) (hw : Region.wanted o (yielded ops a.tmps) = true)
    (hr : (execOp a.eval o).run P w = .ok .skip w') (h : K (a.put o.dst undef) cs w') : wpOpR P ops Q i K a cs w := by
  unfold wpOpR
  simp only [hi, hw, if_true, hr, Oper.upon]
  exact h
theorem opR_call {i : Nat} {o : Oper} {d : Option Tmp} {K : Act → List Frame → World → Prop} {a : Act} {cs : List Frame} {w : World} {f : FuncId} {args : Array Value} {R : Ending → World → Prop} (hi : ops[i]? = some o) (hd : o.dst = d) (hw : Region.wanted o (yielded ops a.tmps) = true)
    (hr : (execOp a.eval o).run P w = .ok (.enter f args) w) (hc : Calls P f args w R) (h : ∀ e w', R e w' → ∃ v, e = .returned v ∧ K (a.put d v) cs w') : wpOpR P ops Q i K a cs w := by
  subst hd
  unfold wpOpR
  simp only [hi, hw, if_true, hr, Oper.upon]
  exact hc.mono fun e w' hR => by obtain ⟨v, rfl, hK⟩ := h e w' hR; exact hK
end
end Go
end

section
/-
  caught, leave; ready; Used, Total.
-/
namespace Go.Proofs.YtdbcendnibgcaaaGreatDoor.InfC
open Go.RowKit Go.My BitMath CanMath TabMath WinMath FeedC TabC CanC
open WinC (Wn)
open InfMath (M Ok CodeOk mu lack fixL fixD)

theorem caught_nil (w : World) : Calls Tryz.prog 54 #[.nilIface] w fun e w' => e = .returned (.int .i64 0) ∧ Below w.heap.size w w' := by
  go_enter Tryz.func54, Tryz.ntmps54
  go_wp2_with fail
  go_ret
  exact ⟨rfl, Below.refl _ _⟩
set_option maxRecDepth 100000 in
theorem caught_fault (c : Nat) (w : World) : Calls Tryz.prog 54 #[fault c] w fun e w' => e = .returned (.int .i64 (c : Int)) ∧ Below w.heap.size w w' := by
  unfold fault
  have hta : ∀ w, (Instr.typeAssert (.iface 125 (.agg #[.int .i64 (c : Int), .int .i64 0])) 20 125 true).run Tryz.prog w = .ok (.tuple #[.agg #[.int .i64 (c : Int), .int .i64 0], .bool true]) w := fun _ => by kernel_rfl
  go_enter Tryz.func54, Tryz.ntmps54
  go_wp2_with fail
  go_ret
  exact ⟨rfl, (Below.refl _ _).alloc (Nat.le_refl _) _⟩

/-- The cells of an Inflate that has ended. -/
def overCells (total c used : Nat) : Array Value :=
  #[.bool false, .int .i64 0, .pointer none, .pointer none, .slice none 0 0, .int .i64 (total : Int), .int .i64 11, .bool false, .int .i64 0,
    .int .i64 0, .int .i64 0, .int .i64 0, .slice none 0 0, .pointer none, .pointer none, .pointer none, .pointer none, .pointer none, .int .i64 0, .int .i64 (c : Int), .int .i64 (used : Int)]
theorem over_one (t c u : Nat) : (overCells t c u).all (·.oneCell') = true := by
  unfold overCells
  simp [Value.oneCell']
section
variable {B x : Nat} {w : World} {s : M} {d : Ad}
set_option maxHeartbeats 1000000 in
theorem leave_short (h : Hid (At B w x s d)) :
    Calls Tryz.prog 53 #[.pointer (some ⟨x, 0, none⟩), .int .i64 5] w fun e w' => e = .returned (.tuple #[.slice d.oa s.out.length d.oc, .int .i64 5]) ∧ w' = w.setCell ⟨x, 4, none⟩ (.slice none 0 0) := by
  have h4 : w.cell? ⟨x, 4, none⟩ = some (.slice d.oa s.out.length d.oc) := h.out.blk.cell 4
  have f4 := h.out.blk.frozen 4
  clear h
  go_enter Tryz.func53, Tryz.ntmps53
  go_wp2_with fail
  go_ret2
  exact ⟨rfl, rfl⟩
theorem At.noout (h : At B w x s d) : At B (w.setCell ⟨x, 4, none⟩ (.slice none 0 0)) x { s with out := [] } { d with oa := none, oc := 0 } ∧ Mv d.c d.c w (w.setCell ⟨x, 4, none⟩ (.slice none 0 0)) := by
  have hx := only_set w x 4 (.slice none 0 0)
  refine ⟨?_, (turn_x h.rs.cx hx).mv (by decide)⟩
  obtain ⟨r1, r2, r3, r4, r5, r6, r7, r8, r9, r10, r11, r12⟩ := h.rs
  have hr : Rs B w x { s with out := [] } { d with oa := none, oc := 0 } := ⟨r1, r2, r3, r4, r5, ⟨Own.nil _ _ _, fun k hk => by cases hk⟩, r7, r8, r9, r10, r11, r12⟩
  exact ⟨h.blk.set_ 4 _, hr.only hx⟩
theorem size_inf : (Tryz.prog.info? 99).map (·.size) = some 21 := by kernel_rfl
set_option maxRecDepth 100000 in
set_option maxHeartbeats 2000000 in
theorem leave_over (h : Hid (At B w x s d)) (c : Nat) (hok : c = 0 → Ok s) (hc : c ≠ 5) (hc2 : c ≤ 100) :
    Calls Tryz.prog 53 #[.pointer (some ⟨x, 0, none⟩), .int .i64 (c : Int)] w fun e w' =>
      e = .returned (.tuple #[.slice d.oa s.out.length d.oc, .int .i64 (c : Int)]) ∧ Blk w' x 99 (overCells s.total c (if c = 0 then s.pushed - s.bits.length / 8 else 0)) ∧ Only (fun k => k = x) w w' := by
  have h4 : w.cell? ⟨x, 4, none⟩ = some (.slice d.oa s.out.length d.oc) := h.out.blk.cell 4
  have f4 := h.out.blk.frozen 4
  have hA1 := h.out.noout.1
  have h2 : w.cell? ⟨x, 2, none⟩ = some (.pointer (some ⟨d.f, 0, none⟩)) := h.out.blk.cell 2
  have h5 : w.cell? ⟨x, 5, none⟩ = some (.int .i64 (s.total : Int)) := h.out.blk.cell 5
  have hz : ((c : Int) == 5) = false := by simp; omega
  have HA1 := Lib.hid hA1
  have HOk := Lib.hid hok
  clear h hA1 hok
  go_enter Tryz.func53, Tryz.ntmps53
  by_cases h0 : c = 0
  · subst h0
    have HOk0 := Lib.hid (HOk.out rfl)
    clear HOk
    obtain ⟨U, hU⟩ : ∃ U, U = s.pushed - s.bits.length / 8 := ⟨_, rfl⟩
    have HU := Lib.hid hU
    have hUi : ((s.pushed : Int) - ((s.bits.length / 8 : Nat) : Int)) = (U : Int) := by have := HOk0.out.bnd; omega
    clear hU
    go_wp2_with fail
    refine (used_any _ _ _ _ _ _ _ HA1.out.rs.feed.1 (by have := HOk0.out.bnd; have := HOk0.out.psh; simp only; omega) (by have := HOk0.out.psh; simp only; omega)).mono ?_
    rintro e w2 ⟨he, n, hn⟩
    have he2 : e = .returned (.int .i64 (U : Int)) := by rw [he]; simp only; rw [hUi]
    subst he2
    have HA2 : Hid (At B w2 x { s with out := [] } { d with oa := none, oc := 0 } ∧ Only (fun k => k = x) w w2) := Lib.hid ⟨by rw [hn]; exact HA1.out.drewN n, by rw [hn]; exact (only_set w x 4 _).drewN n⟩
    have h52 : w2.cell? ⟨x, 5, none⟩ = some (.int .i64 (s.total : Int)) := HA2.out.1.blk.cell 5
    clear he hn hUi h2 h5 f4 h4
    go_wp2_with (refine wpList_store_row rfl _ (.tmp 34) (.tmp 33) rfl x (overCells s.total 0 U) rfl rfl 99 _ HA2.out.1.blk size_inf rfl (over_one _ _ _) ?_)
    go_wp2_with fail
    go_ret2
    refine ⟨rfl, ?_, HA2.out.2.trans (T := fun k => k = x) ⟨rfl, rfl, rfl, ?_, fun k hk hs => setRow_block w2 x _ k hs⟩ (fun _ _ h => h)⟩
    · rw [← HU.out]; exact HA2.out.1.blk.row _
    · show w2.heap.size ≤ (w2.heap.modify x _).size
      rw [Array.size_modify]; exact Nat.le_refl _
  · have hz0 : ((c : Int) == 0) = false := by simp; omega
    have HO1 := Lib.hid (only_set w x 4 (.slice none 0 0))
    go_wp2_with (refine wpList_store_row rfl _ (.tmp 34) (.tmp 33) rfl x (overCells s.total c 0) rfl rfl 99 _ HA1.out.blk size_inf rfl (over_one _ _ _) ?_)
    go_wp2_with fail
    go_ret2
    refine ⟨rfl, ?_, HO1.out.trans (T := fun k => k = x) ⟨rfl, rfl, rfl, ?_, fun k hk hs => setRow_block _ x _ k hs⟩ (fun _ _ h => h)⟩
    · exact HA1.out.blk.row _
    · show _ ≤ (Array.modify _ x _).size
      rw [Array.size_modify]; exact Nat.le_refl _
end
end Go.Proofs.YtdbcendnibgcaaaGreatDoor.InfC
end
