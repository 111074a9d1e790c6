import Derived.Test.YtilfmmjjiiabgaaGreatDoorMgAp
import Derived.Deep.RegionLaw
import Derived.Test.YtilfmmjjiiabgaaGreatDoorMgAq

section
namespace Go.Proofs.YtilfmmjjiiabgaaGreatDoor.FeedC
open Go.RowKit Go.My BitMath RefC

/-- What the loop of push keeps. -/
structure Pushes (B q n : Nat) (ps0 : List Pc) (w : World) (l : List UInt8) (k : Nat) (wr : World) (ps : List Pc) (a : Option Addr) (len cap : Nat) : Prop where
  at_ : QAt B wr q ps n
  cat_ : cat ps = cat ps0 ++ l.take k
  only : Only (QFoot q ps0) w wr
  next : ∀ j, QFoot q ps j → QFoot q ps0 j ∨ w.heap.size ≤ j
  bytes : Bytes w a len cap (l.drop k)
  far : ∀ b off, a = some ⟨b, off, none⟩ → ¬ QFoot q ps0 b

/-- The state behind 'if q.last == nil || len(q.last.data) == room': there is a last piece, with room. -/
structure Roomy (B q n : Nat) (ps0 : List Pc) (w : World) (l : List UInt8) (k : Nat) (wr : World) (xs : List Pc) (z : Pc) (a : Option Addr) (len cap : Nat) : Prop where
  p : Pushes B q n ps0 w l k wr (xs ++ [z]) a len cap
  room : z.l.length < 64

theorem Pushes.bytesAt {B q n : Nat} {ps0 : List Pc} {w : World} {l : List UInt8} {k : Nat} {wr : World} {ps : List Pc} {a : Option Addr} {len cap : Nat} (h : Pushes B q n ps0 w l k wr ps a len cap) : Bytes wr a len cap (l.drop k) :=
  h.only.bytes h.bytes h.far

theorem Pushes.extended {B q n : Nat} {ps0 : List Pc} {w : World} {l : List UInt8} {k : Nat} {wr w2 : World} {ps : List Pc} {a : Option Addr} {len cap : Nat} (h : Pushes B q n ps0 w l k wr ps a len cap) {e : Ending} (he : Extended B q n ps wr e w2) :
    e = .returned (.tuple #[]) ∧ ∃ xs z, Roomy B q n ps0 w l k w2 xs z a len cap := by
  obtain ⟨rfl, p, hp, hq, ho, hg, hd⟩ := he
  refine ⟨rfl, ps, p, ⟨hq, ?_, ?_, ?_, h.bytes, h.far⟩, by rw [hp]; simp⟩
  · rw [cat_append, cat_one, hp, List.append_nil, h.cat_]
  · refine h.only.trans ho (fun i hi hT => ?_)
    rcases h.next i hT with h | h
    · exact h
    · omega
  · intro j hj
    rcases hj with rfl | ⟨r, hr, hj⟩
    · exact h.next _ (.inl rfl)
    · rcases List.mem_append.1 hr with hr | hr
      · exact h.next _ (.inr ⟨r, hr, hj⟩)
      · simp at hr; subst hr
        have := h.only.size
        rcases hj with rfl | rfl <;> right <;> omega

theorem push_step {B q n : Nat} {ps0 : List Pc} {w : World} {l : List UInt8} {k : Nat} {w2 w3 : World} {xs : List Pc} {z : Pc} {a a1 : Option Addr} {len cap c1 M : Nat} (h : Roomy B q n ps0 w l k w2 xs z a len cap) (h0 : 0 < M) (_h1 : M ≤ len) (h2 : z.l.length + M ≤ 64)
    (hown : Own 5 B w3 (.slice a1 (z.l.length + M) c1) (z.l ++ (l.drop k).take M)) (hgrow : w2.drew.grownBy w3 (Value.ownBlock (.slice (some ⟨z.d, 0, none⟩) z.l.length z.c)))
    (hnext : Nxt (Value.ownBlock (.slice (some ⟨z.d, 0, none⟩) z.l.length z.c)) w2.drew.heap.size (Value.ownBlock (.slice a1 (z.l.length + M) c1))) :
    ∀ a2 len2 cap2, Bytes w a2 len2 cap2 (l.drop (k + M)) → (∀ b off, a2 = some ⟨b, off, none⟩ → ¬ QFoot q ps0 b) →
      ∃ ps2, Pushes B q n ps0 w l (k + M) (w3.setCell ⟨z.g, 0, none⟩ (.slice a1 (z.l.length + M) c1)) ps2 a2 len2 cap2 := by
  intro a2 len2 cap2 hb hf
  have hlen : (z.l ++ (l.drop k).take M).length = z.l.length + M := by have := h.p.bytes.len_eq; simp at this ⊢; omega
  obtain ⟨d', c', heq, _, _, _⟩ := hown.some_ (by rw [hlen]; omega)
  simp only [Value.slice.injEq] at heq
  obtain ⟨rfl, -, rfl⟩ := heq
  have hq := h.p.at_
  have hpc := (Chain.append.1 hq.chain).2.1
  have hqz : z.g ≠ q := Blk.ne hpc.blk hq.blk (by decide)
  have hO1 : Only (fun k => some z.d = some k) w2 w3 := ((Only.refl _ w2).drew.grown hgrow fun k _ hk => hk)
  have hT1 : Only (Turns q z) w2 w3 := hO1.mono (fun k _ e => .inr (.inr (Option.some.inj e).symm))
  have hO2 : Only (Turns q z) w2 (w3.setCell ⟨z.g, 0, none⟩ (.slice (some ⟨d', 0, none⟩) (z.l.length + M) c1)) := hT1.setCell (p := ⟨z.g, 0, none⟩) (fun _ => .inr (.inl rfl)) _
  have hzd : some z.d ≠ some z.g := fun e => hpc.far hpc.blk (by decide) (Option.some.inj e)
  have hdg : d' ≠ z.g := by
    have h3 := hO1.blk hpc.blk (fun e => hzd e)
    intro e
    exact own_len_ne hown h3 (by decide) (by simp [Value.ownBlock, e])
  have hdn : d' = z.d ∨ w2.heap.size ≤ d' := by
    rcases hnext with e | ⟨j, e, hj⟩
    · simp [Value.ownBlock] at e; exact .inl e
    · simp [Value.ownBlock] at e; subst e; exact .inr hj
  have hqd : some z.d ≠ some q := fun e => hpc.far hq.blk (by decide) (Option.some.inj e)
  have hbq := (hO1.blk hq.blk (fun e => hqd e)).set_far hqz 0 (.slice (some ⟨d', 0, none⟩) (z.l.length + M) c1)
  have hbz := (hO1.blk hpc.blk (fun e => hzd e)).set_ 0 (.slice (some ⟨d', 0, none⟩) (z.l.length + M) c1)
  have hown' := (Only.own (S := fun k => k = z.g) ((Only.refl (fun k => k = z.g) w3).setCell (p := ⟨z.g, 0, none⟩) (fun _ => rfl) (.slice (some ⟨d', 0, none⟩) (z.l.length + M) c1)) hown (fun k e => by simp [Value.ownBlock] at e; subst e; exact hdg))
  have hp2 : PcAt B (w3.setCell ⟨z.g, 0, none⟩ (.slice (some ⟨d', 0, none⟩) (z.l.length + M) c1)) ⟨z.g, d', c1, z.l ++ (l.drop k).take M⟩ (hd [] none) := by
    refine ⟨?_, ?_, hpc.base, ?_⟩
    · simp only [hlen]; exact hbz
    · simp only [hlen]; exact hown'
    · simp only [hlen]; omega
  have hQ := hq.turned hO2 hp2 rfl hdn hbq (fun e => absurd rfl e)
  have hTF : ∀ k, Turns q z k → QFoot q (xs ++ [z]) k := by
    rintro k (e | e | e)
    · exact .inl e
    · exact .inr ⟨z, by simp, .inl e⟩
    · exact .inr ⟨z, by simp, .inr e⟩
  refine ⟨_, hQ, ?_, h.p.only.trans hO2 (fun i hi e => ?_), ?_, hb, hf⟩
  · have hc := h.p.cat_
    rw [cat_append, cat_one] at hc ⊢
    rw [← List.append_assoc, hc, List.append_assoc, List.take_add]
  · rcases h.p.next i (hTF i e) with h | h
    · exact h
    · omega
  · intro j hj
    have hsz := h.p.only.size
    have hold : QFoot q (xs ++ [z]) j ∨ w.heap.size ≤ j := by
      rcases hj with hj | ⟨r, hr, hj⟩
      · exact .inl (.inl hj)
      · rcases List.mem_append.1 hr with hr | hr
        · exact .inl (.inr ⟨r, by simp [hr], hj⟩)
        · simp at hr; subst hr
          rcases hj with hj | hj
          · exact .inl (.inr ⟨z, by simp, .inl hj⟩)
          · rcases hdn with e | e
            · exact .inl (.inr ⟨z, by simp, .inr (by rw [hj]; exact e)⟩)
            · right; rw [hj]; simp only; omega
    rcases hold with h1 | h1
    · exact h.p.next j h1
    · exact .inr h1

theorem Bytes.dropIf {w : World} {b off len cap : Nat} {l : List UInt8} (h : Bytes w (some ⟨b, off, none⟩) len cap l) (k : Nat) (hk : k ≤ len) : Bytes w (if cap = k then some ⟨b, off, none⟩ else some ⟨b, off + k, none⟩) (len - k) (cap - k) (l.drop k) := by
  split
  · have := h.le_cap
    have h2 := h.drop k hk
    exact ⟨h2.1, h2.2, h2.3, (fun e => by cases e), .inl (by omega)⟩
  · exact h.drop k hk
theorem farIf {b off k cap : Nat} {P : Nat → Prop} (h : ¬ P b) : ∀ b1 off1, (if cap = k then some (⟨b, off, none⟩ : Addr) else some ⟨b, off + k, none⟩) = some ⟨b1, off1, none⟩ → ¬ P b1 := by
  intro b1 off1 e
  split at e <;> (simp at e; obtain ⟨rfl, _⟩ := e; exact h)

set_option maxRecDepth 100000 in
set_option maxHeartbeats 4000000 in
theorem push_any (B q n : Nat) (ps : List Pc) (w : World) (h : QAt B w q ps n) (a : Option Addr) (len cap : Nat) (l : List UInt8) (hb : Bytes w a len cap l) (hfar : ∀ b off, a = some ⟨b, off, none⟩ → ¬ QFoot q ps b) (hn : n ≤ 100000000000) (hl : len ≤ 100000000000) :
    Calls Tryz.prog 73 #[.pointer (some ⟨q, 0, none⟩), .slice a len cap] w fun e w' => e = .returned (.tuple #[]) ∧ ∃ ps', QAt B w' q ps' (n + len) ∧ cat ps' = cat ps ++ l ∧ Only (QFoot q ps) w w' ∧ ∀ j, QFoot q ps' j → QFoot q ps j ∨ w.heap.size ≤ j := by
  have hq2 := h.blk.cell 2
  have hf2 := h.blk.frozen 2
  simp only [List.getElem?_toArray, List.getElem?_cons_zero, List.getElem?_cons_succ] at hq2
  have hP0 : Pushes B q (n + len) ps w l 0 (w.setCell ⟨q, 2, none⟩ (.int .i64 ((n : Int) + (len : Int)))) ps a len cap := by
    have hO : Only (fun k => k = q) w (w.setCell ⟨q, 2, none⟩ (.int .i64 ((n : Int) + (len : Int)))) := (Only.refl (fun k => k = q) w).setCell (p := ⟨q, 2, none⟩) (fun _ => rfl) _
    refine ⟨⟨h.blk.set_ 2 _, Chain.only hO h.chain (fun k hk e => h.far (e ▸ hk)), h.apart, h.full, h.base⟩, by simp, hO.mono (fun k _ e => .inl e), fun j hj => .inl hj, hb, hfar⟩
  have HP0 := Lib.hid hP0
  have HL := Lib.hid hb.len_eq
  clear h hb hfar hP0
  go_enter Tryz.func73, Tryz.ntmps73
  go_wp2_with fail
  generalize w.setCell ⟨q, 2, none⟩ (.int .i64 ((n : Int) + (len : Int))) = w1 at *
  clear hq2 hf2
  go_loopw [1] (fun sb wr => ∃ (k : Nat) (ps' : List Pc) (a' : Option Addr) (len' cap' : Nat), sb = .slice a' len' cap' ∧ len' ≤ 100000000000 ∧ Hid (Pushes B q (n + len) ps w l k wr ps' a' len' cap')) (fun sb _ => match sb with | .slice _ n _ => n | _ => 0)
  case atStart => exact ⟨0, ps, a, len, cap, rfl, hl, HP0⟩
  case round =>
    clear HP0
    obtain ⟨k, ps', a', len', cap', rfl, hl', HP⟩ := hrel
    by_cases h0 : 0 < len'
    · have h0i : (0 : Int) < (len' : Int) := by omega
      obtain ⟨b', off', rfl⟩ := HP.out.bytes.some_ h0
      have hways : ps' = [] ∨ (∃ xs z, ps' = xs ++ [z] ∧ z.l.length = 64) ∨ (∃ xs z, ps' = xs ++ [z] ∧ z.l.length < 64) := by
        rcases List.eq_nil_or_concat ps' with h | ⟨xs, z, h⟩
        · exact .inl h
        · rw [List.concat_eq_append] at h
          subst h
          have := (Chain.append.1 HP.out.at_.chain).2.1.most
          by_cases h : z.l.length = 64
          · exact .inr (.inl ⟨xs, z, rfl, h⟩)
          · exact .inr (.inr ⟨xs, z, rfl, by omega⟩)
      rcases hways with rfl | ⟨xs, z, rfl, hz⟩ | ⟨ys, y, rfl, hz⟩
      case' inl =>
        have hq1 := HP.out.at_.blk.cell 1
        simp only [List.getElem?_toArray, List.getElem?_cons_zero, List.getElem?_cons_succ, List.getLast?_nil, Option.map_none] at hq1
        go_wp2_with fail
        refine (extend_any B q (n + len) _ wr HP.out.at_ (by simp)).mono ?_
        intro e w2 he
        obtain ⟨rfl, ys, y, hr⟩ := HP.out.extended he
        have HR := Lib.hid hr
        clear he hr hq1 HP
        have hroom := HR.out.room
        have hq1 := HR.out.p.at_.blk.cell 1
        have hz0 := (Chain.append.1 HR.out.p.at_.chain).2.1.blk.cell 0
        simp only [List.getElem?_toArray, List.getElem?_cons_zero, List.getElem?_cons_succ, (hd_getLast ys y y).2.1, Option.map_some] at hq1 hz0
        go_wp2_with fail
      case' inr.inl =>
        have hq1 := HP.out.at_.blk.cell 1
        have hz0 := (Chain.append.1 HP.out.at_.chain).2.1.blk.cell 0
        simp only [List.getElem?_toArray, List.getElem?_cons_zero, List.getElem?_cons_succ, (hd_getLast xs z z).2.1, Option.map_some, hz] at hq1 hz0
        have HZ := Lib.hid hz
        clear hz
        go_wp2_with fail
        refine (extend_any B q (n + len) _ wr HP.out.at_ (fun p hp => by have := HZ.out; simp at hp; subst hp; intro e; rw [e] at this; simp at this)).mono ?_
        intro e w2 he
        obtain ⟨rfl, ys, y, hr⟩ := HP.out.extended he
        have HR := Lib.hid hr
        clear he hr hq1 hz0 HP HZ
        have hroom := HR.out.room
        have hq1 := HR.out.p.at_.blk.cell 1
        have hz0 := (Chain.append.1 HR.out.p.at_.chain).2.1.blk.cell 0
        simp only [List.getElem?_toArray, List.getElem?_cons_zero, List.getElem?_cons_succ, (hd_getLast ys y y).2.1, Option.map_some] at hq1 hz0
        go_wp2_with fail
      case' inr.inr =>
        obtain ⟨w2, rfl⟩ : ∃ w2, w2 = wr := ⟨_, rfl⟩
        have HR : Hid (Roomy B q (n + len) ps w l k w2 ys y (some ⟨b', off', none⟩) len' cap') := Lib.hid ⟨HP.out, hz⟩
        have hzi : ((y.l.length : Int) == 64) = false := by simp; omega
        clear HP hz
        have hroom := HR.out.room
        have hq1 := HR.out.p.at_.blk.cell 1
        have hz0 := (Chain.append.1 HR.out.p.at_.chain).2.1.blk.cell 0
        simp only [List.getElem?_toArray, List.getElem?_cons_zero, List.getElem?_cons_succ, (hd_getLast ys y y).2.1, Option.map_some] at hq1 hz0
        go_wp2_with fail
        clear hzi
      all_goals
        have hzf := (Chain.append.1 HR.out.p.at_.chain).2.1.blk.frozen 0
        have hM : ∃ M : Nat, 0 < M ∧ M ≤ len' ∧ y.l.length + M ≤ 64 ∧ ((M : Int) = (len' : Int) ∧ (len' : Int) ≤ 64 - (y.l.length : Int) ∨ (M : Int) = 64 - (y.l.length : Int) ∧ 64 - (y.l.length : Int) < (len' : Int)) := by
          first
            | exact ⟨len', by omega, by omega, by omega, .inl ⟨rfl, by omega⟩⟩
            | exact ⟨64 - y.l.length, by omega, by omega, by omega, .inr ⟨by omega, by omega⟩⟩
        obtain ⟨M, hM0, hM1, hM2, hM3⟩ := hM
        first
          | (have e : (M : Int) = 64 - (y.l.length : Int) := by omega
             rw [← e]
             clear e)
          | (have e : (M : Int) = (len' : Int) := by omega
             rw [← e]
             clear e)
        clear hM3 h
        have hMc : M ≤ cap' := by have := HR.out.p.bytes.le_cap; omega
        have hpc := (Chain.append.1 HR.out.p.at_.chain).2.1
        have hown := hpc.own
        have hbq := HR.out.p.at_.blk
        rw [(hd_getLast ys y y).2.1, Option.map_some] at hbq
        have hbg := hpc.blk
        have hnq : some q ≠ some y.d := fun e => hpc.far hbq (by decide) (Option.some.inj e).symm
        have hng : some y.g ≠ some y.d := fun e => hpc.far hbg (by decide) (Option.some.inj e).symm
        have hsrc := HR.out.p.bytesAt.take M hM1
        have hBs : B ≤ w2.heap.size := by have := hpc.base; have := hpc.blk.lt; omega
        clear hpc
        obtain ⟨lm, hlm⟩ : ∃ lm, lm = (l.drop k).take M := ⟨_, rfl⟩
        rw [← hlm] at hsrc
        have HLM := Lib.hid hlm
        clear hlm
        go_region_law
          ((refine step_append_lie (by rfl) _ _ _ (by rfl) B 5 Tryz.underlying25 info5 (.slice (some ⟨y.d, 0, none⟩) y.l.length y.c) y.l (by rfl) (hown.below (Nat.le_refl _) (Below.refl _ w2).drew) (some ⟨b', off', none⟩) M cap' lm (by rfl) (hsrc.below (Nat.le_refl _) (Below.refl _ w2).drew) (by omega) hBs ?_; intro a1 c1 w3 hown1 hgrow hnext; have hb2 := hbq.drew.grown hgrow hnq; have hb3 := hbg.drew.grown hgrow hng; have e0 : w3.cell? ⟨q, 1, none⟩ = some (.pointer (some ⟨y.g, 0, none⟩)) := hb2.cell 1; have e1 : w3.cell? ⟨y.g, 0, none⟩ = some (.slice (some ⟨y.d, 0, none⟩) y.l.length y.c) := hb3.cell 0; have f1 := hb3.frozen 0))
        all_goals
          have HX := Lib.hid (push_step HR.out hM0 hM1 hM2 (by rw [← HLM.out]; exact hown1) hgrow hnext)
          have HXX := HX.out _ _ _ (by rw [← List.drop_drop]; exact Bytes.dropIf HR.out.p.bytes M hM1) (farIf (HR.out.p.far b' off' rfl))
          obtain ⟨ps2, hp2⟩ := HXX
          have HP2 := Lib.hid hp2
          generalize w3.setCell ⟨y.g, 0, none⟩ (.slice a1 (y.l.length + M) c1) = w4 at *
          clear HX hp2 hown1 hgrow hnext hb2 hb3 e0 e1 f1 hown hbq hbg hnq hng hsrc hq1 hz0 hzf
          go_wp2_with fail
          go_roundw
          case rel => exact ⟨k + M, ps2, _, _, _, rfl, by omega, HP2⟩
          case measure => simp; omega
    · obtain rfl : len' = 0 := by omega
      go_wp2_with fail
      go_end0
      have hcat := HP.out.cat_
      have hbl := HP.out.bytes.len_eq
      rw [List.take_of_length_le (by simp at hbl; omega)] at hcat
      exact ⟨rfl, ps', HP.out.at_, hcat, HP.out.only, HP.out.next⟩
end Go.Proofs.YtilfmmjjiiabgaaGreatDoor.FeedC
end

section
namespace Go.Proofs.YtilfmmjjiiabgaaGreatDoor.FeedC
open Go.RowKit Go.My BitMath RefC

/-- A Feed with these bits ahead of it; its blocks. -/
def Fed (B : Nat) (w : World) (f : Nat) (F : Nat → Prop) (bs : List Bool) (pushed : Nat) (ended : Bool) : Prop :=
  ∃ q ps word count, FAt B w f q ps word count pushed ended ∧ (32 ≤ count ∨ cat ps = []) ∧ bs = bits' word count ps ∧ F = FFoot f q ps

section
variable {B f pushed : Nat} {w w' : World} {F S : Nat → Prop} {bs : List Bool} {ended : Bool}
theorem Fed.only (h : Fed B w f F bs pushed ended) (hk : Only S w w') (hs : ∀ k, F k → ¬ S k) : Fed B w' f F bs pushed ended := by
  obtain ⟨q, ps, word, count, h1, h2, h3, rfl⟩ := h
  exact ⟨q, ps, word, count, h1.only hk hs, h2, h3, rfl⟩
theorem Fed.below (h : Fed B w f F bs pushed ended) (hk : Below w.heap.size w w') : Fed B w' f F bs pushed ended := h.only (Only.of_below hk (fun _ => False)) (fun _ _ h => h)
theorem Fed.drewN (h : Fed B w f F bs pushed ended) (n : Nat) : Fed B (w.drewN n) f F bs pushed ended := h.below ⟨rfl, rfl, rfl, Nat.le_refl _, fun _ _ => rfl⟩
theorem Fed.lt (h : Fed B w f F bs pushed ended) : ∀ k, F k → B ≤ k ∧ k < w.heap.size := by
  obtain ⟨q, ps, word, count, h1, h2, h3, rfl⟩ := h
  exact h1.lt
theorem Fed.self (h : Fed B w f F bs pushed ended) : F f := by
  obtain ⟨q, ps, word, count, h1, h2, h3, rfl⟩ := h
  exact .inl rfl
end

/-- What a call on a Feed leaves. -/
def Done (B f : Nat) (F : Nat → Prop) (w : World) (bs : List Bool) (pushed : Nat) (ended : Bool) (w' : World) : Prop :=
  ∃ F', Fed B w' f F' bs pushed ended ∧ Only F w w' ∧ ∀ k, F' k → F k ∨ w.heap.size ≤ k

theorem Done.refl {B f pushed : Nat} {w : World} {F : Nat → Prop} {bs : List Bool} {ended : Bool} (h : Fed B w f F bs pushed ended) : Done B f F w bs pushed ended w := ⟨F, h, Only.refl _ _, fun _ h => .inl h⟩
theorem Done.drewN {B f pushed : Nat} {w : World} {F : Nat → Prop} {bs : List Bool} {ended : Bool} (h : Fed B w f F bs pushed ended) (n : Nat) : Done B f F w bs pushed ended (w.drewN n) := ⟨F, h.drewN n, (Only.refl _ _).drewN n, fun _ h => .inl h⟩
theorem Done.of_drewN {B f pushed n : Nat} {w w' : World} {F : Nat → Prop} {bs : List Bool} {ended : Bool} (h : Done B f F (w.drewN n) bs pushed ended w') : Done B f F w bs pushed ended w' := by
  obtain ⟨F', h1, h2, h3⟩ := h
  exact ⟨F', h1, Only.of_drewN h2, h3⟩
theorem Done.trans {B f : Nat} {w w1 w2 : World} {F F1 : Nat → Prop} {bs : List Bool} {pushed : Nat} {ended : Bool} (h : Only F w w1) (hs : ∀ k, F1 k → F k ∨ w.heap.size ≤ k) (k : Done B f F1 w1 bs pushed ended w2) : Done B f F w bs pushed ended w2 := by
  obtain ⟨F2, h1, h2, h3⟩ := k
  refine ⟨F2, h1, h.trans h2 (fun i hi e => ?_), fun j hj => ?_⟩
  · rcases hs i e with e | e
    · exact e
    · omega
  · rcases h3 j hj with e | e
    · exact hs j e
    · have := h.size; exact .inr (by omega)

set_option maxHeartbeats 1000000 in
theorem new_any (w : World) : Calls Tryz.prog 54 #[] w fun e w' => ∃ F, e = .returned (.pointer (some ⟨w.heap.size + 1, 0, none⟩)) ∧ Fed w.heap.size w' (w.heap.size + 1) F [] 0 false ∧ Below w.heap.size w w' := by
  go_enter Tryz.func54, Tryz.ntmps54
  go_wp2
  go_ret
  have hb := (Blk.new (w.alloc (.cells #[.pointer none, .pointer none, .int .i64 0] 113)) 115 #[.int .u64 0, .int .i64 0, .pointer (some ⟨w.heap.size, 0, none⟩), .int .i64 0, .bool false])
  have hq := (Blk.new w 113 #[.pointer none, .pointer none, .int .i64 0]).alloc (.cells #[.int .u64 0, .int .i64 0, .pointer (some ⟨w.heap.size, 0, none⟩), .int .i64 0, .bool false] 115)
  refine ⟨FFoot (w.heap.size + 1) w.heap.size [], rfl, ⟨w.heap.size, [], 0, 0, ⟨?_, ⟨hq, trivial, by simp [Apart], by simp [Full], Nat.le_refl _⟩, by omega, by omega, by omega⟩, .inr rfl, by simp [bits', lows, cat, bitsOf], rfl⟩, ?_⟩
  · simpa using hb
  · exact ((Below.refl _ w).alloc (Nat.le_refl _) _).alloc (by simp) _

theorem ended_any (B f pushed : Nat) (F : Nat → Prop) (bs : List Bool) (ended : Bool) (w : World) (h : Fed B w f F bs pushed ended) :
    Calls Tryz.prog 116 #[.pointer (some ⟨f, 0, none⟩)] w fun e w' => e = .returned (.bool ended) ∧ w = w' := by
  obtain ⟨q, ps, word, count, h1, h2, h3, rfl⟩ := h
  have hc := h1.blk.cell 4
  simp only [List.getElem?_toArray, List.getElem?_cons_zero, List.getElem?_cons_succ] at hc
  clear h1 h3
  go_enter Tryz.func116, Tryz.ntmps116
  go_wp2_with fail
  go_ret
  exact ⟨rfl, rfl⟩

set_option maxHeartbeats 1000000 in
theorem bits_any (B f pushed : Nat) (F : Nat → Prop) (bs : List Bool) (ended : Bool) (w : World) (h : Fed B w f F bs pushed ended) (hl : bs.length ≤ 10000000000) :
    Calls Tryz.prog 80 #[.pointer (some ⟨f, 0, none⟩)] w fun e w' => e = .returned (.int .i64 (bs.length : Int)) ∧ ∃ n, w' = w.drewN n := by
  obtain ⟨q, ps, word, count, h1, h2, h3, rfl⟩ := h
  have hc1 := h1.blk.cell 1
  have hc2 := h1.blk.cell 2
  have hq2 := h1.que.blk.cell 2
  simp only [List.getElem?_toArray, List.getElem?_cons_zero, List.getElem?_cons_succ] at hc1 hc2 hq2
  have hlen : bs.length = count + 8 * (cat ps).length := by rw [h3, bits_len]
  have HL := Lib.hid hlen
  have hb1 : count + 8 * (cat ps).length ≤ 10000000000 := by omega
  have w1 : IntKind.i64.wrap (8 * ((cat ps).length : Int)) = 8 * ((cat ps).length : Int) := IntWalk.i64_in _ (by omega)
  have w2 : IntKind.i64.wrap ((count : Int) + 8 * ((cat ps).length : Int)) = (count : Int) + 8 * ((cat ps).length : Int) := IntWalk.i64_in _ (by omega)
  clear h1 h2 h3 hlen
  generalize (cat ps).length = n at *
  go_enter Tryz.func80, Tryz.ntmps80
  go_wp2_with fail
  go_quiet (fail)
  go_wp2_with fail
  go_ret
  exact ⟨ret_int (by rw [HL.out]; omega), _, rfl⟩

theorem used_any (B f pushed : Nat) (F : Nat → Prop) (bs : List Bool) (ended : Bool) (w : World) (h : Fed B w f F bs pushed ended) (hl : bs.length ≤ 10000000000) (hp : pushed ≤ 10000000000) :
    Calls Tryz.prog 72 #[.pointer (some ⟨f, 0, none⟩)] w fun e w' => e = .returned (.int .i64 ((pushed : Int) - ((bs.length / 8 : Nat) : Int))) ∧ ∃ n, w' = w.drewN n := by
  have H := Lib.hid h
  have hc3 : ∀ n, (w.drewN n).cell? ⟨f, 3, none⟩ = some (.int .i64 (pushed : Int)) := fun n => by
    obtain ⟨q, ps, word, count, h1, h2, h3, rfl⟩ := h
    exact h1.blk.cell 3
  have hc0 := hc3 0
  clear h
  go_enter Tryz.func72, Tryz.ntmps72
  go_wp2_with fail
  have hw1 : IntKind.i64.wrap ((pushed : Int) - (bs.length : Int) / 8) = (pushed : Int) - (bs.length : Int) / 8 := IntWalk.i64_in _ (by omega)
  have hc3 : w.cell? ⟨f, 3, none⟩ = some (.int .i64 (pushed : Int)) := hc0
  clear hc0
  go_quiet ((go_at_call 80; refine Calls.quiet_of (bits_any B f pushed F bs ended _ (H.out.drewN _) hl)))
  go_wp2_with fail
  go_ret
  exact ⟨ret_int (by omega), _, rfl⟩

/-! ### Peek -/
def peekV (bs : List Bool) (n : Int) : Nat := if 1 ≤ n ∧ n ≤ 32 then num (bs.take n.toNat) else 0
theorem peekV_lt (bs : List Bool) (n : Int) : peekV bs n < 4294967296 := by
  unfold peekV
  split
  · have := num_lt (bs.take n.toNat)
    exact Nat.lt_of_lt_of_le this (by rw [show 4294967296 = 2 ^ 32 from rfl]; exact Nat.pow_le_pow_right (by omega) (by simp; omega))
  · omega
theorem peek_word {word count : Nat} {ps : List Pc} (hs : word < 2 ^ count) (h : 32 ≤ count ∨ cat ps = []) (n : Nat) (hn : n ≤ 32) : num ((bits' word count ps).take n) = word % 2 ^ n := by
  unfold bits'
  by_cases hc : n ≤ count
  · rw [List.take_append_of_le_length (by rw [lows_len]; exact hc), ← num_lows]
    congr 1
    have e := lows_add n (count - n) word
    rw [show n + (count - n) = count from by omega] at e
    rw [e, List.take_append_of_le_length (by rw [lows_len]; omega), List.take_of_length_le (by rw [lows_len]; omega)]
  · rcases h with h | h
    · omega
    · rw [h, bitsOf_nil, List.append_nil, List.take_of_length_le (by rw [lows_len]; omega), num_lows, Nat.mod_eq_of_lt hs, Nat.mod_eq_of_lt]
      exact Nat.lt_of_lt_of_le hs (Nat.pow_le_pow_right (by omega) (by omega))
theorem u64_mask (v n : Nat) (hv : v < 18446744073709551616) (hn : n ≤ 32) : bits .and .u64 (v : Int) ((2 : Int) ^ n - 1) = ((v % 2 ^ n : Nat) : Int) := by
  have hp : 0 < 2 ^ n := Nat.two_pow_pos n
  have h7 : 2 ^ n ≤ 2 ^ 32 := Nat.pow_le_pow_right (by omega) hn
  have e : ((2 : Int) ^ n - 1) = ((2 ^ n - 1 : Nat) : Int) := by rw [Int.natCast_sub hp]; push_cast; rfl
  rw [e, u64_and_nat _ _ (by omega) (by omega), Nat.and_two_pow_sub_one_eq_mod]

theorem peek_no (n : Int) (f : Nat) (bs : List Bool) (w : World) (h : ¬ (1 ≤ n ∧ n ≤ 32)) :
    Calls Tryz.prog 123 #[.pointer (some ⟨f, 0, none⟩), .int .i64 n] w fun e w' => e = .returned (.int .u32 ((peekV bs n : Nat) : Int)) ∧ ∃ k, w' = w.drewN k := by
  have HV : Hid (peekV bs n = 0) := Lib.hid (by unfold peekV; rw [if_neg h])
  by_cases h1 : n < 1
  · go_enter Tryz.func123, Tryz.ntmps123
    go_wp2
    go_ret
    exact ⟨by rw [HV.out]; rfl, 0, rfl⟩
  · have h8 : decide (n > 32) = true := by simp; omega
    go_enter Tryz.func123, Tryz.ntmps123
    go_wp2
    go_ret
    exact ⟨by rw [HV.out]; rfl, 0, rfl⟩

set_option maxHeartbeats 1000000 in
theorem peek_yes (n : Nat) (B f pushed : Nat) (F : Nat → Prop) (bs : List Bool) (ended : Bool) (w : World) (h : Fed B w f F bs pushed ended) (h1 : 1 ≤ n) (h2 : n ≤ 32) :
    Calls Tryz.prog 123 #[.pointer (some ⟨f, 0, none⟩), .int .i64 (n : Int)] w fun e w' => e = .returned (.int .u32 ((peekV bs n : Nat) : Int)) ∧ ∃ k, w' = w.drewN k := by
  obtain ⟨q, ps, word, count, hA, h32, hbs, rfl⟩ := h
  have hpv : peekV bs n = word % 2 ^ n := by
    unfold peekV
    rw [if_pos (by omega), Int.toNat_natCast, hbs, peek_word hA.small h32 n h2]
  have hpl := peekV_lt bs n
  rw [hpv] at hpl
  have HV := Lib.hid hpv
  have hc0 := hA.blk.cell 0
  simp only [List.getElem?_toArray, List.getElem?_cons_zero] at hc0
  have hwl := hA.word_lt
  have hmk := u64_mask word n hwl h2
  have d8 : decide ((n : Int) > 32) = false := by simp; omega
  have d1 : decide ((n : Int) < 1) = false := by simp; omega
  have hpow : 2 ^ n ≤ 2 ^ 32 := Nat.pow_le_pow_right (by omega) h2
  have e2 : ((2 : Int) ^ n) = ((2 ^ n : Nat) : Int) := by push_cast; rfl
  have hp0 : 0 < 2 ^ n := Nat.two_pow_pos n
  have p1 : IntKind.u64.wrap ((2 : Int) ^ n) = (2 : Int) ^ n := by rw [e2]; exact IntWalk.u64_in _ (by omega)
  have p2 : IntKind.u64.wrap ((2 : Int) ^ n - 1) = (2 : Int) ^ n - 1 := by rw [e2]; exact IntWalk.u64_in _ (by omega)
  generalize word % 2 ^ n = x at *
  have p3 : IntKind.u32.wrap (x : Int) = (x : Int) := IntWalk.u32_in _ (by omega)
  clear hpv e2 hpow hp0 hA hbs h32
  go_enter Tryz.func123, Tryz.ntmps123
  go_wp2_with fail
  go_quiet (fail)
  go_wp2_with fail
  go_ret
  exact ⟨by rw [HV.out]; rfl, _, rfl⟩
theorem peek_any (n : Int) (B f pushed : Nat) (F : Nat → Prop) (bs : List Bool) (ended : Bool) (w : World) (h : Fed B w f F bs pushed ended) :
    Calls Tryz.prog 123 #[.pointer (some ⟨f, 0, none⟩), .int .i64 n] w fun e w' => e = .returned (.int .u32 ((peekV bs n : Nat) : Int)) ∧ ∃ k, w' = w.drewN k := by
  by_cases hn : 1 ≤ n ∧ n ≤ 32
  · obtain ⟨m, rfl⟩ : ∃ m : Nat, n = (m : Int) := ⟨n.toNat, by omega⟩
    exact peek_yes m B f pushed F bs ended w h (by omega) (by omega)
  · exact peek_no n f bs w hn

/-! ### Skip, Align -/
def skipCode (bs : List Bool) (n : Int) : Int := if n < 0 then 1 else if (bs.length : Int) < n then 5 else 0
def skipBits (bs : List Bool) (n : Int) : List Bool := if n < 0 then bs else if (bs.length : Int) < n then bs else bs.drop n.toNat

theorem use_fed (n : Nat) (B f pushed : Nat) (F : Nat → Prop) (bs : List Bool) (ended : Bool) (w : World) (h : Fed B w f F bs pushed ended) (hn : n ≤ bs.length) (hl : bs.length ≤ 10000000000) :
    Calls Tryz.prog 115 #[.pointer (some ⟨f, 0, none⟩), .int .i64 (n : Int)] w fun e w' => e = .returned (.tuple #[]) ∧ Done B f F w (bs.drop n) pushed ended w' := by
  obtain ⟨q, ps, word, count, h1, h2, rfl, rfl⟩ := h
  have hlen := bits_len word count ps
  refine (use_any B f q ps word count pushed n ended w h1 hn (by omega)).mono fun e w' ⟨he, ps1, word1, count1, hu⟩ => ⟨he, FFoot f q ps1, ⟨q, ps1, word1, count1, hu.at_, hu.full, hu.eq.symm, rfl⟩, hu.only, fun k hk => ?_⟩
  rcases hk with e | e
  · exact .inl (.inl e)
  · exact .inl (.inr (hu.sub k e))

theorem skip_any (n : Int) (B f pushed : Nat) (F : Nat → Prop) (bs : List Bool) (ended : Bool) (w : World) (h : Fed B w f F bs pushed ended) (hl : bs.length ≤ 10000000000) :
    Calls Tryz.prog 105 #[.pointer (some ⟨f, 0, none⟩), .int .i64 n] w fun e w' => e = .returned (.int .i64 (skipCode bs n)) ∧ Done B f F w (skipBits bs n) pushed ended w' := by
  have H := Lib.hid h
  clear h
  by_cases h0 : n < 0
  · have HC : Hid (skipCode bs n = 1 ∧ skipBits bs n = bs) := Lib.hid ⟨if_pos h0, if_pos h0⟩
    go_enter Tryz.func105, Tryz.ntmps105
    go_wp2_with fail
    go_ret
    exact ⟨by rw [HC.out.1]; rfl, by rw [HC.out.2]; exact Done.refl H.out⟩
  · obtain ⟨m, rfl⟩ : ∃ m : Nat, n = (m : Int) := ⟨n.toNat, by omega⟩
    by_cases hm : bs.length < m
    · have HC : Hid (skipCode bs m = 5 ∧ skipBits bs m = bs) := Lib.hid ⟨by unfold skipCode; rw [if_neg h0, if_pos (by omega)], by unfold skipBits; rw [if_neg h0, if_pos (by omega)]⟩
      go_enter Tryz.func105, Tryz.ntmps105
      go_wp2_with fail
      refine (bits_any B f pushed F bs ended w H.out hl).mono ?_
      rintro e w' ⟨rfl, k, rfl⟩
      go_wp2_with fail
      go_ret
      exact ⟨by rw [HC.out.1]; rfl, by rw [HC.out.2]; exact Done.drewN H.out k⟩
    · have HC : Hid (skipCode bs m = 0 ∧ skipBits bs m = bs.drop m) := Lib.hid ⟨by unfold skipCode; rw [if_neg h0, if_neg (by omega)], by unfold skipBits; rw [if_neg h0, if_neg (by omega)]; rfl⟩
      by_cases hz : m = 0
      · subst hz
        go_enter Tryz.func105, Tryz.ntmps105
        go_wp2_with fail
        refine (bits_any B f pushed F bs ended w H.out hl).mono ?_
        rintro e w' ⟨rfl, k, rfl⟩
        go_wp2_with fail
        go_ret
        exact ⟨by rw [HC.out.1]; rfl, by rw [HC.out.2, List.drop_zero]; exact Done.drewN H.out k⟩
      · have hm0 : 0 < m := by omega
        go_enter Tryz.func105, Tryz.ntmps105
        go_wp2_with fail
        refine (bits_any B f pushed F bs ended w H.out hl).mono ?_
        rintro e w' ⟨rfl, k, rfl⟩
        go_wp2_with fail
        refine (use_fed m B f pushed F bs ended _ (H.out.drewN k) (by omega) hl).mono ?_
        rintro e w' ⟨rfl, hd⟩
        have HD := Lib.hid hd
        clear hd
        go_wp2_with fail
        go_ret
        exact ⟨by rw [HC.out.1]; rfl, by rw [HC.out.2]; exact HD.out.of_drewN⟩

theorem align_any (B f pushed : Nat) (F : Nat → Prop) (bs : List Bool) (ended : Bool) (w : World) (h : Fed B w f F bs pushed ended) (hl : bs.length ≤ 10000000000) :
    Calls Tryz.prog 113 #[.pointer (some ⟨f, 0, none⟩)] w fun e w' => e = .returned (.tuple #[]) ∧ Done B f F w (bs.drop (bs.length % 8)) pushed ended w' := by
  have H := Lib.hid h
  clear h
  have HC : Hid (skipBits bs ((bs.length : Int) % 8) = bs.drop (bs.length % 8)) := Lib.hid (by
    unfold skipBits
    rw [if_neg (by omega), if_neg (by omega)]
    congr 1)
  go_enter Tryz.func113, Tryz.ntmps113
  go_wp2_with fail
  refine (bits_any B f pushed F bs ended w H.out hl).mono ?_
  rintro e w' ⟨rfl, k, rfl⟩
  go_wp2_with fail
  refine (skip_any _ B f pushed F bs ended _ (H.out.drewN k) hl).mono ?_
  rintro e w' ⟨rfl, hd⟩
  have HD := Lib.hid hd
  clear hd
  go_wp2_with fail
  go_end0
  exact ⟨rfl, by rw [← HC.out]; exact HD.out.of_drewN⟩
end Go.Proofs.YtilfmmjjiiabgaaGreatDoor.FeedC
end
