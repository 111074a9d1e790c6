import Derived.Test.YtilfmmjjiiabgaaGreatDoorMgAo
import Derived.Laws.MakeOwn
import Derived.Deep.RegionLaw
import Derived.StillTailTactics

section
namespace Go.My
open Go.RowKit
theorem Blk.set_far {w : World} {g b : Nat} {t : TypeId} {cs : Array Value} (h : Blk w g t cs) (hb : b ≠ g) (i : Nat) (u : Value) : Blk (w.setCell ⟨b, i, none⟩ u) g t cs :=
  Only.blk (S := fun k => k = b) ((Only.refl (fun k => k = b) w).setCell (p := ⟨b, i, none⟩) (fun _ => rfl) u) h (fun e => hb e.symm)

end Go.My
namespace Go.Proofs.YtilfmmjjiiabgaaGreatDoor.FeedC
open Go.RowKit Go.My BitMath RefC

/-- What extend leaves. -/
def Extended (B q n : Nat) (ps : List Pc) (w : World) (e : Ending) (w' : World) : Prop :=
  e = .returned (.tuple #[]) ∧ ∃ p : Pc, p.l = [] ∧ QAt B w' q (ps ++ [p]) n ∧ Only (QFoot q ps) w w' ∧ w.heap.size ≤ p.g ∧ w.heap.size ≤ p.d

theorem piece_new {B : Nat} {w1 : World} {d c : Nat} (hown : Own 5 B w1 (.slice (some ⟨d, 0, none⟩) 0 c) []) (hB : B ≤ w1.heap.size) :
    PcAt B (w1.alloc (.cells #[.slice (some ⟨d, 0, none⟩) 0 c, .pointer none] 124)) ⟨w1.heap.size, d, c, []⟩ none :=
  ⟨Blk.new _ _ _, hown.below (Nat.le_refl _) ((Below.refl _ _).alloc (Nat.le_refl _) _), hB, by simp⟩

set_option maxRecDepth 100000 in
set_option maxHeartbeats 2000000 in
theorem extend_first (B q n : Nat) (w : World) (h : QAt B w q [] n) : Calls Tryz.prog 81 #[.pointer (some ⟨q, 0, none⟩)] w (Extended B q n [] w) := by
  have HQ := Lib.hid h
  have hBs : B ≤ w.heap.size := by have := h.base; have := h.blk.lt; omega
  clear h
  go_enter Tryz.func81, Tryz.ntmps81
  go_wp2_with (at_make; refine wpList_make_cap _ rfl _ _ 25 rfl B 5 Tryz.underlying25 info5 .i64 .i64 64 64 rfl rfl rfl (by omega) hBs ?_)
  intro w1 hown hg
  have hO1 := (Only.refl (fun _ => False) w).grown hg (fun k _ hk => by cases hk)
  have hb := hO1.blk HQ.out.blk (fun h => h)
  have hb1 := hb.alloc (.cells #[.slice (some ⟨w.heap.size, 0, none⟩) 0 64, .pointer none] 124)
  have HB := Lib.hid hb1
  have HW := Lib.hid hown
  have HO := Lib.hid hO1
  have hq1 := hb1.cell 1
  have hf0 := hb1.frozen 0
  have hf1 := hb1.frozen 1
  have hq0 := hb1.cell 0
  simp only [List.getElem?_toArray, List.getElem?_cons_zero, List.getElem?_cons_succ, List.getLast?_nil, Option.map_none, hd] at hq1 hq0
  clear hb hb1 hown hg hO1
  go_wp2_with fail
  go_end0
  have hp := piece_new (c := 64) HW.out (by have := HO.out.size; omega)
  have hP : Only (fun k => k = q) (w1.alloc (.cells #[.slice (some ⟨w.heap.size, 0, none⟩) 0 64, .pointer none] 124)) (((w1.alloc (.cells #[.slice (some ⟨w.heap.size, 0, none⟩) 0 64, .pointer none] 124)).setCell ⟨q, 0, none⟩ (.pointer (some ⟨w1.heap.size, 0, none⟩))).setCell ⟨q, 1, none⟩ (.pointer (some ⟨w1.heap.size, 0, none⟩))) :=
    ((Only.refl (fun k => k = q) _).setCell (p := ⟨q, 0, none⟩) (fun _ => rfl) _).setCell (p := ⟨q, 1, none⟩) (fun _ => rfl) _
  have hql := HQ.out.blk.lt
  have hs := HO.out.size
  refine ⟨rfl, ⟨w1.heap.size, w.heap.size, 64, []⟩, rfl, ⟨(HB.out.set_ 0 _).set_ 1 _, ⟨hp.only hP (fun e => ?_) (fun e => ?_), trivial⟩, by simp [Apart], by simp [Full], HQ.out.base⟩, ?_, hs, Nat.le_refl _⟩
  · simp at e; omega
  · simp at e; omega
  · exact ((HO.out.mono (fun _ _ h => h.elim)).alloc _).trans hP (fun i _ h => .inl h)

theorem hd_getLast (xs : List Pc) (z p : Pc) : hd (xs ++ [z] ++ [p]) none = hd (xs ++ [z]) none ∧ (xs ++ [z]).getLast? = some z ∧ (xs ++ [z] ++ [p]).getLast? = some p := by
  refine ⟨?_, by simp, by simp⟩
  cases xs <;> simp [hd]

set_option maxRecDepth 100000 in
set_option maxHeartbeats 2000000 in
theorem extend_more (B q n : Nat) (xs : List Pc) (z : Pc) (w : World) (h : QAt B w q (xs ++ [z]) n) (hz : z.l ≠ []) :
    Calls Tryz.prog 81 #[.pointer (some ⟨q, 0, none⟩)] w (Extended B q n (xs ++ [z]) w) := by
  have HQ := Lib.hid h
  have HZ := Lib.hid hz
  have hBs : B ≤ w.heap.size := by have := h.base; have := h.blk.lt; omega
  clear h hz
  go_enter Tryz.func81, Tryz.ntmps81
  go_wp2_with (at_make; refine wpList_make_cap _ rfl _ _ 25 rfl B 5 Tryz.underlying25 info5 .i64 .i64 64 64 rfl rfl rfl (by omega) hBs ?_)
  intro w1 hown hg
  have hO1 := (Only.refl (fun _ => False) w).grown hg (fun k _ hk => by cases hk)
  have hb := hO1.blk HQ.out.blk (fun h => h)
  have hb1 := hb.alloc (.cells #[.slice (some ⟨w.heap.size, 0, none⟩) 0 64, .pointer none] 124)
  have hz1 := (hO1.blk (Chain.append.1 HQ.out.chain).2.1.blk (fun h => h)).alloc (.cells #[.slice (some ⟨w.heap.size, 0, none⟩) 0 64, .pointer none] 124)
  have HZ1 := Lib.hid hz1
  have HB := Lib.hid hb1
  have HW := Lib.hid hown
  have HO := Lib.hid hO1
  have hq1 := hb1.cell 1
  have hf1 := hb1.frozen 1
  have hg1 := hz1.cell 1
  have hgf := hz1.frozen 1
  simp only [List.getElem?_toArray, List.getElem?_cons_zero, List.getElem?_cons_succ, (hd_getLast xs z z).2.1, Option.map_some, hd] at hq1 hg1
  have hzq : z.g ≠ q := Blk.ne hz1 hb1 (by decide)
  have hq1s := (hb1.set_far hzq 1 (.pointer (some ⟨w1.heap.size, 0, none⟩))).cell 1
  have hf1s := (hb1.set_far hzq 1 (.pointer (some ⟨w1.heap.size, 0, none⟩))).frozen 1
  simp only [List.getElem?_toArray, List.getElem?_cons_zero, List.getElem?_cons_succ] at hq1s
  have HNE := Lib.hid hzq
  clear hb hb1 hz1 hown hg hO1 hzq
  go_wp2_with fail
  go_end0
  have hzq := HNE.out
  have hp := piece_new (c := 64) HW.out (by have := HO.out.size; omega)
  obtain ⟨W, hW⟩ : ∃ W, W = w1.alloc (.cells #[.slice (some ⟨w.heap.size, 0, none⟩) 0 64, .pointer none] 124) := ⟨_, rfl⟩
  have hOW : Only (fun _ => False) w W := by rw [hW]; exact HO.out.alloc _
  have hB1 := HB.out
  have hZ1 := HZ1.out
  rw [← hW] at hp hB1 hZ1 ⊢
  have hP : Only (fun k => k = q ∨ k = z.g) W ((W.setCell ⟨z.g, 1, none⟩ (.pointer (some ⟨w1.heap.size, 0, none⟩))).setCell ⟨q, 1, none⟩ (.pointer (some ⟨w1.heap.size, 0, none⟩))) :=
    ((Only.refl (fun k => k = q ∨ k = z.g) _).setCell (p := ⟨z.g, 1, none⟩) (fun _ => .inr rfl) _).setCell (p := ⟨q, 1, none⟩) (fun _ => .inl rfl) _
  have hql := HQ.out.lt
  have hs := HO.out.size
  have hpz := (Chain.append.1 HQ.out.chain).2.1
  have hzl := hpz.blk.lt
  have hmg := mid_g (ys := []) HQ.out.chain HQ.out.apart
  rw [List.append_nil] at hmg
  have hnew : ∀ k, Foot (xs ++ [z]) k → k < w.heap.size := fun k hk => (hql k (.inr hk)).2
  have hq := HQ.out.far
  obtain ⟨e1, e2, e3⟩ := hd_getLast xs z ⟨w1.heap.size, w.heap.size, 64, []⟩
  refine ⟨rfl, ⟨w1.heap.size, w.heap.size, 64, []⟩, rfl, ⟨?_, ?_, ⟨?_, ?_⟩, ?_, HQ.out.base⟩, ?_, hs, Nat.le_refl _⟩
  · rw [e1, e3]
    exact (hB1.set_far hzq _ _).set_ 1 (.pointer (some ⟨w1.heap.size, 0, none⟩))
  · rw [List.append_assoc]
    have hc := Chain.append.1 HQ.out.chain
    refine Chain.append.2 ⟨?_, ?_, ?_, trivial⟩
    · exact Chain.only hP (Chain.only hOW hc.1 (fun _ _ h => h)) (fun k hk e => by
        rcases e with rfl | rfl
        · exact hq hk.left
        · exact hmg hk)
    · have hz' := hc.2.1.only hOW (fun h => h) (fun h => h)
      refine ⟨(hZ1.set_ 1 _).set_far (Ne.symm hzq) _ _, hP.own hz'.own (fun k e hk => ?_), hz'.base, hz'.most⟩
      simp [Value.ownBlock] at e
      subst e
      rcases hk with e | e
      · exact hq ⟨z, by simp, .inr e.symm⟩
      · exact hz'.far hz'.blk (by decide) e
    · refine hp.only hP (fun e => ?_) (fun e => ?_)
      · have := hql q (.inl rfl); simp at e; omega
      · have := hql q (.inl rfl); simp at e; omega
  · have hn := HQ.out.apart.1
    rw [List.map_append, List.nodup_append]
    refine ⟨hn, by simp, fun a ha b hb e => ?_⟩
    obtain ⟨p, hp, rfl⟩ := List.mem_map.1 ha
    have := hnew p.g ⟨p, hp, .inl rfl⟩
    simp at hb; omega
  · have hn := HQ.out.apart.2
    rw [List.map_append, List.nodup_append]
    refine ⟨hn, by simp, fun a ha b hb e => ?_⟩
    obtain ⟨p, hp, rfl⟩ := List.mem_map.1 ha
    have := hnew p.d ⟨p, hp, .inr rfl⟩
    simp at hb; omega
  · intro p hp
    rw [List.dropLast_concat] at hp
    rcases List.mem_append.1 hp with hp | hp
    · exact HQ.out.full p (by rw [List.dropLast_concat]; exact hp)
    · simp at hp; subst hp; exact HZ.out
  · refine (hOW.mono (fun _ _ h => h.elim)).trans hP (fun i _ h => ?_)
    rcases h with h | h
    · exact .inl h
    · exact .inr ⟨z, by simp, .inl h⟩

theorem extend_any (B q n : Nat) (ps : List Pc) (w : World) (h : QAt B w q ps n) (hl : ∀ z, ps.getLast? = some z → z.l ≠ []) :
    Calls Tryz.prog 81 #[.pointer (some ⟨q, 0, none⟩)] w (Extended B q n ps w) := by
  rcases List.eq_nil_or_concat ps with rfl | ⟨xs, z, rfl⟩
  · exact extend_first B q n w h
  · rw [List.concat_eq_append] at *
    exact extend_more B q n xs z w h (hl z (by simp))
end Go.Proofs.YtilfmmjjiiabgaaGreatDoor.FeedC
end

section
namespace Go.Proofs.YtilfmmjjiiabgaaGreatDoor.FeedC
open Go.RowKit Go.My BitMath RefC

/-- What the loop of drop keeps. -/
structure Drops (B q n : Nat) (ps0 : List Pc) (w : World) (m k : Nat) (wr : World) (p : Pc) (t : List Pc) : Prop where
  at_ : QAt B wr q (p :: t) n
  le : k ≤ (cat (p :: t)).length
  cat_ : (cat (p :: t)).drop k = (cat ps0).drop m
  only : Only (QFoot q ps0) w wr
  sub : ∀ j, QFoot q (p :: t) j → QFoot q ps0 j

theorem full_pos {p : Pc} {t : List Pc} (h : Full (p :: t)) (ht : t ≠ []) : 0 < p.l.length := by
  have := h p (by cases t with | nil => exact absurd rfl ht | cons y t => simp)
  exact List.length_pos_iff.2 this

theorem Drops.next {B q n : Nat} {ps0 : List Pc} {w : World} {m k : Nat} {wr : World} {p y : Pc} {t : List Pc} (h : Drops B q n ps0 w m k wr p (y :: t)) (hk : p.l.length ≤ k) :
    Drops B q n ps0 w m (k - p.l.length) (wr.setCell ⟨q, 0, none⟩ (.pointer (some ⟨y.g, 0, none⟩))) y t := by
  have hO : Only (fun k => k = q) wr (wr.setCell ⟨q, 0, none⟩ (.pointer (some ⟨y.g, 0, none⟩))) := (Only.refl (fun k => k = q) wr).setCell (p := ⟨q, 0, none⟩) (fun _ => rfl) _
  have hle := h.le
  have hcat := h.cat_
  rw [cat_cons, List.length_append] at hle
  rw [cat_cons, List.drop_append, List.drop_of_length_le hk, List.nil_append] at hcat
  refine ⟨⟨?_, Chain.only hO h.at_.chain.2 (fun k hk e => h.at_.far (e ▸ (let ⟨r, hr, hj⟩ := hk; ⟨r, by simp [hr], hj⟩))), ?_, ?_, h.at_.base⟩, by omega, hcat, ?_, ?_⟩
  · have hb := h.at_.blk.set_ 0 (.pointer (some ⟨y.g, 0, none⟩))
    have e : (p :: y :: t).getLast? = (y :: t).getLast? := by simp
    rw [e] at hb
    exact hb
  · have ha := h.at_.apart
    unfold Apart at ha ⊢
    simp only [List.map_cons, List.nodup_cons] at ha ⊢
    exact ⟨ha.1.2, ha.2.2⟩
  · intro r hr
    exact h.at_.full r (by rw [List.dropLast_cons_cons]; exact List.mem_cons_of_mem _ hr)
  · exact h.only.trans hO (fun i _ e => by subst e; exact h.sub _ (.inl rfl))
  · rintro j (hj | ⟨r, hr, hj⟩)
    · exact h.sub j (.inl hj)
    · exact h.sub j (.inr ⟨r, by simp [hr], hj⟩)

/-- The end of drop: the first piece is cut by k. -/
theorem drop_end {B q n : Nat} {ps0 : List Pc} {w : World} {m k : Nat} {wr w3 : World} {p : Pc} {t : List Pc} (h : Drops B q n ps0 w m k wr p t) (hk : k ≤ p.l.length) (hf : t ≠ [] → k < p.l.length)
    (hO : Only (fun j => p.d = j) wr w3) (hown : Own 5 B w3 (.slice (some ⟨p.d, 0, none⟩) (p.l.length - k) p.c) (p.l.drop k)) :
    ∃ ps', ps' ≠ [] ∧ QAt B (w3.setCell ⟨p.g, 0, none⟩ (.slice (some ⟨p.d, 0, none⟩) (p.l.length - k) p.c)) q ps' n ∧ cat ps' = (cat ps0).drop m ∧ Only (QFoot q ps0) w (w3.setCell ⟨p.g, 0, none⟩ (.slice (some ⟨p.d, 0, none⟩) (p.l.length - k) p.c)) ∧ ∀ j, QFoot q ps' j → QFoot q ps0 j := by
  have hpc := h.at_.chain.1
  have hlen : (p.l.drop k).length = p.l.length - k := by simp
  have hdg : p.d ≠ p.g := hpc.far hpc.blk (by decide)
  have hdq : p.d ≠ q := hpc.far h.at_.blk (by decide)
  have hgq : p.g ≠ q := Blk.ne hpc.blk h.at_.blk (by decide)
  have hT : Only (Turns q p) wr (w3.setCell ⟨p.g, 0, none⟩ (.slice (some ⟨p.d, 0, none⟩) (p.l.length - k) p.c)) :=
    (hO.mono (fun j _ e => .inr (.inr e.symm))).setCell (p := ⟨p.g, 0, none⟩) (fun _ => .inr (.inl rfl)) _
  have hbq := (hO.blk h.at_.blk hdq).set_far hgq 0 (.slice (some ⟨p.d, 0, none⟩) (p.l.length - k) p.c)
  have hbz := (hO.blk hpc.blk hdg).set_ 0 (.slice (some ⟨p.d, 0, none⟩) (p.l.length - k) p.c)
  have hown' := (Only.own (S := fun j => j = p.g) ((Only.refl (fun j => j = p.g) w3).setCell (p := ⟨p.g, 0, none⟩) (fun _ => rfl) (.slice (some ⟨p.d, 0, none⟩) (p.l.length - k) p.c)) hown (fun j e => by simp [Value.ownBlock] at e; subst e; exact hdg))
  have hp2 : PcAt B (w3.setCell ⟨p.g, 0, none⟩ (.slice (some ⟨p.d, 0, none⟩) (p.l.length - k) p.c)) ⟨p.g, p.d, p.c, p.l.drop k⟩ (hd t none) := by
    refine ⟨?_, ?_, hpc.base, ?_⟩
    · simp only [hlen]; exact hbz
    · simp only [hlen]; exact hown'
    · simp only [hlen]; have := hpc.most; omega
  have hQ := QAt.turned (xs := []) h.at_ hT hp2 rfl (.inl rfl) hbq (fun ht e => by have := hf ht; simp only at e; rw [e] at hlen; simp at hlen; omega)
  refine ⟨_, by simp, hQ, ?_, h.only.trans hT (fun i _ e => ?_), ?_⟩
  · have hc := h.cat_
    rw [cat_cons, List.drop_append, show k - p.l.length = 0 from by omega, List.drop_zero] at hc
    exact hc
  · rcases e with e | e | e
    · exact h.sub i (.inl e)
    · exact h.sub i (.inr ⟨p, by simp, .inl e⟩)
    · exact h.sub i (.inr ⟨p, by simp, .inr e⟩)
  · rintro j (hj | ⟨r, hr, hj⟩)
    · exact h.sub j (.inl hj)
    · rcases List.mem_cons.1 hr with rfl | hr
      · exact h.sub j (.inr ⟨p, by simp, hj⟩)
      · exact h.sub j (.inr ⟨r, by simp [hr], hj⟩)

theorem Only.of_drew {S : Nat → Prop} {a b : World} (h : Only S a.drew b) : Only S a b := ⟨h.os, h.tape, h.output, h.size, h.block⟩
theorem sz5 : (Tryz.prog.info? 5).map (·.size) = some 1 := by kernel_rfl

set_option maxRecDepth 100000 in
set_option maxHeartbeats 4000000 in
theorem drop_any (B q n m : Nat) (p0 : Pc) (t0 : List Pc) (w : World) (h : QAt B w q (p0 :: t0) n) (hm : m ≤ (cat (p0 :: t0)).length) (hmn : m ≤ n) (hn : n ≤ 100000000000) :
    Calls Tryz.prog 82 #[.pointer (some ⟨q, 0, none⟩), .int .i64 (m : Int)] w fun e w' => e = .returned (.tuple #[]) ∧ ∃ ps', ps' ≠ [] ∧ QAt B w' q ps' (n - m) ∧ cat ps' = (cat (p0 :: t0)).drop m ∧ Only (QFoot q (p0 :: t0)) w w' ∧ ∀ j, QFoot q ps' j → QFoot q (p0 :: t0) j := by
  have hq2 := h.blk.cell 2
  have hf2 := h.blk.frozen 2
  simp only [List.getElem?_toArray, List.getElem?_cons_zero, List.getElem?_cons_succ] at hq2
  have hD0 : Drops B q (n - m) (p0 :: t0) w m m (w.setCell ⟨q, 2, none⟩ (.int .i64 ((n : Int) - (m : Int)))) p0 t0 := by
    have hO : Only (fun k => k = q) w (w.setCell ⟨q, 2, none⟩ (.int .i64 ((n : Int) - (m : Int)))) := (Only.refl (fun k => k = q) w).setCell (p := ⟨q, 2, none⟩) (fun _ => rfl) _
    refine ⟨⟨?_, Chain.only hO h.chain (fun k hk e => h.far (e ▸ hk)), h.apart, h.full, h.base⟩, hm, rfl, hO.mono (fun k _ e => .inl e), fun j hj => hj⟩
    rw [show ((n - m : Nat) : Int) = (n : Int) - (m : Int) from by omega]
    exact h.blk.set_ 2 _
  have HD0 := Lib.hid hD0
  have hmi : (m : Int) ≤ (n : Int) := by omega
  clear h hD0 hm hmn
  go_enter Tryz.func82, Tryz.ntmps82
  go_wp2_with fail
  generalize w.setCell ⟨q, 2, none⟩ (.int .i64 ((n : Int) - (m : Int))) = w1 at *
  clear hq2 hf2
  go_loopw [1] (fun i wr => ∃ (k : Nat) (p : Pc) (t : List Pc), i = .int .i64 (k : Int) ∧ k ≤ m ∧ Hid (Drops B q (n - m) (p0 :: t0) w m k wr p t)) (fun i _ => (intOf i).toNat)
  case atStart => exact ⟨m, p0, t0, rfl, Nat.le_refl _, HD0⟩
  case round =>
    clear HD0
    obtain ⟨k, p, t, rfl, hkm, HD⟩ := hrel
    have hq0 := HD.out.at_.blk.cell 0
    have hqf := HD.out.at_.blk.frozen 0
    have hz0 := HD.out.at_.chain.1.blk.cell 0
    have hz1 := HD.out.at_.chain.1.blk.cell 1
    simp only [List.getElem?_toArray, List.getElem?_cons_zero, List.getElem?_cons_succ, hd] at hq0 hz0 hz1
    by_cases hlt : k < p.l.length
    case' pos =>
      have hdec : ¬ p.l.length ≤ k := by omega
      have HF : Hid (t ≠ [] → k < p.l.length) := Lib.hid (fun _ => hlt)
      have hkl : k ≤ p.l.length := by omega
      clear hlt
      go_wp2_with fail
    case' neg =>
      rcases t with _ | ⟨y, t⟩
      case' nil =>
        have hle := HD.out.le
        rw [cat_one] at hle
        have hkl : k ≤ p.l.length := hle
        have HF : Hid (([] : List Pc) ≠ [] → k < p.l.length) := Lib.hid (fun h => absurd rfl h)
        simp only at hz1
        have hdec : p.l.length ≤ k := by omega
        clear hlt hle
        go_wp2_with fail
      case' cons =>
        have hpos := full_pos HD.out.at_.full (by simp)
        have HD2 := Lib.hid (HD.out.next (by omega))
        simp only at hz1
        have hdec : p.l.length ≤ k := by omega
        have hle : (p.l.length : Int) ≤ (k : Int) := by omega
        go_wp2_with fail
        go_roundw
        case rel => exact ⟨k - p.l.length, y, t, by rw [show ((k - p.l.length : Nat) : Int) = (k : Int) - (p.l.length : Int) from by omega], by omega, HD2⟩
        case measure => simp [intOf]; omega
    all_goals
      have hown := HD.out.at_.chain.1.own
      have hbg := HD.out.at_.chain.1.blk
      have hzf := hbg.frozen 0
      have hdg : p.d ≠ p.g := HD.out.at_.chain.1.far hbg (by decide)
      have hlc : p.l.length ≤ p.c := by obtain ⟨_, _, e, hb⟩ := hown.bytes; simp only [Value.slice.injEq] at e; obtain ⟨_, _, rfl⟩ := e; exact hb.le_cap
      have hkc : k ≤ p.c := by omega
      obtain ⟨N, hN⟩ : ∃ N, N = p.l.length - k := ⟨_, rfl⟩
      have hNc : N ≤ p.c := by omega
      have HN := Lib.hid hN
      clear hN
      go_region_law
        ((refine step_copy_front (by rfl) _ _ _ (by rfl) 5 Tryz.underlying25 sz5 B p.d p.c p.l.length p.l (hown.below (Nat.le_refl _) (Below.refl _ wr).drew) rfl k hkl _ _ _ ?_ N ?_ (by rfl) (by rfl) ?_ ?_; (first | rfl | omega); (first | exact HN.out.symm | (rw [HN.out]; omega)); (intro hn0; rw [if_neg (by omega)]); intro w3 hO3 hown3; have e1 : w3.cell? ⟨p.g, 0, none⟩ = some (.slice (some ⟨p.d, 0, none⟩) p.l.length p.c) := (hO3.blk hbg.drew hdg).cell 0; have f1 := (hO3.blk hbg.drew hdg).frozen 0))
      all_goals
        rw [HN.out] at hown3
        have HE := Lib.hid (drop_end HD.out hkl HF.out (Only.of_drew hO3) hown3)
        rw [← HN.out] at HE
        clear hown3 hO3 e1 f1
        go_end0
        exact ⟨rfl, HE.out⟩
end Go.Proofs.YtilfmmjjiiabgaaGreatDoor.FeedC
end

section
namespace Go.Proofs.YtilfmmjjiiabgaaGreatDoor.FeedC
open Go.RowKit Go.My BitMath RefC

/-- A Feed: its block, its queue's, the pieces; the word, how many bits it has, how many bytes were pushed. -/
structure FAt (B : Nat) (w : World) (f q : Nat) (ps : List Pc) (word count pushed : Nat) (ended : Bool) : Prop where
  blk : Blk w f 115 #[.int .u64 (word : Int), .int .i64 (count : Int), .pointer (some ⟨q, 0, none⟩), .int .i64 (pushed : Int), .bool ended]
  que : QAt B w q ps (cat ps).length
  base : B ≤ f
  small : word < 2 ^ count
  most : count ≤ 64

/-- All blocks of a Feed. -/
def FFoot (f q : Nat) (ps : List Pc) : Nat → Prop := fun k => k = f ∨ QFoot q ps k

theorem FAt.far {B : Nat} {w : World} {f q : Nat} {ps : List Pc} {word count pushed : Nat} {ended : Bool} (h : FAt B w f q ps word count pushed ended) : ¬ QFoot q ps f := by
  rintro (e | e)
  · exact Blk.ne h.blk h.que.blk (by decide) e
  · exact Chain.far h.blk (by decide) (by decide) h.que.chain e
theorem FAt.lt {B : Nat} {w : World} {f q : Nat} {ps : List Pc} {word count pushed : Nat} {ended : Bool} (h : FAt B w f q ps word count pushed ended) : ∀ k, FFoot f q ps k → B ≤ k ∧ k < w.heap.size := by
  rintro k (rfl | hk)
  · exact ⟨h.base, h.blk.lt⟩
  · exact h.que.lt k hk
theorem FAt.only {B : Nat} {w w' : World} {f q : Nat} {ps : List Pc} {word count pushed : Nat} {ended : Bool} {S : Nat → Prop} (h : FAt B w f q ps word count pushed ended) (hk : Only S w w') (hs : ∀ k, FFoot f q ps k → ¬ S k) : FAt B w' f q ps word count pushed ended :=
  ⟨hk.blk h.blk (hs _ (.inl rfl)), h.que.only hk (hs _ (.inr (.inl rfl))) (fun k hk => hs k (.inr (.inr hk))), h.base, h.small, h.most⟩
theorem FAt.word_lt {B : Nat} {w : World} {f q : Nat} {ps : List Pc} {word count pushed : Nat} {ended : Bool} (h : FAt B w f q ps word count pushed ended) : word < 18446744073709551616 :=
  Nat.lt_of_lt_of_le h.small (by rw [show 18446744073709551616 = 2 ^ 64 from rfl]; exact Nat.pow_le_pow_right (by omega) h.most)

/-- The bits that are there. -/
def bits' (word count : Nat) (ps : List Pc) : List Bool := lows count word ++ bitsOf (cat ps)

theorem byte_in {word C : Nat} (c : UInt8) (hw : word < 2 ^ C) (h8 : C ≤ 56) :
    IntKind.u64.wrap (c.toNat : Int) = (c.toNat : Int) ∧ IntKind.u64.wrap ((c.toNat : Int) * 2 ^ C) = (c.toNat : Int) * 2 ^ C ∧ bits .or .u64 (word : Int) ((c.toNat : Int) * 2 ^ C) = ((word + 2 ^ C * c.toNat : Nat) : Int) ∧ word + 2 ^ C * c.toNat < 2 ^ (C + 8) ∧ lows (C + 8) (word + 2 ^ C * c.toNat) = lows C word ++ lows 8 c.toNat := by
  have hb := c.toNat_lt
  generalize c.toNat = b at hb
  have h56 : 2 ^ C ≤ 2 ^ 56 := Nat.pow_le_pow_right (by omega) (by omega)
  have hm : b * 2 ^ C ≤ 255 * 2 ^ C := Nat.mul_le_mul_right _ (by omega)
  have e : (b : Int) * 2 ^ C = ((b * 2 ^ C : Nat) : Int) := by push_cast; rfl
  refine ⟨IntWalk.u64_in _ (by omega), ?_, ?_, ?_, lows_join C 8 word b hw⟩
  · rw [e, IntWalk.u64_in _ (by omega)]
  · rw [e, u64_or_nat _ _ (by omega) (by omega), or_join C word b hw]
  · rw [Nat.pow_add, Nat.mul_comm (2 ^ C) b]
    omega

/-- What the inner loop of fill keeps: j bytes have gone into the word. -/
structure Fills (w : World) (f q pushed : Nat) (ended : Bool) (word count : Nat) (l : List UInt8) (j : Nat) (wr : World) (W C : Nat) : Prop where
  blk : Blk wr f 115 #[.int .u64 (W : Int), .int .i64 (C : Int), .pointer (some ⟨q, 0, none⟩), .int .i64 (pushed : Int), .bool ended]
  only : Only (fun k => k = f) w wr
  small : W < 2 ^ C
  cnt : C = count + 8 * j
  eq : lows C W = lows count word ++ bitsOf (l.take j)

theorem fills_step {w : World} {f q pushed : Nat} {ended : Bool} {word count : Nat} {l : List UInt8} {j : Nat} {wr : World} {W C : Nat} (h : Fills w f q pushed ended word count l j wr W C) (hj : j < l.length) (h8 : C ≤ 56) (w2 : World) (hw2 : Only (fun k => k = f) wr w2)
    (hb : Blk w2 f 115 #[.int .u64 ((W + 2 ^ C * l[j].toNat : Nat) : Int), .int .i64 ((C + 8 : Nat) : Int), .pointer (some ⟨q, 0, none⟩), .int .i64 (pushed : Int), .bool ended]) :
    Fills w f q pushed ended word count l (j + 1) w2 (W + 2 ^ C * l[j].toNat) (C + 8) := by
  obtain ⟨_, _, _, p4, p5⟩ := byte_in l[j] h.small h8
  refine ⟨hb, h.only.trans hw2 (fun i _ e => e), p4, by have := h.cnt; omega, ?_⟩
  rw [p5, h.eq, List.take_succ_eq_append_getElem hj, bitsOf_append, bitsOf_one, List.append_assoc]

/-- What fill keeps and leaves. -/
structure Filled (B f q : Nat) (ps : List Pc) (word count pushed : Nat) (ended : Bool) (w wr : World) (ps1 : List Pc) (word1 count1 : Nat) : Prop where
  at_ : FAt B wr f q ps1 word1 count1 pushed ended
  eq : bits' word1 count1 ps1 = bits' word count ps
  only : Only (FFoot f q ps) w wr
  sub : ∀ j, QFoot q ps1 j → QFoot q ps j

def sizeAt (w : World) (q : Nat) : Nat := match w.cell? ⟨q, 2, none⟩ with | some (.int _ n) => n.toNat | _ => 0
theorem sizeAt_of {B : Nat} {w : World} {q n : Nat} {ps : List Pc} (h : QAt B w q ps n) : sizeAt w q = n := by
  have := h.blk.cell 2
  simp only [List.getElem?_toArray, List.getElem?_cons_zero, List.getElem?_cons_succ] at this
  unfold sizeAt
  rw [this]
  simp

theorem fill_step {B f q : Nat} {ps : List Pc} {word count pushed : Nat} {ended : Bool} {w w1 wr w5 : World} {ps1 ps5 : List Pc} {word1 count1 M W C : Nat} {lm : List UInt8} (h : Filled B f q ps word count pushed ended w w1 ps1 word1 count1)
    (hf : Fills w1 f q pushed ended word1 count1 lm M wr W C) (hm : lm.length = M) (h8 : count1 + 8 * M ≤ 64) (hcc : cat ps1 = lm ++ (cat ps1).drop M)
    (hq : QAt B w5 q ps5 ((cat ps1).length - M)) (hc : cat ps5 = (cat ps1).drop M) (ho : Only (QFoot q ps1) wr w5) (hs : ∀ j, QFoot q ps5 j → QFoot q ps1 j) : Filled B f q ps word count pushed ended w w5 ps5 W C := by
  have hfar := h.at_.far
  have hcnt := hf.cnt
  refine ⟨⟨ho.blk hf.blk hfar, ?_, h.at_.base, hf.small, by omega⟩, ?_, ?_, fun j hj => h.sub j (hs j hj)⟩
  · rw [hc, List.length_drop]; exact hq
  · rw [← h.eq]
    unfold bits'
    rw [hf.eq, List.take_of_length_le (by omega), hc, List.append_assoc, ← bitsOf_append, ← hcc]
  · refine h.only.trans ((hf.only.mono (T := FFoot f q ps1) (fun k _ e => .inl e)).trans ho (fun i _ e => .inr e)) ?_
    intro i _ e
    rcases e with e | e
    · exact .inl e
    · exact .inr (h.sub i e)

set_option maxRecDepth 100000 in
set_option maxHeartbeats 4000000 in
theorem fill_any (B f q : Nat) (ps : List Pc) (word count pushed : Nat) (ended : Bool) (w : World) (h : FAt B w f q ps word count pushed ended) (hl : (cat ps).length ≤ 100000000000) :
    Calls Tryz.prog 74 #[.pointer (some ⟨f, 0, none⟩)] w fun e w' => e = .returned (.tuple #[]) ∧ ∃ ps1 word1 count1, Filled B f q ps word count pushed ended w w' ps1 word1 count1 ∧ (32 ≤ count1 ∨ cat ps1 = []) := by
  have HF0 : Hid (Filled B f q ps word count pushed ended w w ps word count) := Lib.hid ⟨h, rfl, Only.refl _ _, fun _ h => h⟩
  clear h
  go_enter Tryz.func74, Tryz.ntmps74
  go_wp2_with fail
  go_loopw [2] (fun _ wr => ∃ (ps1 : List Pc) (word1 count1 : Nat), (cat ps1).length ≤ 100000000000 ∧ Hid (Filled B f q ps word count pushed ended w wr ps1 word1 count1)) (fun _ wr => sizeAt wr q)
  case atStart => exact ⟨ps, word, count, hl, HF0⟩
  case round =>
    clear HF0 hl
    obtain ⟨ps1, word1, count1, hl1, HF⟩ := hrel
    have hc1 := HF.out.at_.blk.cell 1
    have hc2 := HF.out.at_.blk.cell 2
    have hs2 := HF.out.at_.que.blk.cell 2
    simp only [List.getElem?_toArray, List.getElem?_cons_zero, List.getElem?_cons_succ] at hc1 hc2 hs2
    obtain ⟨w1, rfl⟩ : ∃ w1, w1 = wr := ⟨_, rfl⟩
    have hmost := HF.out.at_.most
    by_cases hlt : count1 < 32
    · by_cases hpos : 0 < (cat ps1).length
      · obtain ⟨p, t, rfl⟩ : ∃ p t, ps1 = p :: t := by
          cases ps1 with
          | nil => simp [cat] at hpos
          | cons p t => exact ⟨p, t, rfl⟩
        have hq0 := HF.out.at_.que.blk.cell 0
        have hz0 := HF.out.at_.que.chain.1.blk.cell 0
        simp only [List.getElem?_toArray, List.getElem?_cons_zero, hd] at hq0 hz0
        have hpp : 0 < p.l.length := by
          by_cases ht : t = []
          · subst ht; rw [cat_one] at hpos; exact hpos
          · exact full_pos HF.out.at_.que.full ht
        have hby : Bytes w1 (some ⟨p.d, 0, none⟩) p.l.length p.c p.l := by
          obtain ⟨a, c, e, hb⟩ := HF.out.at_.que.chain.1.own.bytes
          simp only [Value.slice.injEq] at e
          obtain ⟨rfl, -, rfl⟩ := e
          exact hb
        obtain ⟨M, hM0, hM1, hM2, hmin⟩ : ∃ M : Nat, 0 < M ∧ M ≤ p.l.length ∧ count1 + 8 * M ≤ 64 ∧ (if (64 - (count1 : Int)) / 8 < (p.l.length : Int) then (64 - (count1 : Int)) / 8 else (p.l.length : Int)) = (M : Int) := by
          by_cases hm : (64 - (count1 : Int)) / 8 < (p.l.length : Int)
          · exact ⟨(64 - count1) / 8, by omega, by omega, by omega, by rw [if_pos hm]; omega⟩
          · exact ⟨p.l.length, by omega, by omega, by omega, by rw [if_neg hm]⟩
        have hMc : M ≤ p.c := by have := hby.le_cap; omega
        have hlc : p.l.length ≤ 64 := HF.out.at_.que.chain.1.most
        have HBY := Lib.hid (hby.take M hM1)
        have HLT : Hid (M ≤ (cat (p :: t)).length) := Lib.hid (by rw [cat_cons, List.length_append]; omega)
        have hll : (p.l.take M).length = M := by simp; omega
        have HLL := Lib.hid hll
        have hne : p.d ≠ f := HF.out.at_.que.chain.1.far HF.out.at_.blk (by decide)
        have HNE := Lib.hid hne
        have HFI : Hid (Fills w1 f q pushed ended word1 count1 (p.l.take M) 0 w1 word1 count1) := Lib.hid ⟨HF.out.at_.blk, Only.refl _ _, HF.out.at_.small, rfl, by simp [bitsOf]⟩
        have HCC : Hid (cat (p :: t) = p.l.take M ++ (cat (p :: t)).drop M ) := Lib.hid (by
          rw [cat_cons, List.drop_append, show M - p.l.length = 0 from by omega, List.drop_zero, ← List.append_assoc, List.take_append_drop])
        obtain ⟨lm, hlm⟩ : ∃ lm, lm = p.l.take M := ⟨_, rfl⟩
        rw [← hlm] at HBY HLL HFI HCC
        clear hlm hll hne hby
        go_wp2_with fail
        clear hmin hz0 hq0 hc1 hc2 hs2
        go_loopw [43] (fun i wx => ∃ (j W C : Nat), j ≤ M ∧ i = .int .i64 (j : Int) ∧ Hid (Fills w1 f q pushed ended word1 count1 lm j wx W C)) (fun i _ => M - (intOf i).toNat)
        case atStart => exact ⟨0, word1, count1, by omega, rfl, HFI⟩
        case round =>
          clear HFI
          obtain ⟨j, W, C, hj, rfl, HFI⟩ := hrel
          by_cases hjl : j < M
          · have hjs : j < lm.length := by rw [HLL.out]; exact hjl
            have hcell : wr.cell? ⟨p.d, j, none⟩ = some (.int .u8 (lm[j].toNat : Int)) := by
              rcases HBY.out.at_ with h0 | ⟨b, off, hab, hs, hc⟩
              · omega
              · simp only [Option.some.injEq, Addr.mk.injEq, and_true] at hab
                obtain ⟨rfl, rfl⟩ := hab
                rw [HFI.out.only.cell (p := ⟨p.d, j, none⟩) hs HNE.out]
                have := hc j hjs
                rwa [Nat.zero_add] at this
            have hC8 : C ≤ 56 := by have := HFI.out.cnt; omega
            have hst := fun w2 h1 h2 => fills_step HFI.out hjs hC8 w2 h1 h2
            have HST := Lib.hid hst
            obtain ⟨p1, p2, p3, p4, p5⟩ := byte_in lm[j] HFI.out.small hC8
            have hW := HFI.out.small
            have hW2 : W < 18446744073709551616 := Nat.lt_of_lt_of_le hW (by rw [show 18446744073709551616 = 2 ^ 64 from rfl]; exact Nat.pow_le_pow_right (by omega) (by omega))
            have hb0 := HFI.out.blk.cell 0
            have hb1 := HFI.out.blk.cell 1
            have hf0 := HFI.out.blk.frozen 0
            have hf1 := HFI.out.blk.frozen 1
            simp only [List.getElem?_toArray, List.getElem?_cons_zero, List.getElem?_cons_succ] at hb0 hb1
            have hv8 : (lm[j].toNat : Int) < 256 := by have := lm[j].toNat_lt; omega
            clear hst p4 p5 hW
            generalize lm[j].toNat = v at *
            generalize W + 2 ^ C * v = W2 at *
            go_wp2_with fail
            go_still_tail 14, (by kernel_rfl)
            change wpList _ _ _ _ _ wr.drew
            have hc0' : wr.drew.cell? ⟨f, 0, none⟩ = some (.int .u64 (W : Int)) := hb0
            have hc1' : wr.drew.cell? ⟨f, 1, none⟩ = some (.int .i64 (C : Int)) := hb1
            have hf0' : wr.drew.frozen? ⟨f, 0, none⟩ = false := hf0
            have hf1' : wr.drew.frozen? ⟨f, 1, none⟩ = false := hf1
            have hod : Only (fun k => k = f) wr wr.drew := (Only.refl _ wr).drew
            have hbd := HFI.out.blk.drew
            have hend := Lib.hid (HST.out _ ((hod.setCell (p := ⟨f, 0, none⟩) (fun _ => rfl) (.int .u64 (W2 : Int))).setCell (p := ⟨f, 1, none⟩) (fun _ => rfl) (.int .i64 ((C : Int) + 8))) (by
              have hx := (hbd.set_ 0 (.int .u64 (W2 : Int))).set_ 1 (.int .i64 ((C : Int) + 8))
              rw [show ((C + 8 : Nat) : Int) = (C : Int) + 8 from by omega]
              exact hx))
            clear hb0 hb1 hf0 hf1 p1 p2 p3 hcell HST hod hbd
            generalize wr.drew = wd at *
            go_wp2_with fail
            go_roundw
            case rel => exact ⟨j + 1, _, _, by omega, by go_num, hend⟩
            case measure => simp [intOf]; omega
          · obtain rfl : j = M := by omega
            have hc2 := HFI.out.blk.cell 2
            simp only [List.getElem?_toArray, List.getElem?_cons_zero, List.getElem?_cons_succ] at hc2
            have hdr := drop_any B q (cat (p :: t)).length j p t wr (HF.out.at_.que.only HFI.out.only (fun e => HF.out.at_.far (Or.inl e.symm)) (fun k hk e => HF.out.at_.far (Or.inr (e ▸ hk)))) HLT.out HLT.out hl1
            have HDR := Lib.hid hdr
            clear hdr
            go_wp2_with fail
            refine HDR.out.mono ?_
            rintro e w5 ⟨rfl, ps5, hne5, hq5, hcat5, ho5, hsub5⟩
            have hst := fill_step HF.out HFI.out HLL.out hM2 HCC.out hq5 hcat5 ho5 hsub5
            have HST := Lib.hid hst
            have hms : sizeAt w5 q < sizeAt w1 q := by rw [sizeAt_of hq5, sizeAt_of HF.out.at_.que]; omega
            have hl5 : (cat ps5).length ≤ 100000000000 := by rw [hcat5, List.length_drop]; omega
            clear hne5 hq5 hcat5 ho5 hsub5 hst hc2 HFI HDR
            go_wp2_with fail
            go_roundw
            case rel => exact ⟨ps5, _, _, hl5, HST⟩
            case measure => exact hms
      · have hnil : cat ps1 = [] := List.length_eq_zero_iff.1 (by omega)
        have HNIL := Lib.hid hnil
        rw [hnil] at hs2
        clear hnil hpos
        simp only [List.length_nil] at hs2
        go_wp2_with fail
        go_end0
        exact ⟨rfl, ps1, word1, count1, HF.out, .inr HNIL.out⟩
    · have hge : ¬ (count1 : Int) < 32 := by omega
      go_wp2_with fail
      go_end0
      exact ⟨rfl, ps1, word1, count1, HF.out, .inl (by omega)⟩
end Go.Proofs.YtilfmmjjiiabgaaGreatDoor.FeedC
end
