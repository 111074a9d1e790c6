import Derived.Test.YtihcebpkbkgmcaaFeedA
import Derived.Laws.MakeOwn
namespace Go.My
open Go.RowKit
theorem Blk.set_far {w : World} {g b : Nat} {t : TypeId} {cs : Array Value} (h : Blk w g t cs) (hb : b ≠ g) (i : Nat) (u : Value) : Blk (w.setCell ⟨b, i, none⟩ u) g t cs :=
  Only.blk (S := fun k => k = b) ((Only.refl (fun k => k = b) w).setCell (p := ⟨b, i, none⟩) (fun _ => rfl) u) h (fun e => hb e.symm)

end Go.My
namespace Go.Proofs.Ytihcebpkbkgmcaa.FeedC
open Go.RowKit Go.My BitMath RefC

/-- What extend leaves. -/
def Extended (B q n : Nat) (ps : List Pc) (w : World) (e : Ending) (w' : World) : Prop :=
  e = .returned (.tuple #[]) ∧ ∃ p : Pc, p.l = [] ∧ QAt B w' q (ps ++ [p]) n ∧ Only (QFoot q ps) w w' ∧ w.heap.size ≤ p.g ∧ w.heap.size ≤ p.d

theorem piece_new {B : Nat} {w1 : World} {d c : Nat} (hown : Own 5 B w1 (.slice (some ⟨d, 0, none⟩) 0 c) []) (hB : B ≤ w1.heap.size) :
    PcAt B (w1.alloc (.cells #[.slice (some ⟨d, 0, none⟩) 0 c, .pointer none] 54)) ⟨w1.heap.size, d, c, []⟩ none :=
  ⟨Blk.new _ _ _, hown.below (Nat.le_refl _) ((Below.refl _ _).alloc (Nat.le_refl _) _), hB, by simp⟩

set_option maxRecDepth 100000 in
set_option maxHeartbeats 2000000 in
theorem extend_first (B q n : Nat) (w : World) (h : QAt B w q [] n) : Calls Try.prog 24 #[.pointer (some ⟨q, 0, none⟩)] w (Extended B q n [] w) := by
  have HQ := Lib.hid h
  have hBs : B ≤ w.heap.size := by have := h.base; have := h.blk.lt; omega
  clear h
  go_enter Try.func24, Try.ntmps24
  go_wp2_with (at_make; refine wpList_make_cap _ rfl _ _ 25 rfl B 5 Try.underlying25 info5 .i64 .i64 64 64 rfl rfl rfl (by omega) hBs ?_)
  intro w1 hown hg
  have hO1 := (Only.refl (fun _ => False) w).grown hg (fun k _ hk => by cases hk)
  have hb := hO1.blk HQ.out.blk (fun h => h)
  have hb1 := hb.alloc (.cells #[.slice (some ⟨w.heap.size, 0, none⟩) 0 64, .pointer none] 54)
  have HB := Lib.hid hb1
  have HW := Lib.hid hown
  have HO := Lib.hid hO1
  have hq1 := hb1.cell 1
  have hf0 := hb1.frozen 0
  have hf1 := hb1.frozen 1
  have hq0 := hb1.cell 0
  simp only [List.getElem?_toArray, List.getElem?_cons_zero, List.getElem?_cons_succ, List.getLast?_nil, Option.map_none, hd] at hq1 hq0
  clear hb hb1 hown hg hO1
  go_wp2_with fail
  go_end0
  have hp := piece_new (c := 64) HW.out (by have := HO.out.size; omega)
  have hP : Only (fun k => k = q) (w1.alloc (.cells #[.slice (some ⟨w.heap.size, 0, none⟩) 0 64, .pointer none] 54)) (((w1.alloc (.cells #[.slice (some ⟨w.heap.size, 0, none⟩) 0 64, .pointer none] 54)).setCell ⟨q, 0, none⟩ (.pointer (some ⟨w1.heap.size, 0, none⟩))).setCell ⟨q, 1, none⟩ (.pointer (some ⟨w1.heap.size, 0, none⟩))) :=
    ((Only.refl (fun k => k = q) _).setCell (p := ⟨q, 0, none⟩) (fun _ => rfl) _).setCell (p := ⟨q, 1, none⟩) (fun _ => rfl) _
  have hql := HQ.out.blk.lt
  have hs := HO.out.size
  refine ⟨rfl, ⟨w1.heap.size, w.heap.size, 64, []⟩, rfl, ⟨(HB.out.set_ 0 _).set_ 1 _, ⟨hp.only hP (fun e => ?_) (fun e => ?_), trivial⟩, by simp [Apart], by simp [Full], HQ.out.base⟩, ?_, hs, Nat.le_refl _⟩
  · simp at e; omega
  · simp at e; omega
  · exact ((HO.out.mono (fun _ _ h => h.elim)).alloc _).trans hP (fun i _ h => .inl h)

theorem hd_getLast (xs : List Pc) (z p : Pc) : hd (xs ++ [z] ++ [p]) none = hd (xs ++ [z]) none ∧ (xs ++ [z]).getLast? = some z ∧ (xs ++ [z] ++ [p]).getLast? = some p := by
  refine ⟨?_, by simp, by simp⟩
  cases xs <;> simp [hd]

set_option maxRecDepth 100000 in
set_option maxHeartbeats 2000000 in
theorem extend_more (B q n : Nat) (xs : List Pc) (z : Pc) (w : World) (h : QAt B w q (xs ++ [z]) n) (hz : z.l ≠ []) :
    Calls Try.prog 24 #[.pointer (some ⟨q, 0, none⟩)] w (Extended B q n (xs ++ [z]) w) := by
  have HQ := Lib.hid h
  have HZ := Lib.hid hz
  have hBs : B ≤ w.heap.size := by have := h.base; have := h.blk.lt; omega
  clear h hz
  go_enter Try.func24, Try.ntmps24
  go_wp2_with (at_make; refine wpList_make_cap _ rfl _ _ 25 rfl B 5 Try.underlying25 info5 .i64 .i64 64 64 rfl rfl rfl (by omega) hBs ?_)
  intro w1 hown hg
  have hO1 := (Only.refl (fun _ => False) w).grown hg (fun k _ hk => by cases hk)
  have hb := hO1.blk HQ.out.blk (fun h => h)
  have hb1 := hb.alloc (.cells #[.slice (some ⟨w.heap.size, 0, none⟩) 0 64, .pointer none] 54)
  have hz1 := (hO1.blk (Chain.append.1 HQ.out.chain).2.1.blk (fun h => h)).alloc (.cells #[.slice (some ⟨w.heap.size, 0, none⟩) 0 64, .pointer none] 54)
  have HZ1 := Lib.hid hz1
  have HB := Lib.hid hb1
  have HW := Lib.hid hown
  have HO := Lib.hid hO1
  have hq1 := hb1.cell 1
  have hf1 := hb1.frozen 1
  have hg1 := hz1.cell 1
  have hgf := hz1.frozen 1
  simp only [List.getElem?_toArray, List.getElem?_cons_zero, List.getElem?_cons_succ, (hd_getLast xs z z).2.1, Option.map_some, hd] at hq1 hg1
  have hzq : z.g ≠ q := Blk.ne hz1 hb1 (by decide)
  have hq1s := (hb1.set_far hzq 1 (.pointer (some ⟨w1.heap.size, 0, none⟩))).cell 1
  have hf1s := (hb1.set_far hzq 1 (.pointer (some ⟨w1.heap.size, 0, none⟩))).frozen 1
  simp only [List.getElem?_toArray, List.getElem?_cons_zero, List.getElem?_cons_succ] at hq1s
  have HNE := Lib.hid hzq
  clear hb hb1 hz1 hown hg hO1 hzq
  go_wp2_with fail
  go_end0
  have hzq := HNE.out
  have hp := piece_new (c := 64) HW.out (by have := HO.out.size; omega)
  obtain ⟨W, hW⟩ : ∃ W, W = w1.alloc (.cells #[.slice (some ⟨w.heap.size, 0, none⟩) 0 64, .pointer none] 54) := ⟨_, rfl⟩
  have hOW : Only (fun _ => False) w W := by rw [hW]; exact HO.out.alloc _
  have hB1 := HB.out
  have hZ1 := HZ1.out
  rw [← hW] at hp hB1 hZ1 ⊢
  have hP : Only (fun k => k = q ∨ k = z.g) W ((W.setCell ⟨z.g, 1, none⟩ (.pointer (some ⟨w1.heap.size, 0, none⟩))).setCell ⟨q, 1, none⟩ (.pointer (some ⟨w1.heap.size, 0, none⟩))) :=
    ((Only.refl (fun k => k = q ∨ k = z.g) _).setCell (p := ⟨z.g, 1, none⟩) (fun _ => .inr rfl) _).setCell (p := ⟨q, 1, none⟩) (fun _ => .inl rfl) _
  have hql := HQ.out.lt
  have hs := HO.out.size
  have hpz := (Chain.append.1 HQ.out.chain).2.1
  have hzl := hpz.blk.lt
  have hmg := mid_g (ys := []) HQ.out.chain HQ.out.apart
  rw [List.append_nil] at hmg
  have hnew : ∀ k, Foot (xs ++ [z]) k → k < w.heap.size := fun k hk => (hql k (.inr hk)).2
  have hq := HQ.out.far
  obtain ⟨e1, e2, e3⟩ := hd_getLast xs z ⟨w1.heap.size, w.heap.size, 64, []⟩
  refine ⟨rfl, ⟨w1.heap.size, w.heap.size, 64, []⟩, rfl, ⟨?_, ?_, ⟨?_, ?_⟩, ?_, HQ.out.base⟩, ?_, hs, Nat.le_refl _⟩
  · rw [e1, e3]
    exact (hB1.set_far hzq _ _).set_ 1 (.pointer (some ⟨w1.heap.size, 0, none⟩))
  · rw [List.append_assoc]
    have hc := Chain.append.1 HQ.out.chain
    refine Chain.append.2 ⟨?_, ?_, ?_, trivial⟩
    · exact Chain.only hP (Chain.only hOW hc.1 (fun _ _ h => h)) (fun k hk e => by
        rcases e with rfl | rfl
        · exact hq hk.left
        · exact hmg hk)
    · have hz' := hc.2.1.only hOW (fun h => h) (fun h => h)
      refine ⟨(hZ1.set_ 1 _).set_far (Ne.symm hzq) _ _, hP.own hz'.own (fun k e hk => ?_), hz'.base, hz'.most⟩
      simp [Value.ownBlock] at e
      subst e
      rcases hk with e | e
      · exact hq ⟨z, by simp, .inr e.symm⟩
      · exact hz'.far hz'.blk (by decide) e
    · refine hp.only hP (fun e => ?_) (fun e => ?_)
      · have := hql q (.inl rfl); simp at e; omega
      · have := hql q (.inl rfl); simp at e; omega
  · have hn := HQ.out.apart.1
    rw [List.map_append, List.nodup_append]
    refine ⟨hn, by simp, fun a ha b hb e => ?_⟩
    obtain ⟨p, hp, rfl⟩ := List.mem_map.1 ha
    have := hnew p.g ⟨p, hp, .inl rfl⟩
    simp at hb; omega
  · have hn := HQ.out.apart.2
    rw [List.map_append, List.nodup_append]
    refine ⟨hn, by simp, fun a ha b hb e => ?_⟩
    obtain ⟨p, hp, rfl⟩ := List.mem_map.1 ha
    have := hnew p.d ⟨p, hp, .inr rfl⟩
    simp at hb; omega
  · intro p hp
    rw [List.dropLast_concat] at hp
    rcases List.mem_append.1 hp with hp | hp
    · exact HQ.out.full p (by rw [List.dropLast_concat]; exact hp)
    · simp at hp; subst hp; exact HZ.out
  · refine (hOW.mono (fun _ _ h => h.elim)).trans hP (fun i _ h => ?_)
    rcases h with h | h
    · exact .inl h
    · exact .inr ⟨z, by simp, .inl h⟩

theorem extend_any (B q n : Nat) (ps : List Pc) (w : World) (h : QAt B w q ps n) (hl : ∀ z, ps.getLast? = some z → z.l ≠ []) :
    Calls Try.prog 24 #[.pointer (some ⟨q, 0, none⟩)] w (Extended B q n ps w) := by
  rcases List.eq_nil_or_concat ps with rfl | ⟨xs, z, rfl⟩
  · exact extend_first B q n w h
  · rw [List.concat_eq_append] at *
    exact extend_more B q n xs z w h (hl z (by simp))
end Go.Proofs.Ytihcebpkbkgmcaa.FeedC
