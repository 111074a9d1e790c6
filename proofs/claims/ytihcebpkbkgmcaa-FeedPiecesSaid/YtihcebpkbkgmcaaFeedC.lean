import Derived.Test.YtihcebpkbkgmcaaFeedA
import Derived.Deep.RegionLaw
namespace Go.Proofs.Ytihcebpkbkgmcaa.FeedC
open Go.RowKit Go.My BitMath RefC

/-- What the loop of complete keeps. -/
structure Comps (B B2 : Nat) (ps : List Pc) (w : World) (n : Nat) (lb : List UInt8) (wr : World) (ys : List Pc) (a : Option Addr) (len cap : Nat) (l : List UInt8) : Prop where
  own : Own 5 B2 wr (.slice a len cap) l
  len_ : l.length = len
  eq : l ++ (cat ys).take (n - len) = lb ++ (cat ps).take (n - lb.length)
  le : len ≤ n
  enough : n ≤ len + (cat ys).length
  chain : Chain B wr ys none
  full : Full ys
  foot : ∀ k, Foot ys k → k < B2
  below : Below B2 w wr
  base : B2 ≤ wr.heap.size

theorem comps_step {B B2 : Nat} {ps : List Pc} {w : World} {n : Nat} {lb : List UInt8} {wr w3 : World} {p : Pc} {t : List Pc} {a a1 : Option Addr} {len cap c1 M : Nat} {l : List UInt8} (h : Comps B B2 ps w n lb wr (p :: t) a len cap l)
    (hM : M = p.l.length ∧ p.l.length ≤ n - len ∨ M = n - len ∧ n - len < p.l.length)
    (hown : Own 5 B2 w3 (.slice a1 (len + M) c1) (l ++ p.l.take M)) (hgrow : wr.drew.grownBy w3 (Value.ownBlock (.slice a len cap))) :
    Comps B B2 ps w n lb w3 t a1 (len + M) c1 (l ++ p.l.take M) := by
  have hlen := h.len_
  have he := h.eq
  have hen := h.enough
  have hl1 := h.le
  rw [cat_cons] at he hen
  rw [List.take_append] at he
  rw [List.length_append] at hen
  have hb : Below B2 w w3 := h.below.trans (Below.grown (Below.refl B2 wr).drew hgrow h.base (fun k hk => (World.ownsRow.lt h.own k hk).1))
  have hb3 : Below B2 wr w3 := (Below.refl B2 wr).drew.grown hgrow h.base (fun k hk => (World.ownsRow.lt h.own k hk).1)
  refine ⟨hown, by simp; omega, ?_, by omega, ?_, ?_, ?_, ?_, hb, Nat.le_trans h.base hb3.size⟩
  · rw [← he, List.append_assoc, show n - (len + M) = n - len - M from by omega]
    rcases hM with ⟨rfl, hM⟩ | ⟨rfl, hM⟩
    · rw [List.take_of_length_le (Nat.le_refl _), List.take_of_length_le hM]
    · rw [show n - len - (n - len) = 0 from by omega, show n - len - p.l.length = 0 from by omega]
  · rcases hM with ⟨rfl, hM⟩ | ⟨rfl, hM⟩ <;> omega
  · refine Chain.only (S := fun k => B2 ≤ k) ⟨hb3.os, hb3.tape, hb3.output, hb3.size, fun k hk hs => hb3.block k (by omega)⟩ h.chain.2 (fun k hk => ?_)
    have := h.foot k (let ⟨r, hr, hj⟩ := hk; ⟨r, by simp [hr], hj⟩)
    omega
  · intro r hr
    refine h.full r ?_
    cases t with
    | nil => simp at hr
    | cons y t => rw [List.dropLast_cons_cons]; exact List.mem_cons_of_mem _ hr
  · exact fun k ⟨r, hr, hj⟩ => h.foot k ⟨r, by simp [hr], hj⟩

theorem comps_pos {B B2 : Nat} {ps : List Pc} {w : World} {n : Nat} {lb : List UInt8} {wr : World} {p : Pc} {t : List Pc} {a : Option Addr} {len cap : Nat} {l : List UInt8} (h : Comps B B2 ps w n lb wr (p :: t) a len cap l) (hl : len < n) : 0 < p.l.length := by
  by_cases ht : t = []
  · subst ht
    have := h.enough
    rw [cat_one] at this
    omega
  · have := h.full p (by cases t with | nil => exact absurd rfl ht | cons y t => simp)
    exact List.length_pos_iff.2 this

set_option maxRecDepth 100000 in
set_option maxHeartbeats 4000000 in
theorem complete_any (B q nq B2 n : Nat) (ps : List Pc) (w : World) (h : QAt B w q ps nq) (hB : ∀ k, QFoot q ps k → k < B2) (hB2 : B2 ≤ w.heap.size) (a : Option Addr) (len cap : Nat) (lb : List UInt8) (hown : Own 5 B2 w (.slice a len cap) lb) (hlen : lb.length = len)
    (h1 : len ≤ n) (h2 : n ≤ len + (cat ps).length) (hn : n ≤ 100000000000) :
    Calls Try.prog 26 #[.pointer (some ⟨q, 0, none⟩), .slice a len cap, .int .i64 (n : Int)] w fun e w' => ∃ v, e = .returned v ∧ Own 5 B2 w' v (lb ++ (cat ps).take (n - len)) ∧ Below B2 w w' := by
  have hq0 := h.blk.cell 0
  simp only [List.getElem?_toArray, List.getElem?_cons_zero] at hq0
  have hC0 : Comps B B2 ps w n lb w ps a len cap lb := ⟨hown, hlen, by rw [hlen], h1, h2, h.chain, h.full, fun k hk => hB k (.inr hk), Below.refl _ _, hB2⟩
  have HC0 := Lib.hid hC0
  have HL := Lib.hid hlen
  obtain ⟨P0, hP0⟩ : ∃ P0, P0 = hd ps none := ⟨_, rfl⟩
  rw [← hP0] at hq0
  have HP0 := Lib.hid hP0
  clear h hB hown hC0 hlen h2 hP0
  go_enter Try.func26, Try.ntmps26
  go_wp2_with fail
  clear hq0
  go_loopw [1, 7] (fun sb pv wr => ∃ (ys : List Pc) (a' : Option Addr) (len' cap' : Nat) (l' : List UInt8), sb = .slice a' len' cap' ∧ pv = .pointer (hd ys none) ∧ len' ≤ n ∧ Hid (Comps B B2 ps w n lb wr ys a' len' cap' l')) (fun sb _ _ => n - (match sb with | .slice _ k _ => k | _ => 0))
  case atStart => exact ⟨ps, a, len, cap, lb, rfl, by rw [HP0.out], h1, HC0⟩
  case round =>
    clear HC0
    obtain ⟨ys, a', len', cap', l', rfl, rfl, hle, HC⟩ := hrel
    obtain rfl := HC.out.len_
    rcases ys with _ | ⟨p, t⟩
    · simp only [hd]
      go_wp2_with fail
      go_ret
      have he := HC.out.eq
      have hen := HC.out.enough
      rw [cat_nil] at he hen
      simp only [List.take_nil, List.append_nil] at he
      exact ⟨.slice a' l'.length cap', rfl, by rw [← HL.out, ← he]; exact HC.out.own, HC.out.below⟩
    · simp only [hd]
      by_cases hlt : l'.length < n
      · have hpos := comps_pos HC.out hlt
        have hz0 := HC.out.chain.1.blk.cell 0
        have hz1 := HC.out.chain.1.blk.cell 1
        simp only [List.getElem?_toArray, List.getElem?_cons_zero, List.getElem?_cons_succ] at hz0 hz1
        have hbg := HC.out.chain.1.blk
        have hown := HC.out.own
        have hsrc : Bytes wr (some ⟨p.d, 0, none⟩) p.l.length p.c p.l := by
          obtain ⟨a, c, e, hb⟩ := HC.out.chain.1.own.bytes
          simp only [Value.slice.injEq] at e
          obtain ⟨rfl, -, rfl⟩ := e
          exact hb
        have hpl := HC.out.chain.1.most
        have hlc := hsrc.le_cap
        obtain ⟨M, hM, hmin⟩ : ∃ M : Nat, (M = p.l.length ∧ p.l.length ≤ n - l'.length ∨ M = n - l'.length ∧ n - l'.length < p.l.length) ∧ (if (n : Int) - (l'.length : Int) < (p.l.length : Int) then (n : Int) - (l'.length : Int) else (p.l.length : Int)) = (M : Int) := by
          by_cases hm : p.l.length ≤ n - l'.length
          · exact ⟨p.l.length, .inl ⟨rfl, hm⟩, by rw [if_neg (by omega)]⟩
          · exact ⟨n - l'.length, .inr ⟨rfl, by omega⟩, by rw [if_pos (by omega)]; omega⟩
        have hw1 : IntKind.i64.wrap ((n : Int) - (l'.length : Int)) = (n : Int) - (l'.length : Int) := IntWalk.i64_in _ (by omega)
        have hMp : M ≤ p.l.length := by omega
        have hMc : M ≤ p.c := by omega
        have hM0 : 0 < M := by omega
        have hMn : l'.length + M ≤ n := by omega
        have HM := Lib.hid hM
        clear hM
        go_wp2_with fail
        go_region_law
          ((refine step_append_lie (by rfl) _ _ _ (by rfl) B2 5 Try.underlying25 info5 (.slice a' l'.length cap') l' (by rfl) (hown.below (Nat.le_refl _) (Below.refl _ wr).drew) (some ⟨p.d, 0, none⟩) M p.c (p.l.take M) (by rfl) ((hsrc.take M hMp).below (Nat.le_refl _) (Below.refl _ wr).drew) (by omega) HC.out.base ?_; intro a1 c1 w3 hown1 hgrow hnext))
        all_goals
          have hc1 := comps_step HC.out HM.out hown1 hgrow
          have hbg3 := hc1.below
          have hz13 : w3.cell? ⟨p.g, 1, none⟩ = some (.pointer (hd t none)) := by
            have hb3 : Below B2 wr w3 := (Below.refl B2 wr).drew.grown hgrow HC.out.base (fun k hk => (World.ownsRow.lt hown k hk).1)
            have hlt2 := HC.out.foot p.g ⟨p, by simp, .inl rfl⟩
            rw [hb3.cell (p := ⟨p.g, 1, none⟩) hlt2]
            exact hz1
          obtain ⟨P1, hP1⟩ : ∃ P1, P1 = hd t none := ⟨_, rfl⟩
          rw [← hP1] at hz13
          have HC1 := Lib.hid hc1
          have HP1 := Lib.hid hP1
          clear hc1 hbg3 hown1 hgrow hnext hz0 hz1 hP1 hown hbg hsrc hmin hw1
          go_wp2_with fail
          go_roundw
          case rel => exact ⟨t, _, _, _, _, rfl, by rw [HP1.out]; cases t <;> rfl, hMn, HC1⟩
          case measure => simp; omega
      · have hlt2 : l'.length = n := by omega
        have he := HC.out.eq
        rw [hlt2, Nat.sub_self, List.take_zero, List.append_nil] at he
        have HE := Lib.hid he
        subst hlt2
        clear he hlt
        go_wp2_with fail
        go_ret
        exact ⟨.slice a' l'.length cap', rfl, by rw [← HL.out, ← HE.out]; exact HC.out.own, HC.out.below⟩
end Go.Proofs.Ytihcebpkbkgmcaa.FeedC
