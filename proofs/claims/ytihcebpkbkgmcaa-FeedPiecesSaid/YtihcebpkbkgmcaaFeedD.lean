import Derived.Test.YtihcebpkbkgmcaaFeedB
import Derived.Deep.RegionLaw
namespace Go.Proofs.Ytihcebpkbkgmcaa.FeedC
open Go.RowKit Go.My BitMath RefC

/-- What the loop of drop keeps. -/
structure Drops (B q n : Nat) (ps0 : List Pc) (w : World) (m k : Nat) (wr : World) (p : Pc) (t : List Pc) : Prop where
  at_ : QAt B wr q (p :: t) n
  le : k ≤ (cat (p :: t)).length
  cat_ : (cat (p :: t)).drop k = (cat ps0).drop m
  only : Only (QFoot q ps0) w wr
  sub : ∀ j, QFoot q (p :: t) j → QFoot q ps0 j

theorem full_pos {p : Pc} {t : List Pc} (h : Full (p :: t)) (ht : t ≠ []) : 0 < p.l.length := by
  have := h p (by cases t with | nil => exact absurd rfl ht | cons y t => simp)
  exact List.length_pos_iff.2 this

theorem Drops.next {B q n : Nat} {ps0 : List Pc} {w : World} {m k : Nat} {wr : World} {p y : Pc} {t : List Pc} (h : Drops B q n ps0 w m k wr p (y :: t)) (hk : p.l.length ≤ k) :
    Drops B q n ps0 w m (k - p.l.length) (wr.setCell ⟨q, 0, none⟩ (.pointer (some ⟨y.g, 0, none⟩))) y t := by
  have hO : Only (fun k => k = q) wr (wr.setCell ⟨q, 0, none⟩ (.pointer (some ⟨y.g, 0, none⟩))) := (Only.refl (fun k => k = q) wr).setCell (p := ⟨q, 0, none⟩) (fun _ => rfl) _
  have hle := h.le
  have hcat := h.cat_
  rw [cat_cons, List.length_append] at hle
  rw [cat_cons, List.drop_append, List.drop_of_length_le hk, List.nil_append] at hcat
  refine ⟨⟨?_, Chain.only hO h.at_.chain.2 (fun k hk e => h.at_.far (e ▸ (let ⟨r, hr, hj⟩ := hk; ⟨r, by simp [hr], hj⟩))), ?_, ?_, h.at_.base⟩, by omega, hcat, ?_, ?_⟩
  · have hb := h.at_.blk.set_ 0 (.pointer (some ⟨y.g, 0, none⟩))
    have e : (p :: y :: t).getLast? = (y :: t).getLast? := by simp
    rw [e] at hb
    exact hb
  · have ha := h.at_.apart
    unfold Apart at ha ⊢
    simp only [List.map_cons, List.nodup_cons] at ha ⊢
    exact ⟨ha.1.2, ha.2.2⟩
  · intro r hr
    exact h.at_.full r (by rw [List.dropLast_cons_cons]; exact List.mem_cons_of_mem _ hr)
  · exact h.only.trans hO (fun i _ e => by subst e; exact h.sub _ (.inl rfl))
  · rintro j (hj | ⟨r, hr, hj⟩)
    · exact h.sub j (.inl hj)
    · exact h.sub j (.inr ⟨r, by simp [hr], hj⟩)

/-- The end of drop: the first piece is cut by k. -/
theorem drop_end {B q n : Nat} {ps0 : List Pc} {w : World} {m k : Nat} {wr w3 : World} {p : Pc} {t : List Pc} (h : Drops B q n ps0 w m k wr p t) (hk : k ≤ p.l.length) (hf : t ≠ [] → k < p.l.length)
    (hO : Only (fun j => p.d = j) wr w3) (hown : Own 5 B w3 (.slice (some ⟨p.d, 0, none⟩) (p.l.length - k) p.c) (p.l.drop k)) :
    ∃ ps', ps' ≠ [] ∧ QAt B (w3.setCell ⟨p.g, 0, none⟩ (.slice (some ⟨p.d, 0, none⟩) (p.l.length - k) p.c)) q ps' n ∧ cat ps' = (cat ps0).drop m ∧ Only (QFoot q ps0) w (w3.setCell ⟨p.g, 0, none⟩ (.slice (some ⟨p.d, 0, none⟩) (p.l.length - k) p.c)) ∧ ∀ j, QFoot q ps' j → QFoot q ps0 j := by
  have hpc := h.at_.chain.1
  have hlen : (p.l.drop k).length = p.l.length - k := by simp
  have hdg : p.d ≠ p.g := hpc.far hpc.blk (by decide)
  have hdq : p.d ≠ q := hpc.far h.at_.blk (by decide)
  have hgq : p.g ≠ q := Blk.ne hpc.blk h.at_.blk (by decide)
  have hT : Only (Turns q p) wr (w3.setCell ⟨p.g, 0, none⟩ (.slice (some ⟨p.d, 0, none⟩) (p.l.length - k) p.c)) :=
    (hO.mono (fun j _ e => .inr (.inr e.symm))).setCell (p := ⟨p.g, 0, none⟩) (fun _ => .inr (.inl rfl)) _
  have hbq := (hO.blk h.at_.blk hdq).set_far hgq 0 (.slice (some ⟨p.d, 0, none⟩) (p.l.length - k) p.c)
  have hbz := (hO.blk hpc.blk hdg).set_ 0 (.slice (some ⟨p.d, 0, none⟩) (p.l.length - k) p.c)
  have hown' := (Only.own (S := fun j => j = p.g) ((Only.refl (fun j => j = p.g) w3).setCell (p := ⟨p.g, 0, none⟩) (fun _ => rfl) (.slice (some ⟨p.d, 0, none⟩) (p.l.length - k) p.c)) hown (fun j e => by simp [Value.ownBlock] at e; subst e; exact hdg))
  have hp2 : PcAt B (w3.setCell ⟨p.g, 0, none⟩ (.slice (some ⟨p.d, 0, none⟩) (p.l.length - k) p.c)) ⟨p.g, p.d, p.c, p.l.drop k⟩ (hd t none) := by
    refine ⟨?_, ?_, hpc.base, ?_⟩
    · simp only [hlen]; exact hbz
    · simp only [hlen]; exact hown'
    · simp only [hlen]; have := hpc.most; omega
  have hQ := QAt.turned (xs := []) h.at_ hT hp2 rfl (.inl rfl) hbq (fun ht e => by have := hf ht; simp only at e; rw [e] at hlen; simp at hlen; omega)
  refine ⟨_, by simp, hQ, ?_, h.only.trans hT (fun i _ e => ?_), ?_⟩
  · have hc := h.cat_
    rw [cat_cons, List.drop_append, show k - p.l.length = 0 from by omega, List.drop_zero] at hc
    exact hc
  · rcases e with e | e | e
    · exact h.sub i (.inl e)
    · exact h.sub i (.inr ⟨p, by simp, .inl e⟩)
    · exact h.sub i (.inr ⟨p, by simp, .inr e⟩)
  · rintro j (hj | ⟨r, hr, hj⟩)
    · exact h.sub j (.inl hj)
    · rcases List.mem_cons.1 hr with rfl | hr
      · exact h.sub j (.inr ⟨p, by simp, hj⟩)
      · exact h.sub j (.inr ⟨r, by simp [hr], hj⟩)

theorem Only.of_drew {S : Nat → Prop} {a b : World} (h : Only S a.drew b) : Only S a b := ⟨h.os, h.tape, h.output, h.size, h.block⟩
theorem sz5 : (Try.prog.info? 5).map (·.size) = some 1 := by kernel_rfl

set_option maxRecDepth 100000 in
set_option maxHeartbeats 4000000 in
theorem drop_any (B q n m : Nat) (p0 : Pc) (t0 : List Pc) (w : World) (h : QAt B w q (p0 :: t0) n) (hm : m ≤ (cat (p0 :: t0)).length) (hmn : m ≤ n) (hn : n ≤ 100000000000) :
    Calls Try.prog 25 #[.pointer (some ⟨q, 0, none⟩), .int .i64 (m : Int)] w fun e w' => e = .returned (.tuple #[]) ∧ ∃ ps', ps' ≠ [] ∧ QAt B w' q ps' (n - m) ∧ cat ps' = (cat (p0 :: t0)).drop m ∧ Only (QFoot q (p0 :: t0)) w w' ∧ ∀ j, QFoot q ps' j → QFoot q (p0 :: t0) j := by
  have hq2 := h.blk.cell 2
  have hf2 := h.blk.frozen 2
  simp only [List.getElem?_toArray, List.getElem?_cons_zero, List.getElem?_cons_succ] at hq2
  have hD0 : Drops B q (n - m) (p0 :: t0) w m m (w.setCell ⟨q, 2, none⟩ (.int .i64 ((n : Int) - (m : Int)))) p0 t0 := by
    have hO : Only (fun k => k = q) w (w.setCell ⟨q, 2, none⟩ (.int .i64 ((n : Int) - (m : Int)))) := (Only.refl (fun k => k = q) w).setCell (p := ⟨q, 2, none⟩) (fun _ => rfl) _
    refine ⟨⟨?_, Chain.only hO h.chain (fun k hk e => h.far (e ▸ hk)), h.apart, h.full, h.base⟩, hm, rfl, hO.mono (fun k _ e => .inl e), fun j hj => hj⟩
    rw [show ((n - m : Nat) : Int) = (n : Int) - (m : Int) from by omega]
    exact h.blk.set_ 2 _
  have HD0 := Lib.hid hD0
  have hmi : (m : Int) ≤ (n : Int) := by omega
  clear h hD0 hm hmn
  go_enter Try.func25, Try.ntmps25
  go_wp2_with fail
  generalize w.setCell ⟨q, 2, none⟩ (.int .i64 ((n : Int) - (m : Int))) = w1 at *
  clear hq2 hf2
  go_loopw [1] (fun i wr => ∃ (k : Nat) (p : Pc) (t : List Pc), i = .int .i64 (k : Int) ∧ k ≤ m ∧ Hid (Drops B q (n - m) (p0 :: t0) w m k wr p t)) (fun i _ => (intOf i).toNat)
  case atStart => exact ⟨m, p0, t0, rfl, Nat.le_refl _, HD0⟩
  case round =>
    clear HD0
    obtain ⟨k, p, t, rfl, hkm, HD⟩ := hrel
    have hq0 := HD.out.at_.blk.cell 0
    have hqf := HD.out.at_.blk.frozen 0
    have hz0 := HD.out.at_.chain.1.blk.cell 0
    have hz1 := HD.out.at_.chain.1.blk.cell 1
    simp only [List.getElem?_toArray, List.getElem?_cons_zero, List.getElem?_cons_succ, hd] at hq0 hz0 hz1
    by_cases hlt : k < p.l.length
    case' pos =>
      have hdec : ¬ p.l.length ≤ k := by omega
      have HF : Hid (t ≠ [] → k < p.l.length) := Lib.hid (fun _ => hlt)
      have hkl : k ≤ p.l.length := by omega
      clear hlt
      go_wp2_with fail
    case' neg =>
      rcases t with _ | ⟨y, t⟩
      case' nil =>
        have hle := HD.out.le
        rw [cat_one] at hle
        have hkl : k ≤ p.l.length := hle
        have HF : Hid (([] : List Pc) ≠ [] → k < p.l.length) := Lib.hid (fun h => absurd rfl h)
        simp only at hz1
        have hdec : p.l.length ≤ k := by omega
        clear hlt hle
        go_wp2_with fail
      case' cons =>
        have hpos := full_pos HD.out.at_.full (by simp)
        have HD2 := Lib.hid (HD.out.next (by omega))
        simp only at hz1
        have hdec : p.l.length ≤ k := by omega
        have hle : (p.l.length : Int) ≤ (k : Int) := by omega
        go_wp2_with fail
        go_roundw
        case rel => exact ⟨k - p.l.length, y, t, by rw [show ((k - p.l.length : Nat) : Int) = (k : Int) - (p.l.length : Int) from by omega], by omega, HD2⟩
        case measure => simp [intOf]; omega
    all_goals
      have hown := HD.out.at_.chain.1.own
      have hbg := HD.out.at_.chain.1.blk
      have hzf := hbg.frozen 0
      have hdg : p.d ≠ p.g := HD.out.at_.chain.1.far hbg (by decide)
      have hlc : p.l.length ≤ p.c := by obtain ⟨_, _, e, hb⟩ := hown.bytes; simp only [Value.slice.injEq] at e; obtain ⟨_, _, rfl⟩ := e; exact hb.le_cap
      have hkc : k ≤ p.c := by omega
      obtain ⟨N, hN⟩ : ∃ N, N = p.l.length - k := ⟨_, rfl⟩
      have hNc : N ≤ p.c := by omega
      have HN := Lib.hid hN
      clear hN
      go_region_law
        ((refine step_copy_front (by rfl) _ _ _ (by rfl) 5 Try.underlying25 sz5 B p.d p.c p.l.length p.l (hown.below (Nat.le_refl _) (Below.refl _ wr).drew) rfl k hkl _ _ _ ?_ N ?_ (by rfl) (by rfl) ?_ ?_; (first | rfl | omega); (first | exact HN.out.symm | (rw [HN.out]; omega)); (intro hn0; rw [if_neg (by omega)]); intro w3 hO3 hown3; have e1 : w3.cell? ⟨p.g, 0, none⟩ = some (.slice (some ⟨p.d, 0, none⟩) p.l.length p.c) := (hO3.blk hbg.drew hdg).cell 0; have f1 := (hO3.blk hbg.drew hdg).frozen 0))
      all_goals
        rw [HN.out] at hown3
        have HE := Lib.hid (drop_end HD.out hkl HF.out (Only.of_drew hO3) hown3)
        rw [← HN.out] at HE
        clear hown3 hO3 e1 f1
        go_end0
        exact ⟨rfl, HE.out⟩
end Go.Proofs.Ytihcebpkbkgmcaa.FeedC
