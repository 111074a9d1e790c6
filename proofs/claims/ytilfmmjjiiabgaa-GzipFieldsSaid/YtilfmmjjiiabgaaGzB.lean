/-
  gzip's reader: a text up to a byte 0.
-/
import Derived.Test.YtilfmmjjiiabgaaGzA
namespace Go.Proofs.Ytilfmmjjiiabgaa.GzC
open Go.RowKit Go.My GzMath

/-- b[k:] -/
theorem cut_from {w : World} {a : Option Addr} {n c : Nat} {l : List UInt8} (h : Bytes w a n c l) (k : Nat) (hk : k ≤ n) :
    ∃ a', (if c = k then a else a.map fun x => x.add k) = a' ∧ (∀ W, (Instr.slice 22 (.slice a n c) (some (.int .i64 (k : Int))) none none).run Try.prog W = .ok (.slice a' (n - k) (c - k)) W) ∧ Bytes w a' (n - k) (c - k) (l.drop k) ∧ ∀ b o, a' = some ⟨b, o, none⟩ → ∃ o', a = some ⟨b, o', none⟩ := by
  have hr : ∀ W, (Instr.slice 22 (.slice a n c) (some (.int .i64 (k : Int))) none none).run Try.prog W = .ok (.slice (if c = k then a else a.map fun x => x.add k) (n - k) (c - k)) W := fun W => by
    rw [run_slice_l (ht := by kernel_rfl) (h0 := by omega) (h1 := by omega)]
    have e : (sizeOf (Try.prog.elem 22)).run Try.prog W = .ok 1 W := by kernel_rfl
    rw [e]
    simp only [Result.andThen, sliced, Int.toNat_natCast, Nat.mul_one]
  by_cases hc : c = k
  · have hn : n = k := by have := h.le_cap; omega
    simp only [if_pos hc] at hr
    refine ⟨a, if_pos hc, hr, ⟨by simp [h.len_eq], by omega, by have := h.cap_le; omega, fun e => ⟨by omega, by omega⟩, .inl (by omega)⟩, fun b o e => ⟨o, e⟩⟩
  · simp only [if_neg hc] at hr
    cases a with
    | none => exact absurd ((h.nil rfl).2) (by have := (h.nil rfl).1; omega)
    | some x =>
      obtain ⟨b, off, sp⟩ := x
      by_cases h0 : n = 0
      · refine ⟨_, if_neg hc, hr, ⟨by simp [h.len_eq], by omega, by have := h.cap_le; omega, fun e => (by cases e), .inl (by omega)⟩, fun b' o e => ?_⟩
        obtain rfl : k = 0 := by omega
        exact ⟨o, by simpa [Addr.add] using e⟩
      · obtain ⟨b', off', he⟩ := h.some_ (by omega)
        cases he
        refine ⟨_, if_neg hc, hr, ?_, fun b' o e => ?_⟩
        · have := h.drop k hk
          simp only [Option.map_some, addr_add]
          exact this
        · simp only [Option.map_some, addr_add, Option.some.injEq, Addr.mk.injEq, and_true] at e
          exact ⟨off, by rw [e.1]⟩

section
variable {w0 w : World} {x : Nat} {a : Option Addr} {len cap at_ : Nat} {l : List UInt8}
theorem zerI_cut {L : List UInt8} {M : Nat} (hM : M = min L.length 65536) : zerI (L.take M) = if tx L = 0 then (zer L : Int) else -1 := by
  have hl : (L.take M).length = M := by simp; omega
  have hz := zer_take L M
  unfold zerI
  rw [hl, hz]
  rcases tx_cases L with ⟨h, h1, h2⟩ | ⟨h, h1, h2⟩ | ⟨h, h1, h2⟩
  · rw [if_pos h, if_pos (by omega)]; congr 1; omega
  · rw [if_neg (by omega), if_neg (by omega)]
  · rw [if_neg (by omega), if_neg (by omega)]
set_option maxRecDepth 100000 in
set_option maxHeartbeats 2000000 in
theorem text_any (h : Hid (Rdr w0 x a len cap l at_ w)) :
    Calls Try.prog 33 #[.pointer (some ⟨x, 0, none⟩)] w fun e w' =>
      (tx (l.drop at_) ≠ 0 ∧ Thrown (tx (l.drop at_)) e ∧ Only (fun k => k = x) w0 w') ∨
      (tx (l.drop at_) = 0 ∧ zer (l.drop at_) < (l.drop at_).length ∧ ∃ a' c', e = .returned (.slice a' (zer (l.drop at_)) c') ∧ Hid (Bytes w' a' (zer (l.drop at_)) c' ((l.drop at_).take (zer (l.drop at_)))) ∧ (∀ b o, a' = some ⟨b, o, none⟩ → ∃ o', a = some ⟨b, o', none⟩) ∧ Hid (Rdr w0 x a len cap l (at_ + zer (l.drop at_) + 1) w')) := by
  have hlen := h.out.len_eq
  have htop := h.out.top
  have hle := h.out.le
  have c0 : w.drew.cell? ⟨x, 0, none⟩ = some (.slice a len cap) := h.out.c0
  have c1 : w.drew.cell? ⟨x, 1, none⟩ = some (.int .i64 (at_ : Int)) := h.out.c1
  have f1 : w.drew.frozen? ⟨x, 1, none⟩ = false := h.out.f1
  have HR : Hid (Rdr w0 x a len cap l at_ w.drew) := Lib.hid (h.out.below ((Below.refl _ _).drew))
  obtain ⟨P0, hp0, _, hB, hP⟩ := cut_from h.out.row at_ hle
  have HB : Hid (Bytes w.drew P0 (len - at_) (cap - at_) (l.drop at_)) := Lib.hid (hB.below (Nat.le_refl _) ((Below.refl _ _).drew))
  have HP : Hid (0 < len → ∀ b o, P0 = some ⟨b, o, none⟩ → b ≠ x) := Lib.hid fun h0 b o e => by obtain ⟨o', e'⟩ := hP b o e; exact h.out.ne h0 b o' e'
  obtain ⟨L, hL⟩ : ∃ L, L = l.drop at_ := ⟨_, rfl⟩
  obtain ⟨R, hRR⟩ : ∃ R, R = len - at_ := ⟨_, rfl⟩
  obtain ⟨C, hC⟩ : ∃ C, C = cap - at_ := ⟨_, rfl⟩
  have hLR : L.length = R := by rw [hL, hRR]; simp; omega
  rw [← hL] at HB ⊢
  rw [← hRR] at HB
  rw [← hC] at HB
  have hCle : R ≤ C := HB.out.le_cap
  have hCtop : C ≤ 9223372036854775807 := HB.out.cap_le
  have hRtop : R ≤ 1099511627776 := by omega
  have hat : at_ + R ≤ len := by omega
  have HPP := Lib.hid hP
  have hR1 := hRR.symm
  have hC1 := hC.symm
  clear hB hP hL hRR hC hlen h
  obtain ⟨M, hM⟩ : ∃ M, M = min R 65536 := ⟨_, rfl⟩
  have hmin : (if (65536 : Int) < (R : Int) then (65536 : Int) else (R : Int)) = (M : Int) := by split <;> omega
  have hMR : M ≤ R := by omega
  have HZ := Lib.hid (zerI_cut (L := L) (M := M) (by rw [hLR]; exact hM))
  have HQ : Hid (Calls Try.prog 43 #[.slice P0 M C, .int .u8 0] w.drew fun e w' => e = .returned (.int .i64 (zerI (L.take M))) ∧ w.drew = w') := Lib.hid (index_zero P0 M C (L.take M) w.drew (HB.out.take M hMR))
  have HM := Lib.hid hM
  clear hM
  rw [HZ.out] at HQ
  clear HZ
  obtain ⟨k, hk⟩ : ∃ k, k = zer L := ⟨_, rfl⟩
  rw [← hk] at HQ ⊢
  have HK := Lib.hid hk
  clear hk
  rcases tx_cases L with ⟨ht, ht1, ht2⟩ | ⟨ht, ht1, ht2⟩ | ⟨ht, ht1, ht2⟩
  · rw [if_pos ht] at HQ
    rw [ht]
    rw [← HK.out] at ht1 ht2
    have HLR := Lib.hid hLR
    have hk1 : k < R := by omega
    have w1 : IntKind.i64.wrap ((k : Int) + 1) = ((k + 1 : Nat) : Int) := by rw [IntWalk.i64_in _ (by omega)]; omega
    have w2 : IntKind.i64.wrap ((at_ : Int) + ((k + 1 : Nat) : Int)) = ((at_ + k + 1 : Nat) : Int) := by rw [IntWalk.i64_in _ (by omega)]; omega
    clear ht1 hLR ht
    go_enter Try.func33, Try.ntmps33
    go_wp2_with fail
    go_region
    all_goals
      go_wp2_with fail
      refine HQ.out.mono ?_
      rintro e w' ⟨rfl, rfl⟩
      go_wp2_with fail
      go_ret
      refine .inr ⟨by trivial, by rw [HLR.out]; exact hk1, _, _, rfl, Lib.hid ?_, HPP.out, Lib.hid (HR.out.move (at_ + k + 1) (by omega))⟩
      exact ((HR.out.move (at_ + k + 1) (by omega)).only |> fun _ => (((Only.refl (fun k => x = k) w.drew).setCell (p := ⟨x, 1, none⟩) (fun _ => rfl) (.int .i64 ((at_ + k + 1 : Nat) : Int))).bytes (HB.out.take k (by omega)) (fun b o e hs => HP.out (by omega) b o e hs.symm)))
  · rw [if_neg (by rw [ht]; decide)] at HQ
    rw [ht]
    have hd : decide ((R : Int) ≤ 65535) = true := by simp; omega
    clear ht1 ht2 ht hLR
    go_enter Try.func33, Try.ntmps33
    go_wp2_with fail
    go_region
    all_goals
      go_wp2_with fail
      refine HQ.out.mono ?_
      rintro e w' ⟨rfl, rfl⟩
      go_wp2_with fail
      refine (demand_yes x _).mono ?_
      rintro e w' ⟨rfl, rfl⟩
      go_wp2_with fail
      refine (fail_any 5 HR).mono ?_
      rintro e w' ⟨⟨q, rfl⟩, rfl⟩
      go_wp2_with fail
      exact ⟨rfl, .inl ⟨by decide, ⟨_, rfl⟩, HR.out.only⟩⟩
  · rw [if_neg (by rw [ht]; decide)] at HQ
    rw [ht]
    have hd : decide ((R : Int) ≤ 65535) = false := by simp; omega
    clear ht1 ht2 ht hLR
    go_enter Try.func33, Try.ntmps33
    go_wp2_with fail
    go_region
    all_goals
      go_wp2_with fail
      refine HQ.out.mono ?_
      rintro e w' ⟨rfl, rfl⟩
      go_wp2_with fail
      refine (demand_no HR).mono ?_
      rintro e w' ⟨⟨q, rfl⟩, rfl⟩
      go_wp2_with fail
      exact ⟨rfl, .inl ⟨by decide, ⟨_, rfl⟩, HR.out.only⟩⟩
end
end Go.Proofs.Ytilfmmjjiiabgaa.GzC
