/-
  The document's Counts.
-/
import Derived.Test.YtmfnncachaejgaaPkL3
namespace Go.Proofs.Ytmfnncachaejgaa.PkC
open Go.Shelf Go.RowKit Go.My PackMath

def CtsRet (zs : List Int) (most : Int) (e : Ending) : Prop :=
  (Fine zs most → e = .returned (.tuple #[.int .i64 (((pos (zs.map Int.toNat) zs.length).length : Nat) : Int), .bool true])) ∧ (¬ Fine zs most → ∃ k, e = .returned (.tuple #[.int .i64 k, .bool false]))
set_option maxRecDepth 100000 in
set_option maxHeartbeats 4000000 in
theorem counts_any (zs : List Int) (a : Option Addr) (len cap : Nat) (most : Int) (w : World) (hC : RowIn w a len cap (zs.map fun z => Value.int .i64 z)) :
    Calls Try.prog 10 #[.slice a len cap, .int .i64 most] w fun e w' => CtsRet zs most e ∧ ∃ q, w' = w.drewN q := by
  have hlen : zs.length = len := by rw [← hC.len_eq]; simp
  have bad : ∀ k, ¬ Fine zs most → CtsRet zs most (.returned (.tuple #[.int .i64 k, .bool false])) := fun k h => ⟨fun h' => absurd h' h, fun _ => ⟨k, rfl⟩⟩
  by_cases h1 : most < 1
  · have BAD := Lib.hid (bad 0 (fun h => by have := h.2.1; omega))
    clear bad hC hlen
    go_enter Try.func10, Try.ntmps10
    go_wp2_with fail
    go_ret2
    exact ⟨BAD.out, 0, rfl⟩
  by_cases h2 : 15 < most
  · have BAD := Lib.hid (bad 0 (fun h => by have := h.2.2.1; omega))
    clear bad hC hlen
    go_enter Try.func10, Try.ntmps10
    go_wp2_with fail
    go_ret2
    exact ⟨BAD.out, 0, rfl⟩
  by_cases h3 : 400 < len
  · have BAD := Lib.hid (bad 0 (fun h => by have := h.1; omega))
    have h3i : (400 : Int) < (len : Int) := by omega
    clear bad hC hlen
    go_enter Try.func10, Try.ntmps10
    go_wp2_with fail
    go_ret2
    exact ⟨BAD.out, 0, rfl⟩
  obtain ⟨M, rfl⟩ : ∃ M : Nat, most = (M : Int) := ⟨most.toNat, by omega⟩
  have g1 : ¬ (M : Int) < 1 := h1
  have g2 : ¬ (15 : Int) < (M : Int) := h2
  have g3 : ¬ (400 : Int) < (len : Int) := by omega
  have hM15 : M ≤ 15 := by omega
  have hM1 : 1 ≤ M := by omega
  have HBAD := Lib.hid bad
  have HR := Lib.hid hC
  have HL := Lib.hid hlen
  clear bad hC hlen h1 h2
  go_enter Try.func10, Try.ntmps10
  go_wp2_with fail
  go_loopw [7, 6] (fun s t wr => ∃ (i n q : Nat), s = .int .i64 (i : Int) ∧ t = .int .i64 (n : Int) ∧ i ≤ len ∧ n ≤ i ∧ Hid (n = (pos (zs.map Int.toNat) i).length ∧ ∀ j, (h : j < zs.length) → j < i → 0 ≤ zs[j] ∧ zs[j] ≤ 1073741824) ∧ Hid (wr = w.drewN q)) (fun s _ _ => len - (intOf s).toNat)
  case atStart => exact ⟨0, 0, 0, rfl, rfl, Nat.zero_le _, Nat.le_refl _, Lib.hid ⟨rfl, fun j _ h => by omega⟩, Lib.hid rfl⟩
  case round =>
    obtain ⟨i, n, q, rfl, rfl, hi, hni, HF, HW⟩ := hrel
    by_cases hlt : i < len
    · have hlti : (i : Int) < (len : Int) := by omega
      obtain ⟨ib, io, rfl⟩ := HR.out.some_ (by omega)
      have hiz : i < zs.length := by rw [HL.out]; exact hlt
      obtain ⟨z, hz⟩ : ∃ z, z = zs[i]'hiz := ⟨_, rfl⟩
      have c1 : wr.cell? ⟨ib, io + i, none⟩ = some (.int .i64 z) := by
        rw [HW.out, drewN_cell, HR.out.get i (by simpa using hiz), hz]; simp
      have hgd : (zs.map Int.toNat).getD i 0 = z.toNat := by rw [hz]; simp [List.getD_eq_getElem?_getD, hiz]
      have HZ := Lib.hid hz
      have HGD := Lib.hid hgd
      clear hz hgd
      by_cases b1 : z < 0
      · have BAD := Lib.hid (HBAD.out 0 (fun h => by have := h.2.2.2.1 _ (List.getElem_mem hiz); rw [← HZ.out] at this; omega))
        clear HBAD
        go_wp2_with fail
        go_ret2
        exact ⟨BAD.out, q, HW.out⟩
      by_cases b2 : 1073741824 < z
      · have BAD := Lib.hid (HBAD.out 0 (fun h => by have := h.2.2.2.1 _ (List.getElem_mem hiz); rw [← HZ.out] at this; omega))
        clear HBAD
        go_wp2_with fail
        go_ret2
        exact ⟨BAD.out, q, HW.out⟩
      have HF2 : ∀ n', n' = (pos (zs.map Int.toNat) (i + 1)).length → Hid (n' = (pos (zs.map Int.toNat) (i + 1)).length ∧ ∀ j, (h : j < zs.length) → j < i + 1 → 0 ≤ zs[j] ∧ zs[j] ≤ 1073741824) := fun n' h => Lib.hid ⟨h, fun j hj hji => by
        by_cases e : j = i
        · subst e; rw [← HZ.out]; omega
        · exact HF.out.2 j hj (by omega)⟩
      by_cases b3 : 0 < z
      · have HF3 := HF2 (n + 1) (by rw [pos_yes _ _ (by rw [HGD.out]; omega), List.length_append, ← HF.out.1]; rfl)
        clear HF2 HF
        go_wp2_with fail
        go_roundw
        case measure => simp [intOf]; omega
        case rel => exact ⟨i + 1, n + 1, q, by simp, by simp, by omega, by omega, HF3, HW⟩
      · have HF3 := HF2 n (by rw [pos_no _ _ (by rw [HGD.out]; omega), ← HF.out.1])
        clear HF2 HF
        go_wp2_with fail
        go_roundw
        case measure => simp [intOf]; omega
        case rel => exact ⟨i + 1, n, q, by simp, by simp, by omega, by omega, HF3, HW⟩
    · have hlti : ¬ (i : Int) < (len : Int) := by omega
      obtain rfl : i = len := by omega
      obtain ⟨P, hP⟩ : ∃ P : Nat, P = 2 ^ M := ⟨_, rfl⟩
      have hP15 : P ≤ 32768 := by have := Nat.pow_le_pow_right (show 0 < 2 by omega) hM15; omega
      have E1 : Hid (IntKind.i64.wrap ((2 : Int) ^ M) = (P : Int)) := Lib.hid (by
        have e0 : (2 : Int) ^ M = (P : Int) := by rw [hP]; push_cast; rfl
        rw [e0, IntKind.wrap_i64]; omega)
      have E2 : Hid (wrap64 ((2 : Int) ^ M) = (P : Int)) := Lib.hid (by
        have e0 : (2 : Int) ^ M = (P : Int) := by rw [hP]; push_cast; rfl
        rw [e0]; unfold wrap64; omega)
      have HP := Lib.hid hP
      have HFI : Hid (Fine zs (M : Int) ↔ n ≤ P) := Lib.hid (by
        constructor
        · intro h
          have := h.2.2.2.2
          rw [HL.out, ← HF.out.1, Int.toNat_natCast, ← HP.out] at this
          exact this
        · intro h
          refine ⟨by have := HL.out; omega, by omega, by omega, fun z hz => ?_, ?_⟩
          · obtain ⟨j, hj, rfl⟩ := List.getElem_of_mem hz
            exact HF.out.2 j hj (by have := HL.out; omega)
          · rw [HL.out, ← HF.out.1, Int.toNat_natCast, ← HP.out]; exact h)
      have HOK : Hid (Fine zs (M : Int) → CtsRet zs (M : Int) (.returned (.tuple #[.int .i64 (n : Int), .bool true]))) := Lib.hid (fun h => ⟨fun _ => by rw [HF.out.1, HL.out], fun h' => absurd h h'⟩)
      clear hP HF
      by_cases hk : n ≤ P
      · have hki : (n : Int) ≤ (P : Int) := by omega
        have e1 := E1.out
        have e2 := E2.out
        go_wp2_with fail
        go_ret2
        exact ⟨HOK.out (HFI.out.2 hk), q, HW.out⟩
      · have hki : ¬ (n : Int) ≤ (P : Int) := by omega
        have e1 := E1.out
        have e2 := E2.out
        go_wp2_with fail
        go_ret2
        exact ⟨HBAD.out _ (fun h => hk (HFI.out.1 h)), q, HW.out⟩
end Go.Proofs.Ytmfnncachaejgaa.PkC
