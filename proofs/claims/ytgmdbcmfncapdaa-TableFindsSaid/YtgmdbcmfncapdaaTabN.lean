/-
  A table of lengths: its symbols placed; what is found in it.
-/
import Derived.Test.YtgmdbcmfncapdaaTabK
namespace Go.Proofs.Ytgmdbcmfncapdaa.TabC
open Go.RowKit Go.My BitMath CanMath TabMath CanC

section
variable {ls : List Nat} (hall : ∀ x ∈ ls, x ≤ 15) (hk : kr ls ≤ 32768) (hlen : ls.length ≤ 65536) (f : Nat) (hf1 : 1 ≤ f) (hf : f ≤ 15)
include hall hf in
theorem top_le : S ls f (2 ^ f) ≤ 65536 := by
  have h1 := S_top ls f hf hall
  have h2 := pow_le15 hf
  omega
include hall hk hlen hf1 hf in
theorem place_tab (g ge k : Nat) (w : World) (h : TabAt w g ge f (S ls f (2 ^ f)) (TT ls f k)) (hn : 1 ≤ ln ls k) :
    Calls Try.prog 16 #[.pointer (some ⟨g, 0, none⟩), .int .i64 (k : Int), .int .u32 ((wd ls k : Nat) : Int), .int .i64 ((ln ls k : Nat) : Int)] w fun r w' =>
      r = .returned (.tuple #[]) ∧ TabAt w' g ge f (S ls f (2 ^ f)) (TT ls f (k + 1)) ∧ Only (fun k => k = ge) w w' := by
  have hkl := ln_lt hn
  have htop := top_le hall f hf
  have h15 := ln_le hall k
  by_cases hs : ln ls k ≤ f
  · have e : TT ls f (k + 1) = fun j => if j < 2 ^ f ∧ j % 2 ^ ln ls k = wd ls k then ⟨k, ln ls k, 0⟩ else TT ls f k j := by
      rw [TT, put, if_neg (by omega), if_pos hs]
    rw [e]
    exact place_short g ge f _ k (ln ls k) (wd ls k) (TT ls f k) w h hf htop (by omega) hs (wd_lt ls k) (S_ge ls f _)
  · have hto := tt_to hall hk f k k (by omega)
    have e : TT ls f (k + 1) = fun j => if (TT ls f k (wd ls k % 2 ^ f)).v ≤ j ∧ j < (TT ls f k (wd ls k % 2 ^ f)).v + 2 ^ (TT ls f k (wd ls k % 2 ^ f)).m ∧ (j - (TT ls f k (wd ls k % 2 ^ f)).v) % 2 ^ (ln ls k - f) = wd ls k / 2 ^ f then ⟨k, ln ls k, 0⟩ else TT ls f k j := by
      rw [TT, put, if_neg (by omega), if_neg hs]
    rw [e]
    have hp2 : wd ls k % 2 ^ f < 2 ^ f := Nat.mod_lt _ (Nat.two_pow_pos f)
    have hge := S_ge ls f (2 ^ f)
    have hM := M_ge ls f k (by omega)
    refine place_long g ge f _ k (ln ls k) (wd ls k) (TT ls f k) w h hf1 htop (by omega) (by omega) h15 (wd_lt ls k) (by omega) ?_ ?_
    · rw [hto]; have := M_le ls f hall (wd ls k % 2 ^ f); dsimp only; omega
    · rw [hto]; exact S_in ls f _ hp2 (by omega)
include hall hk hlen hf1 hf in
theorem find_tab (g ge v : Nat) (n : Int) (w : World) (h : TabAt w g ge f (S ls f (2 ^ f)) (TT ls f ls.length)) (hv : v < 4294967296) :
    Calls Try.prog 9 #[.pointer (some ⟨g, 0, none⟩), .int .u32 (v : Int), .int .i64 n] w fun e w' => e = .returned (ansV (who ls (v % 2 ^ cl n)) (cl n)) ∧ Below w.heap.size w w' := by
  have hlook : ∀ u, lookT (TT ls f ls.length) f u = who ls u := fun u => (show lookT (TT ls f ls.length) f u = TabMath.look ls f u from rfl).trans (look_who hall hk f u)
  rw [← hlook]
  refine find_any g ge f _ v n _ w h hf hv fun u hu => ?_
  have hp : u % 2 ^ f < 2 ^ f := Nat.mod_lt _ (Nat.two_pow_pos f)
  have hge := S_ge ls f (2 ^ f)
  have hw : lookT (TT ls f ls.length) f u = El.z ∨ (0 < (lookT (TT ls f ls.length) f u).l ∧ (lookT (TT ls f ls.length) f u).l ≤ 15 ∧ (lookT (TT ls f ls.length) f u).v < 65536) := by
    rw [hlook]
    rcases who_cases hall hk u with ⟨i, hi, e⟩ | ⟨_, e⟩
    · right
      rw [e]
      have := ln_lt hi.1
      exact ⟨hi.1, ln_le hall i, by dsimp only; omega⟩
    · exact .inl e
  by_cases hM : 0 < M ls f (u % 2 ^ f)
  · have e := tt_keep hall hk f ls.length _ hp hM
    refine ⟨by omega, ?_, ?_, ?_, hw⟩
    · rw [e]; have := M_le ls f hall (u % 2 ^ f); dsimp only; omega
    · intro _
      rw [e]
      have h1 := S_in ls f _ hp hM
      have h2 := Nat.mod_lt (u / 2 ^ f) (Nat.two_pow_pos (M ls f (u % 2 ^ f)))
      dsimp only
      omega
    · rw [e]; exact S_small ls f _ hf hall hp hM
  · have h1 := tt_first hall hk f u (by omega) ls.length
    have e : TT ls f ls.length (u % 2 ^ f) = who ls u := by
      rcases who_cases hall hk u with ⟨i, hi, e⟩ | ⟨hn, e⟩
      · rw [e, h1.1 i (ln_lt hi.1) hi]
      · rw [e, h1.2 (fun i _ => hn i)]
    rw [e]
    rcases who_cases hall hk u with ⟨i, hi, e⟩ | ⟨_, e⟩
    · rw [e]
      have := ln_lt hi.1
      exact ⟨by omega, by dsimp only; omega, fun h => absurd h (by simp), by dsimp only; omega, hw⟩
    · rw [e]
      exact ⟨by omega, by simp [El.z], fun h => absurd h (by simp [El.z]), by simp [El.z], hw⟩
end

/-- The codes' words, the first k turned round. -/
def wk (ls : List Nat) (k : Nat) : List Value := (List.range ls.length).map fun i => CanC.uv (if i < k then wd ls i else codeW ls i)
theorem wk_len (ls : List Nat) (k : Nat) : (wk ls k).length = ls.length := by simp [wk]
theorem wk_get (ls : List Nat) (k i : Nat) (h : i < ls.length) : (wk ls k)[i]'(by rw [wk_len]; exact h) = CanC.uv (if i < k then wd ls i else codeW ls i) := by simp [wk]
theorem wk_zero (ls : List Nat) : wk ls 0 = allWords ls := by
  apply List.ext_getElem
  · rw [wk_len, allWords_len]
  · intro i h1 h2
    rw [wk_len] at h1
    rw [wk_get _ _ _ h1, allWords_get _ _ h1, if_neg (by omega)]
theorem wk_end (ls : List Nat) : wk ls ls.length = wds ls := by
  apply List.ext_getElem
  · rw [wk_len, wds_len]
  · intro i h1 h2
    rw [wk_len] at h1
    rw [wk_get _ _ _ h1, wds_get _ _ h1, if_pos h1]
theorem wk_set (ls : List Nat) (k : Nat) : (wk ls k).set k (CanC.uv (wd ls k)) = wk ls (k + 1) := by
  apply List.ext_getElem
  · simp [wk]
  · intro i h1 h2
    rw [List.getElem_set]
    rw [wk_len] at h2
    rw [wk_get _ _ _ h2, wk_get _ _ _ h2]
    by_cases h : k = i
    · subst h; rw [if_pos rfl, if_pos (by omega)]
    · rw [if_neg h]
      have : (i < k + 1) ↔ (i < k) := by omega
      simp only [this]
theorem rc_code (ls : List Nat) (hall : ∀ x ∈ ls, x ≤ 15) (hk : kr ls ≤ 32768) (i : Nat) (h : i < ls.length) : codeW ls i < 2 ^ ln ls i ∧ rc (ln ls i) (codeW ls i) = wd ls i := by
  rw [codeW_eq ls i h, ← ln_eq ls i h]
  by_cases h0 : ln ls i = 0
  · rw [if_pos h0]
    unfold wd
    rw [h0]
    exact ⟨by simp, rfl⟩
  · rw [if_neg h0]
    exact ⟨code_small hall hk i (by omega), rfl⟩

/-- A table of these lengths lies at g. -/
structure IsTab (B : Nat) (w : World) (g : Nat) (ls : List Nat) (f : Nat) : Prop where
  base : B ≤ g
  at_ : ∃ ge, B ≤ ge ∧ TabAt w g ge f (S ls f (2 ^ f)) (TT ls f ls.length)
theorem IsTab.below {B : Nat} {w w' : World} {g : Nat} {ls : List Nat} {f : Nat} (h : IsTab B w g ls f) (hb : Below w.heap.size w w') : IsTab B w' g ls f := by
  obtain ⟨h1, ge, h2, h3⟩ := h
  exact ⟨h1, ge, h2, h3.below hb⟩
theorem find_is {B : Nat} {g f v : Nat} {n : Int} {zs : List Int} {w : World} (h : IsTab B w g (nat zs) f) (hg : CanC.Good zs) (hk : kr (nat zs) ≤ 32768) (hf1 : 1 ≤ f) (hf : f ≤ 15) (hv : v < 4294967296) :
    Calls Try.prog 9 #[.pointer (some ⟨g, 0, none⟩), .int .u32 (v : Int), .int .i64 n] w fun e w' => e = .returned (ansV (who (nat zs) (v % 2 ^ cl n)) (cl n)) ∧ Below w.heap.size w w' := by
  obtain ⟨_, ge, _, h3⟩ := h
  exact find_tab hg.all hk (by rw [nat_len]; exact hg.1) f hf1 hf g ge v n w h3 hv
theorem size_is {B : Nat} {g f : Nat} {ls : List Nat} {w : World} (h : IsTab B w g ls f) :
    Calls Try.prog 10 #[.pointer (some ⟨g, 0, none⟩)] w fun e w' => e = .returned (.int .i64 ((S ls f (2 ^ f) : Nat) : Int)) ∧ w = w' := by
  obtain ⟨_, ge, _, h3⟩ := h
  exact size_any g ge f _ _ w h3
end Go.Proofs.Ytgmdbcmfncapdaa.TabC
