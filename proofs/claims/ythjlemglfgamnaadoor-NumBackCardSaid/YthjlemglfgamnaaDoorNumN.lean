import Derived.Test.YthjlemglfgamnaaDoorNumZ
namespace Go.Proofs.YthjlemglfgamnaaDoor.NumC
open Go.RowKit Go.My NumMath

theorem bytes_rev (k u : Nat) : (bytesOf false k u).reverse = fix bch 256 k u := by
  unfold bytesOf
  suffices h : ∀ i, (bytesTo false k u i).reverse = fix bch 256 i u from h k
  intro i
  induction i with
  | zero => rfl
  | succ i ih =>
    rw [bytesTo_succ, List.reverse_append, ih]
    rfl
theorem bytes_big (k u : Nat) : bytesOf true k u = fix bch 256 k u := by
  rw [← bytes_rev]
  unfold bytesOf bytesTo
  apply List.ext_getElem
  · simp
  intro i h1 h2
  simp only [List.length_map, List.length_range] at h1
  simp
theorem num_bytes (big : Bool) (k u : Nat) : num big (bytesOf big k u) = u % 256 ^ k := by
  have h := V_fix UInt8.toNat bch 256 (fun x hx => bch_toNat x hx) (by omega) k u
  unfold num
  cases big
  · rw [if_neg (by decide), bytes_rev]; exact h
  · rw [if_pos rfl, bytes_big]; exact h

theorem ch_toNat (x : Nat) (h : x < 16) : (ch x).toNat = if x < 10 then 48 + x else 87 + x := by
  unfold ch; rw [UInt8.toNat_ofNat']; split <;> omega
theorem dig_ch8 (x : Nat) (h : x < 8) : dig 8 (ch x) = x := by
  have := ch_toNat x (by omega)
  rw [if_pos (by omega)] at this
  rw [dig8 _ (by omega)]; omega
theorem dig_ch16 (x : Nat) (h : x < 16) : dig 16 (ch x) = x := by
  have := ch_toNat x h
  unfold dig
  rw [if_neg (by decide)]
  split at this
  · rw [if_pos (by omega)]; omega
  · rw [if_neg (by omega), if_neg (by omega)]; omega
theorem ch_hexs (x : Nat) (h : x < 16) : hexs.contains (ch x) = true := by
  have := ch_toNat x h
  rw [hexs_iff]
  split at this <;> omega
theorem ch_octs (x : Nat) (h : x < 8) : octs.contains (ch x) = true := by
  have := ch_toNat x (by omega)
  rw [if_pos (by omega)] at this
  rw [octs_iff]; omega
theorem dig256 (c : UInt8) : dig 256 c = c.toNat := by unfold dig; rw [if_pos rfl]

/-- A field of octal digits is read as its number. -/
theorem oct_back (v n : Nat) (hn : 2 ≤ n) (hv : v ≤ 4611686018427387904) (h : v < 8 ^ (n - 1)) : octR (fix ch 8 (n - 1) v ++ [0]) = (v, 0) := by
  obtain ⟨m, rfl⟩ : ∃ m, n = m + 2 := ⟨n - 2, by omega⟩
  rw [show m + 2 - 1 = m + 1 from by omega] at *
  have hall : allIn octs (fix ch 8 (m + 1) v) = true := by
    unfold allIn
    rw [List.all_eq_true]
    intro c hc
    obtain ⟨x, hx, rfl⟩ := fix_mem ch 8 (by omega) _ _ c hc
    exact ch_octs x hx
  have hlen : (fix ch 8 (m + 1) v).length = m + 1 := fix_len _ _ _ _
  have hV := V_fix (dig 8) ch 8 (fun x hx => dig_ch8 x hx) (by omega) (m + 1) v
  rw [Nat.mod_eq_of_lt h] at hV
  obtain ⟨c, t, e⟩ : ∃ c t, fix ch 8 (m + 1) v ++ [0] = c :: t := ⟨_, _, rfl⟩
  have hc : octs.contains c = true := by
    have h1 : c = ch (v / 8 ^ m % 8) := by
      have : fix ch 8 (m + 1) v ++ [0] = ch (v / 8 ^ m % 8) :: (fix ch 8 m v ++ [0]) := rfl
      rw [this] at e
      exact (List.cons.inj e).1.symm
    rw [h1]; exact ch_octs _ (Nat.mod_lt _ (by omega))
  have hc' := (octs_iff c).1 hc
  have hbody : body (c :: t) = c :: t := by
    have hb : blanks.contains c = false := by
      cases e : blanks.contains c
      · rfl
      · have := (blanks_iff c).1 e; omega
    unfold body
    rw [List.dropWhile_cons, hb]; rfl
  have hdrop : (c :: t).drop (m + 1) = [0] := by
    rw [← e, List.drop_append_of_le_length (by omega), List.drop_of_length_le (by omega)]; rfl
  have hs := oct_split (c :: t) (fix ch 8 (m + 1) v) (m + 1) (by rw [hbody, hdrop, e]) hall (fun hk => by
    have h1 : (c :: t)[m + 1]? = some 0 := by
      have := congrArg (fun l => l[0]?) hdrop
      simpa using this
    rw [List.getElem?_eq_getElem hk] at h1
    rw [Option.some.inj h1]
    decide)
  rw [e, octR_oct c t (by omega) (by rw [hs.2, hdrop]; decide), hs.1, hV]
  exact Prod.ext (if_pos hv) (if_pos hv)
/-- A field in base 256 is read as its number. -/
theorem mark_back (v n : Nat) (hv : v ≤ 4611686018427387904) (h : v < 256 ^ (n - 1)) : octR (128 :: fix bch 256 (n - 1) v) = (v, 0) := by
  have hV := V_fix (dig 256) bch 256 (fun x hx => by rw [dig256, bch_toNat x hx]) (by omega) (n - 1) v
  rw [Nat.mod_eq_of_lt h] at hV
  rw [octR_256 _ _ rfl, hV]
  exact Prod.ext (if_pos hv) (if_pos hv)

theorem pback (v n : Int) (h : pE v n = 0) : octE (pS v n).data.toList = 0 ∧ ((octV (pS v n).data.toList : Nat) : Int) = v ∧ ((pS v n).size : Int) = n ∧ (pS v n).size ≤ 1000000 := by
  unfold pE at h
  by_cases h1 : n < 2 ∨ 32 < n
  · rw [if_pos h1] at h; omega
  rw [if_neg h1] at h
  by_cases h2 : v < 0 ∨ 4611686018427387904 < v
  · rw [if_pos h2] at h; omega
  rw [if_neg h2] at h
  obtain ⟨V, rfl⟩ : ∃ V : Nat, v = (V : Int) := ⟨v.toNat, by omega⟩
  obtain ⟨N, rfl⟩ : ∃ N : Nat, n = (N : Int) := ⟨n.toNat, by omega⟩
  have hS : pS (V : Int) (N : Int) = fieldS V N := by unfold pS; rw [if_neg h1, if_neg h2]; rfl
  rw [hS]
  simp only [Int.toNat_natCast] at h
  unfold fieldE at h
  by_cases h8 : V < 8 ^ (N - 1)
  · have hf : fieldS V N = ⟨(fix ch 8 (N - 1) V ++ [0]).toArray⟩ := if_pos h8
    have hr := oct_back V N (by omega) (by omega) h8
    rw [hf]
    refine ⟨congrArg Prod.snd hr, congrArg (fun p : Nat × Nat => ((p.1 : Nat) : Int)) hr, ?_, ?_⟩
    · rw [Lib.size_eq]; simp [fix_len]; omega
    · rw [Lib.size_eq]; simp [fix_len]; omega
  · rw [if_neg h8] at h
    unfold markE at h
    by_cases h256 : V < 256 ^ (N - 1)
    · have hf : fieldS V N = ⟨(128 :: fix bch 256 (N - 1) V).toArray⟩ := (if_neg h8).trans (if_pos h256)
      have hr := mark_back V N (by omega) h256
      rw [hf]
      refine ⟨congrArg Prod.snd hr, congrArg (fun p : Nat × Nat => ((p.1 : Nat) : Int)) hr, ?_, ?_⟩
      · rw [Lib.size_eq]; simp [fix_len]; omega
      · rw [Lib.size_eq]; simp [fix_len]; omega
    · rw [if_neg h256] at h; omega
theorem pwhy (v n : Int) (h : pE v n ≠ 0) : n < 2 ∨ 32 < n ∨ v < 0 ∨ 4611686018427387904 < v ∨ n < 9 := by
  unfold pE at h
  by_cases h1 : n < 2 ∨ 32 < n
  · omega
  rw [if_neg h1] at h
  by_cases h2 : v < 0 ∨ 4611686018427387904 < v
  · omega
  rw [if_neg h2] at h
  by_cases h9 : n < 9
  · omega
  exfalso
  apply h
  unfold fieldE
  split
  · rfl
  · have hp : 256 ^ 8 ≤ 256 ^ (n.toNat - 1) := Nat.pow_le_pow_right (by omega) (by omega)
    exact if_pos (by omega)
theorem hback (v : Int) (h : hE v = 0) : hexE (hS v).data.toList = 0 ∧ ((hexV (hS v).data.toList : Nat) : Int) = v ∧ 0 ≤ v ∧ v < 4294967296 := by
  unfold hE at h
  by_cases h2 : v < 0 ∨ 4294967295 < v
  · rw [if_pos h2] at h; omega
  obtain ⟨V, rfl⟩ : ∃ V : Nat, v = (V : Int) := ⟨v.toNat, by omega⟩
  have hf : hS (V : Int) = ⟨(fix ch 16 8 V).toArray⟩ := if_neg h2
  have hV := V_fix (dig 16) ch 16 (fun x hx => dig_ch16 x hx) (by omega) 8 V
  rw [Nat.mod_eq_of_lt (by omega)] at hV
  have hr : hexR (fix ch 16 8 V) = (V, 0) := by
    unfold hexR
    rw [if_pos ⟨fix_len _ _ _ _, by
      unfold allIn
      rw [List.all_eq_true]
      intro c hc
      obtain ⟨x, hx, rfl⟩ := fix_mem ch 16 (by omega) _ _ c hc
      exact ch_hexs x hx⟩, hV]
  rw [hf]
  exact ⟨congrArg Prod.snd hr, congrArg (fun p : Nat × Nat => ((p.1 : Nat) : Int)) hr, by omega, by omega⟩
theorem hwhy (v : Int) (h : hE v ≠ 0) : v < 0 ∨ 4294967296 ≤ v := by
  unfold hE at h
  by_cases h2 : v < 0 ∨ 4294967295 < v
  · omega
  · rw [if_neg h2] at h; exact absurd rfl h
end Go.Proofs.YthjlemglfgamnaaDoor.NumC
