/-
  stevedorelaw9.told; what a symbol's length is.
-/
import Derived.Test.YtmfnncachaejgaaPkFull
import Derived.Test.YtmfnncachaejgaaPkCst
namespace Go.Proofs.Ytmfnncachaejgaa.PkC
open Go.Shelf Go.RowKit Go.My PackMath

theorem ini_lv (zs : List Int) (h : ∀ z ∈ zs, 0 ≤ z) : zs.map (fun z => Value.int .i64 z) = lv (zs.map Int.toNat) := by
  unfold lv
  rw [List.map_map]
  refine List.map_congr_left fun z hz => ?_
  simp only [Function.comp]
  rw [Int.toNat_of_nonneg (h z hz)]
/-- A symbol's length. -/
theorem lens_sym {cs : List Nat} {L : Nat} {ord lens : List Nat} (h : Lens cs L ord lens) (i : Nat) (hi : i < cs.length) (h0 : 0 < cs.getD i 0) :
    ∃ j, j < ord.length ∧ ord.getD j 0 = i ∧ (ord.map (cs.getD · 0)).getD j 0 = cs.getD i 0 ∧ lens.getD i 0 = lfin (ord.map (cs.getD · 0)) L j := by
  obtain ⟨o1, o2, o3, o4⟩ := ord_facts h.perm
  obtain ⟨j, hj, e⟩ := o3 i hi h0
  exact ⟨j, hj, e, by rw [map_getD _ _ _ hj, e], by rw [← e]; exact h.has j hj⟩
theorem srt_unique {a b : List Nat} (ha : Srt a) (hb : Srt b) (h : a.Perm b) : a = b :=
  List.Perm.eq_of_pairwise (fun _ _ _ _ h1 h2 => Nat.le_antisymm h1 h2) ha hb h
theorem four (a b c d : Fin 16) : 2 ^ (15 - a.val) + 2 ^ (15 - b.val) + 2 ^ (15 - c.val) + 2 ^ (15 - d.val) = 32768 → a.val + b.val + 2 * c.val + 4 * d.val ≤ 14 → a.val = 3 ∧ b.val = 3 ∧ c.val = 2 ∧ d.val = 1 := by
  revert a b c d
  decide +kernel
/-- The document's example. -/
theorem exA : PackMath.len [1, 1, 2, 4] 14 0 = 3 ∧ PackMath.len [1, 1, 2, 4] 14 1 = 3 ∧ PackMath.len [1, 1, 2, 4] 14 2 = 2 ∧ PackMath.len [1, 1, 2, 4] 14 3 = 1 := by
  have hs : Srt [1, 1, 2, 4] := by decide
  have hk := len_kraft hs (L := 14) (by omega) (by decide) (by decide)
  have hb := len_best hs (L := 14) (by omega) (by decide) (fun j => [3, 3, 2, 1].getD j 0) (fun j hj => by
    match j, hj with
    | 0, _ => decide
    | 1, _ => decide
    | 2, _ => decide
    | 3, _ => decide
    | j + 4, h => exact absurd h (by simp)) (by decide)
  have hle := fun j => len_le (A := [1, 1, 2, 4]) (L := 14) j
  generalize PackMath.len [1, 1, 2, 4] 14 = l at *
  have h0 := hle 0
  have h1 := hle 1
  have h2 := hle 2
  have h3 := hle 3
  have hk2 : 2 ^ (15 - l 0) + 2 ^ (15 - l 1) + 2 ^ (15 - l 2) + 2 ^ (15 - l 3) = 32768 := by
    simpa [sm] using hk
  have hb2 : l 0 + l 1 + 2 * l 2 + 4 * l 3 ≤ 14 := by
    simpa [sm] using hb
  exact four ⟨l 0, by omega⟩ ⟨l 1, by omega⟩ ⟨l 2, by omega⟩ ⟨l 3, by omega⟩ hk2 hb2
theorem exPos : pos [1, 1, 2, 4] 4 = [0, 1, 2, 3] := by decide
theorem exFine : Fine [1, 1, 2, 4] 15 := by
  refine ⟨by decide, by decide, by decide, by decide, ?_⟩
  show (pos [1, 1, 2, 4] 4).length ≤ _
  rw [exPos]; decide
theorem exBad : ¬ Fine [1, 1, 2, 4] 1 := fun h => by
  have := h.2.2.2.2
  rw [show [1, 1, 2, 4].map Int.toNat = [1, 1, 2, 4] from rfl, show ([1, 1, 2, 4] : List Int).length = 4 from rfl, exPos] at this
  simp at this
theorem exLens {ord lens : List Nat} (h : Lens [1, 1, 2, 4] 14 ord lens) : lens = [3, 3, 2, 1] := by
  have hp := h.perm
  rw [show ([1, 1, 2, 4] : List Nat).length = 4 from rfl, exPos] at hp
  have hA : ord.map (([1, 1, 2, 4] : List Nat).getD · 0) = [1, 1, 2, 4] := srt_unique h.srt (by decide) (hp.map _)
  obtain ⟨e0, e1, e2, e3⟩ := exA
  have g : ∀ i, i < 4 → lens.getD i 0 = [3, 3, 2, 1].getD i 0 := by
    intro i hi
    have hpos : 0 < ([1, 1, 2, 4] : List Nat).getD i 0 := by
      match i, hi with
      | 0, _ => decide
      | 1, _ => decide
      | 2, _ => decide
      | 3, _ => decide
      | j + 4, h => omega
    obtain ⟨j, hj, _, h2, h3⟩ := lens_sym h i hi hpos
    rw [hA] at h2 h3
    have hj4 : j < 4 := by rw [hp.length_eq] at hj; exact hj
    rw [h3]
    unfold lfin
    rw [if_neg (by decide)]
    match i, hi, j, hj4, h2 with
    | 0, _, 0, _, _ => exact e0
    | 0, _, 1, _, _ => exact e1
    | 0, _, 2, _, h => simp at h
    | 0, _, 3, _, h => simp at h
    | 1, _, 0, _, _ => exact e0
    | 1, _, 1, _, _ => exact e1
    | 1, _, 2, _, h => simp at h
    | 1, _, 3, _, h => simp at h
    | 2, _, 0, _, h => simp at h
    | 2, _, 1, _, h => simp at h
    | 2, _, 2, _, _ => exact e2
    | 2, _, 3, _, h => simp at h
    | 3, _, 0, _, h => simp at h
    | 3, _, 1, _, h => simp at h
    | 3, _, 2, _, h => simp at h
    | 3, _, 3, _, _ => exact e3
    | i + 4, h, _, _, _ => omega
    | _, _, j + 4, h, _ => omega
  have hl : lens.length = 4 := h.size
  apply List.ext_getElem
  · rw [hl]; rfl
  · intro i h1 h2
    have := g i (by omega)
    rw [List.getD_eq_getElem?_getD, List.getD_eq_getElem?_getD, List.getElem?_eq_getElem h1, List.getElem?_eq_getElem h2] at this
    simpa using this
theorem lits_row (w : World) (zs : List Int) (n : Nat) (hn : zs.length = n) (h : n ≤ 100) : RowIn (w.alloc (.cells (zs.map fun z => Value.int .i64 z).toArray 3)) (some ⟨w.heap.size, 0, none⟩) n n (zs.map fun z => Value.int .i64 z) := by
  have := OwnV.lit (base := 0) 3 w (zs.map fun z => Value.int .i64 z).toArray (Nat.zero_le _) (by simp; omega)
  simp only [List.size_toArray, List.length_map, hn] at this
  exact this.rowIn (by simp [hn])
theorem ok_row {base : Nat} {w w0 : World} {e : Ending} (h : LensRet [1, 1, 2, 4] 15 base e w) (_ : Below base w0 w) : ∃ a c, e = .returned (.tuple #[.slice a 4 c, .int .i64 0]) ∧ RowIn w a 4 c (lv [3, 3, 2, 1]) := by
  obtain ⟨v, ord, lens, he, hL, ho⟩ := h.2 exFine
  have hl := exLens hL
  subst hl
  obtain ⟨a, c, rfl, hR⟩ := ho.row
  exact ⟨a, c, he, hR⟩
set_option maxRecDepth 100000 in
set_option maxHeartbeats 8000000 in
theorem told_any (w : World) : Calls Try.prog 8 #[] w fun e w' => e = .returned (.bool true) ∧ Below w.heap.size w w' := by
  go_enter Try.func8, Try.ntmps8
  have HR1 := Lib.hid (lits_row w [1, 1, 2, 4] 4 rfl (by omega))
  simp only [List.map_cons, List.map_nil] at HR1
  have HB1 : Hid (Below w.heap.size w (w.alloc (.cells #[.int .i64 1, .int .i64 1, .int .i64 2, .int .i64 4] 3))) := Lib.hid ((Below.refl _ w).alloc (Nat.le_refl _) _)
  go_wp2_with fail
  refine (lengths_all [1, 1, 2, 4] (some ⟨w.heap.size, 0, none⟩) 4 4 15 _ HR1.out).mono ?_
  rintro e w2 ⟨hr, hb⟩
  obtain ⟨a1, c1, rfl, hR⟩ := ok_row hr hb
  have HB2 : Hid (Below w.heap.size w w2) := Lib.hid (HB1.out.trans (hb.mono HB1.out.size))
  have HL2 := Lib.hid hR
  clear hr hb hR HB1 HR1
  have HR2 := Lib.hid (lits_row w2 [1, 1, 2, 4] 4 rfl (by omega))
  simp only [List.map_cons, List.map_nil] at HR2
  have HB3 : Hid (Below w.heap.size w (w2.alloc (.cells #[.int .i64 1, .int .i64 1, .int .i64 2, .int .i64 4] 3))) := Lib.hid (HB2.out.alloc HB2.out.size _)
  have HL3 : Hid (RowIn (w2.alloc (.cells #[.int .i64 1, .int .i64 1, .int .i64 2, .int .i64 4] 3)) a1 4 c1 (lv [3, 3, 2, 1])) := Lib.hid (HL2.out.below (Nat.le_refl _) ((Below.refl _ w2).alloc (Nat.le_refl _) _))
  clear HL2 HB2
  go_wp2_with fail
  refine (lengths_all [1, 1, 2, 4] (some ⟨w2.heap.size, 0, none⟩) 4 4 1 _ HR2.out).mono ?_
  rintro e w3 ⟨hr, hb⟩
  have he := hr.1 exBad
  subst he
  have HB4 : Hid (Below w.heap.size w w3) := Lib.hid (HB3.out.trans (hb.mono HB3.out.size))
  have hL4 := HL3.out.below (Nat.le_refl _) hb
  clear hr hb HB3 HL3 HR2
  obtain ⟨b, o, rfl⟩ := hL4.some_ (by omega)
  have d0 : w3.cell? ⟨b, o, none⟩ = some (.int .i64 3) := hL4.get 0 (by simp [lv])
  have d1 : w3.cell? ⟨b, o + 1, none⟩ = some (.int .i64 3) := hL4.get 1 (by simp [lv])
  have d2 : w3.cell? ⟨b, o + 2, none⟩ = some (.int .i64 2) := hL4.get 2 (by simp [lv])
  have d3 : w3.cell? ⟨b, o + 3, none⟩ = some (.int .i64 1) := hL4.get 3 (by simp [lv])
  clear hL4
  have hX := lits_row w3 [2, 3] 2 rfl (by omega)
  simp only [List.map_cons, List.map_nil] at hX
  have hY := lits_row (w3.alloc (.cells #[.int .i64 2, .int .i64 3] 3)) [5, 7] 2 rfl (by omega)
  simp only [List.map_cons, List.map_nil] at hY
  have hX2 := hX.below (Nat.le_refl _) ((Below.refl _ (w3.alloc (.cells #[.int .i64 2, .int .i64 3] 3))).alloc (Nat.le_refl _) (.cells #[.int .i64 5, .int .i64 7] 3))
  have hcost := cost_any (A := [2, 3]) (B := [5, 7]) hX2 hY ⟨by decide, by decide, fun j => by
    match j with
    | 0 => decide
    | 1 => decide
    | j + 2 => simp, fun j => by
    match j with
    | 0 => decide
    | 1 => decide
    | j + 2 => simp⟩
  rw [show prd [2, 3] [5, 7] (min 2 2) = 31 from rfl, World.size_alloc] at hcost
  have HB6 : Hid (Below w.heap.size w ((w3.alloc (.cells #[.int .i64 2, .int .i64 3] 3)).alloc (.cells #[.int .i64 5, .int .i64 7] 3))) := Lib.hid ((HB4.out.alloc HB4.out.size _).alloc (Nat.le_trans HB4.out.size (by simp)) _)
  have HCO := Lib.hid hcost
  clear hX hY hX2 hcost
  go_wp2_with fail
  refine HCO.out.mono ?_
  rintro e w4 ⟨rfl, q, rfl⟩
  clear HCO d0 d1 d2 d3
  go_wp2_with fail
  go_ret
  exact ⟨rfl, HB6.out.trans ⟨rfl, rfl, rfl, Nat.le_refl _, fun _ _ => rfl⟩⟩
end Go.Proofs.Ytmfnncachaejgaa.PkC
