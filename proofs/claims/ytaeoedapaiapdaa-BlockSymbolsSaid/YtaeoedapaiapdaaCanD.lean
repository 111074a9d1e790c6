/-
  canon.Codes where lengths make no code (Kraft, Kind: CanDk).
-/
import Derived.Test.YtaeoedapaiapdaaCanC
namespace Go.Proofs.Ytaeoedapaiapdaa.CanC
open Go.RowKit Go.My BitMath CanMath

theorem ret_pair {a b : Value} {x : Value} (h : a = b) : Ending.returned (.tuple #[a, x]) = .returned (.tuple #[b, x]) := by rw [h]

section
variable {a : Option Addr} {len cap : Nat} {zs : List Int} {w : World}
set_option maxRecDepth 100000 in
set_option maxHeartbeats 2000000 in
theorem codes_bad (h : RowIn w a len cap (zs.map iv)) (hg : ¬ Good zs) :
    Calls Try.prog 43 #[.slice a len cap] w fun e w' => e = .returned (.tuple #[.slice none 0 0, .int .i64 7]) ∧ Below w.heap.size w w' := by
  have HG := Lib.hid hg
  have HR := Lib.hid h
  clear hg h
  go_enter Try.func43, Try.ntmps43
  go_wp2_with fail
  refine (tally_any a len cap zs w HR.out).mono ?_
  rintro e w2 ⟨he, hb2⟩
  obtain ⟨C, f, hN, rfl⟩ := he.2 HG.out
  have HN := Lib.hid hN
  have HB := Lib.hid hb2
  have HS : Hid ((Try.prog.info? 84).map (·.size) = some C.size) := Lib.hid (by rw [hN.size]; exact info_cnt)
  have HS2 : Hid (z16.size = C.size) := Lib.hid (by rw [hN.size]; rfl)
  have HX : Hid (Blk (w2.alloc (.cells z16 84)) w2.heap.size 84 z16) := Lib.hid (Blk.new w2 _ _)
  clear he hN hb2
  go_wp2_with (first
    | (refine wpList_store_row rfl _ _ _ rfl w2.heap.size _ rfl rfl 84 z16 HX.out HS.out HS2.out HN.out.one ?_))
  go_ret2
  exact ⟨rfl, below_row (HB.out.alloc HB.out.size _) HB.out.size C⟩
set_option maxRecDepth 100000 in
set_option maxHeartbeats 2000000 in
theorem codes_over (h : RowIn w a len cap (zs.map iv)) (hg : Good zs) (hk : 32768 < kr (nat zs)) :
    Calls Try.prog 43 #[.slice a len cap] w fun e w' => e = .returned (.tuple #[.slice none 0 0, .int .i64 2]) ∧ Below w.heap.size w w' := by
  have HG := Lib.hid hg
  have HR := Lib.hid h
  have HK : Hid (kindN (nat zs) = 4) := Lib.hid (by unfold kindN; rw [if_pos hk])
  clear hg h hk
  go_enter Try.func43, Try.ntmps43
  go_wp2_with fail
  refine (tally_any a len cap zs w HR.out).mono ?_
  rintro e w2 ⟨he, hb2⟩
  obtain ⟨C, hN, rfl⟩ := he.1 HG.out
  have HN := Lib.hid hN
  have HB := Lib.hid hb2
  have HS : Hid ((Try.prog.info? 84).map (·.size) = some C.size) := Lib.hid (by rw [hN.size]; exact info_cnt)
  have HS2 : Hid (z16.size = C.size) := Lib.hid (by rw [hN.size]; rfl)
  have HX : Hid (Blk (w2.alloc (.cells z16 84)) w2.heap.size 84 z16) := Lib.hid (Blk.new w2 _ _)
  clear he hN hb2
  go_wp2_with (first
    | (refine wpList_store_row rfl _ _ _ rfl w2.heap.size _ rfl rfl 84 z16 HX.out HS.out HS2.out HN.out.one ?_)
    | (refine wpList_load_row rfl 84 _ rfl w2.heap.size rfl 84 C (0, 0) _ (HX.out.row C) Try.underlying84 rfl HS.out ?_))
  have HB2 : Hid (Below w.heap.size w ((w2.alloc (.cells z16 84)).setRow w2.heap.size C)) := Lib.hid (below_row (HB.out.alloc HB.out.size _) HB.out.size C)
  refine (kind_any C _ _ HN.out HG.out.all (by rw [nat_len]; exact HG.out.1)).mono ?_
  rw [HK.out]
  rintro e w3 ⟨rfl, hb3⟩
  have HB3 := Lib.hid (HB2.out.trans (hb3.mono HB2.out.size))
  clear hb3
  go_wp2_with fail
  go_ret2
  exact ⟨rfl, HB3.out⟩
end

/-- The code of the symbol at place i, 0 if it has none. -/
def codeW (ls : List Nat) (i : Nat) : Nat := match ls[i]? with | some n => if n = 0 then 0 else codeN ls n i | none => 0
theorem codeW_eq (ls : List Nat) (i : Nat) (h : i < ls.length) : codeW ls i = if ls[i] = 0 then 0 else codeN ls ls[i] i := by
  unfold codeW; rw [List.getElem?_eq_getElem h]
/-- What Codes has laid behind k rounds. -/
def words (ls : List Nat) (k : Nat) : List Nat := (List.range ls.length).map fun i => if i < k then codeW ls i else 0
theorem words_len (ls : List Nat) (k : Nat) : (words ls k).length = ls.length := by simp [words]
theorem words_get (ls : List Nat) (k i : Nat) (h : i < ls.length) : (words ls k)[i]'(by rw [words_len]; exact h) = if i < k then codeW ls i else 0 := by simp [words]
theorem words_zero (ls : List Nat) : (words ls 0).map uv = List.replicate ls.length (uv 0) := by
  apply List.ext_getElem
  · simp [words]
  · intro i h1 h2; simp [words]
theorem words_set (ls : List Nat) (k : Nat) : ((words ls k).map uv).set k (uv (codeW ls k)) = (words ls (k + 1)).map uv := by
  apply List.ext_getElem
  · simp [words]
  · intro i h1 h2
    rw [List.getElem_set]
    simp only [List.getElem_map, words, List.getElem_range]
    by_cases h : k = i
    · subst h; simp
    · rw [if_neg h]
      by_cases hlt : i < k
      · rw [if_pos hlt, if_pos (by omega)]
      · rw [if_neg hlt, if_neg (by omega)]
theorem words_skip (ls : List Nat) (k : Nat) (h : codeW ls k = 0) : words ls k = words ls (k + 1) := by
  unfold words
  apply List.map_congr_left
  intro i _
  by_cases hi : i = k
  · subst hi; simp [h]
  · by_cases hlt : i < k
    · rw [if_pos hlt, if_pos (by omega)]
    · rw [if_neg hlt, if_neg (by omega)]
/-- The next code of each length behind k rounds. -/
def nf (ls : List Nat) (k n : Nat) : Nat := if n = 0 then 0 else codeN ls n k
theorem nf_zero (ls : List Nat) (n : Nat) : nf ls 0 n = first ls n := by
  unfold nf codeN
  split
  · next h => subst h; rfl
  · simp
theorem nf_succ (ls : List Nat) (k n : Nat) (h : k < ls.length) : nf ls (k + 1) n = nf ls k n + (if n = ls[k] ∧ 0 < n then 1 else 0) := by
  unfold nf codeN
  by_cases h0 : n = 0
  · subst h0; rw [if_pos rfl, if_pos rfl, if_neg (by omega)]
  · rw [if_neg h0, if_neg h0, count_take_succ ls k n h]
    by_cases he : n = ls[k]
    · rw [if_pos he.symm, if_pos ⟨he, by omega⟩]; omega
    · rw [if_neg (fun e => he e.symm), if_neg (fun e => he e.1)]; omega
theorem nf_le (ls : List Nat) (hall : ∀ x ∈ ls, x ≤ 15) (hk : kr ls ≤ 32768) (hl : ls.length ≤ 65536) (k n : Nat) (hn : n ≤ 15) : nf ls k n ≤ 98304 := by
  unfold nf codeN
  split
  · omega
  · have h1 := first_le ls hall hk n hn
    have h2 := count_take_le ls k n
    have h3 : ls.count n ≤ ls.length := List.count_le_length
    omega
/-- All codes. -/
def allWords (ls : List Nat) : List Value := (words ls ls.length).map uv
theorem allWords_len (ls : List Nat) : (allWords ls).length = ls.length := by simp [allWords, words_len]
theorem allWords_get (ls : List Nat) (i : Nat) (h : i < ls.length) : (allWords ls)[i]'(by rw [allWords_len]; exact h) = uv (codeW ls i) := by
  simp [allWords, words, h]

def CodesOk (zs : List Int) (w : World) (e : Ending) (w' : World) : Prop := ∃ g, e = .returned (.tuple #[.slice (some ⟨g, 0, none⟩) zs.length zs.length, .int .i64 0]) ∧ w.heap.size ≤ g ∧ OwnV 37 w.heap.size w' (.slice (some ⟨g, 0, none⟩) zs.length zs.length) (allWords (nat zs)) ∧ Below w.heap.size w w'
theorem info_u32 : (Try.prog.info? 37).map (fun i => (i.zero, i.size, i.bytes)) = some (some (.int .u32 0), 1, 4) := by kernel_rfl
end Go.Proofs.Ytaeoedapaiapdaa.CanC
