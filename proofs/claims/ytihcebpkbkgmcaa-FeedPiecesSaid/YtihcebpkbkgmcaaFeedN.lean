import Derived.Test.YtihcebpkbkgmcaaFeedF
import Derived.Test.YtihcebpkbkgmcaaFeedC
import Derived.Laws.MakeOwn
namespace Go.Proofs.Ytihcebpkbkgmcaa.FeedC
open Go.RowKit Go.My BitMath RefC

theorem bitsOf_take (l : List UInt8) (k : Nat) : (bitsOf l).take (8 * k) = bitsOf (l.take k) := by
  by_cases h : k ≤ l.length
  · conv => lhs; rw [← List.take_append_drop k l, bitsOf_append]
    rw [List.take_append_of_le_length (by rw [bitsOf_len, List.length_take]; omega)]
    exact List.take_of_length_le (by rw [bitsOf_len, List.length_take]; omega)
  · rw [List.take_of_length_le (l := l) (by omega)]
    exact List.take_of_length_le (by rw [bitsOf_len]; omega)

/-- The first bytes of a word. -/
def wb (word j : Nat) : List UInt8 := (List.range j).map fun i => UInt8.ofNat (word / 2 ^ (8 * i))
theorem wb_len (word j : Nat) : (wb word j).length = j := by simp [wb]
theorem wb_succ (word j : Nat) : wb word (j + 1) = wb word j ++ [UInt8.ofNat (word / 2 ^ (8 * j))] := by simp [wb, List.range_succ]
theorem wb_bits (word j : Nat) : bitsOf (wb word j) = lows (8 * j) word := by
  induction j with
  | zero => rfl
  | succ j ih =>
    rw [wb_succ, bitsOf_append, ih, bitsOf_one, Nat.mul_add, lows_add]
    congr 1
    rw [UInt8.toNat_ofNat']
    exact lows_mod 8 _

set_option maxRecDepth 100000 in
set_option maxHeartbeats 4000000 in
theorem next_any (B f q : Nat) (ps : List Pc) (word count pushed n : Nat) (ended : Bool) (w : World) (h : FAt B w f q ps word count pushed ended) (h8 : count % 8 = 0) (hn : 8 * n ≤ count + 8 * (cat ps).length) (hl : (cat ps).length ≤ 10000000000) :
    Calls Try.prog 23 #[.pointer (some ⟨f, 0, none⟩), .int .i64 (n : Int)] w fun e w' => ∃ v l, e = .returned v ∧ Own 5 w.heap.size w' v l ∧ Below w.heap.size w w' ∧ bitsOf l = (bits' word count ps).take (8 * n) := by
  have HA := Lib.hid h
  have hmo := h.most
  have hwl := h.word_lt
  obtain ⟨K, hK1, hK2, hK3, hmin⟩ : ∃ K : Nat, K ≤ n ∧ 8 * K ≤ count ∧ (n = K ∨ 8 * K = count) ∧ (if (count : Int) / 8 < (n : Int) then (count : Int) / 8 else (n : Int)) = (K : Int) := by
    by_cases hm : (count : Int) / 8 < (n : Int)
    · exact ⟨count / 8, by omega, by omega, by omega, by rw [if_pos hm]; omega⟩
    · exact ⟨n, by omega, by omega, by omega, by rw [if_neg hm]⟩
  have HK := Lib.hid hK3
  have hn2 : n ≤ 10000000008 := by omega
  have hc1 : ∀ w', Below w.heap.size w w' → w'.cell? ⟨f, 1, none⟩ = some (.int .i64 (count : Int)) := fun w' hb => by
    rw [hb.cell (p := ⟨f, 1, none⟩) h.blk.lt]; exact h.blk.cell 1
  have hc0 : ∀ w', Below w.heap.size w w' → w'.cell? ⟨f, 0, none⟩ = some (.int .u64 (word : Int)) := fun w' hb => by
    rw [hb.cell (p := ⟨f, 0, none⟩) h.blk.lt]; exact h.blk.cell 0
  have hc2 : ∀ w', Below w.heap.size w w' → w'.cell? ⟨f, 2, none⟩ = some (.pointer (some ⟨q, 0, none⟩)) := fun w' hb => by
    rw [hb.cell (p := ⟨f, 2, none⟩) h.blk.lt]; exact h.blk.cell 2
  have HC0 := Lib.hid hc0
  have HC1 := Lib.hid hc1
  have HC2 := Lib.hid hc2
  clear h hc0 hc1 hc2 hK3
  go_enter Try.func23, Try.ntmps23
  go_wp2_with (at_make; refine wpList_make_cap _ rfl _ _ 25 rfl w.heap.size 5 Try.underlying25 info5 .i64 .i64 _ n rfl rfl rfl (by omega) (Nat.le_refl _) ?_)
  intro w1 hown hg
  have hb1 := grown_none_below (Below.refl w.heap.size w) hg (Nat.le_refl _)
  have hc1 := HC1.out w1 hb1
  have HO1 : Hid (Own 5 w.heap.size w1 (.slice (some ⟨w.heap.size, 0, none⟩) 0 n) (wb word 0)) := Lib.hid hown
  have HB1 := Lib.hid hb1
  clear hown hg hb1
  go_wp2_with fail
  clear hc1
  generalize hG : w.heap.size = G at *
  go_loopw [5, 16] (fun sb iv wr => ∃ (j : Nat) (a : Option Addr) (cap : Nat), j ≤ K ∧ iv = .int .i64 (j : Int) ∧ sb = .slice a j cap ∧ Hid (Own 5 G wr (.slice a j cap) (wb word j)) ∧ Hid (Below G w wr)) (fun _ iv _ => K - (intOf iv).toNat)
  case atStart => exact ⟨0, _, _, by omega, rfl, rfl, HO1, HB1⟩
  case round =>
    clear HO1 HB1
    obtain ⟨j, a, cap, hj, rfl, rfl, HO, HB⟩ := hrel
    by_cases hlt : j < K
    · have hc0 := HC0.out wr HB.out
      have hcb : (wr.alloc (.cells #[.int .u8 ((word : Int) / 2 ^ (8 * j) % 256)] 5)) = wr.alloc (.cells #[.int .u8 ((UInt8.ofNat (word / 2 ^ (8 * j))).toNat : Int)] 5) := by
        have e : ((word / 2 ^ (8 * j) : Nat) : Int) = (word : Int) / 2 ^ (8 * j) := by push_cast; rfl
        rw [UInt8.toNat_ofNat', ← e]; rfl
      have hnb : Bytes (wr.alloc (.cells #[.int .u8 ((word : Int) / 2 ^ (8 * j) % 256)] 5)) (some ⟨wr.heap.size, 0, none⟩) 1 1 [UInt8.ofNat (word / 2 ^ (8 * j))] := by
        rw [hcb]; exact one_bytes 5 wr _
      have HNB := Lib.hid hnb
      have hGs : G ≤ wr.heap.size := by have := HB.out.size; omega
      have hwl2 := wb_len word j
      clear hcb hnb
      go_wp2_with (at_builtin; refine wpList_append_lie (by rfl) (.tmp 19) (.tmp 28) 25 rfl G 5 Try.underlying25 info5 (.slice a j cap) (wb word j) rfl (HO.out.below (Nat.le_refl _) ((Below.refl _ wr).alloc (Nat.le_refl _) _)) (some ⟨wr.heap.size, 0, none⟩) 1 1 [UInt8.ofNat (word / 2 ^ (8 * j))] rfl HNB.out (by omega) (by simp; omega) ?_)
      intro a3 c3 w3 hown hgrow hnext
      have HO3 : Hid (Own 5 G w3 (.slice a3 (j + 1) c3) (wb word (j + 1))) := Lib.hid (by rw [wb_succ]; exact hown)
      have HB3 : Hid (Below G w w3) := Lib.hid ((HB.out.alloc hGs _).grown hgrow (by simp; omega) (fun k hk => (World.ownsRow.lt HO.out k hk).1))
      clear hown hgrow hnext
      clear hwl2 hc0
      go_wp2_with fail
      go_roundw
      case rel => exact ⟨j + 1, a3, c3, by omega, by go_num, rfl, HO3, HB3⟩
      case measure => simp [intOf]; omega
    · obtain rfl : j = K := by omega
      have hc2 := HC2.out wr HB.out
      go_wp2_with fail
      subst hG
      have hq := HA.out.que.below HB.out
      refine (complete_any B q _ w.heap.size n ps wr hq (fun k hk => (HA.out.que.lt k hk).2) HB.out.size a j cap (wb word j) HO.out (wb_len _ _) hK1 (by have := HK.out; omega) (by omega)).mono ?_
      rintro e w5 ⟨v, rfl, hv, hb⟩
      have HV := Lib.hid hv
      have HB5 := Lib.hid (HB.out.trans hb)
      clear hv hb hq
      go_wp2_with fail
      go_ret
      refine ⟨v, _, rfl, HV.out, HB5.out, ?_⟩
      rw [bitsOf_append, wb_bits]
      unfold bits'
      rcases HK.out with e | e
      · subst e
        rw [Nat.sub_self, List.take_zero, bitsOf_nil, List.append_nil, List.take_append_of_le_length (by rw [lows_len]; omega)]
        have e := lows_add (8 * n) (count - 8 * n) word
        rw [show 8 * n + (count - 8 * n) = count from by omega] at e
        rw [e, List.take_append_of_le_length (by rw [lows_len]; omega), List.take_of_length_le (by rw [lows_len]; omega)]
      · rw [e, List.take_append (l₁ := lows count word), lows_len, List.take_of_length_le (l := lows count word) (by rw [lows_len]; omega)]
        congr 1
        rw [show 8 * n - count = 8 * (n - j) from by omega]
        exact (bitsOf_take _ _).symm
end Go.Proofs.Ytihcebpkbkgmcaa.FeedC
