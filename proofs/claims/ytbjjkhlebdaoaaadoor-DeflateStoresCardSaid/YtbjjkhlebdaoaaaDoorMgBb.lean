import Derived.Test.YtbjjkhlebdaoaaaDoorMgBa
import Derived.Test.YtbjjkhlebdaoaaaDoorMgFu
import Derived.Test.YtbjjkhlebdaoaaaDoorMgH

section
/-
  best: the code that is best for counts.
-/
namespace Go.Proofs.YtbjjkhlebdaoaaaDoor.BlkC
open Go.RowKit Go.My BitMath CanMath TabMath
open CanC (iv allWords)
open PkC (cel lv cel_zero cel_cell cel_upd Best)
open InfMath (CodeOk)

theorem back_ints (l : List Nat) : (l.map fun (x : Nat) => (x : Int)).map Int.toNat = l := by
  rw [List.map_map]
  conv => rhs; rw [← List.map_id l]
  exact List.map_congr_left fun x _ => by simp
theorem lv_int (l : List Nat) : lv l = (l.map fun (x : Nat) => (x : Int)).map fun z => Value.int .i64 z := by
  unfold lv
  rw [List.map_map]; rfl
/-- Lengths, of counts that are numbers and may be packed. -/
theorem pack_any (cs : List Nat) (a : Option Addr) (len cap n : Nat) (w : World) (hR : RowIn w a len cap (lv cs)) (hl : cs.length ≤ 400) (hn : 1 ≤ n) (hn2 : n ≤ 15) (hc : ∀ j, cs.getD j 0 ≤ 1048576) (hk : cs.length ≤ 2 ^ n) :
    Calls Tryd.prog 72 #[.slice a len cap, .int .i64 (n : Int)] w fun e w' => (∃ b c lens, e = .returned (.tuple #[.slice b len c, .int .i64 0]) ∧ Best cs lens n ∧ RowIn w' b len c (lv lens) ∧ ∀ k off, b = some ⟨k, off, none⟩ → w.heap.size ≤ k) ∧ Below w.heap.size w w' := by
  have hlen := PkC.lv_size hR
  have hF : PkC.Fine (cs.map fun (x : Nat) => (x : Int)) (n : Int) := by
    refine ⟨by simpa using hl, by omega, by omega, fun z hz => ?_, ?_⟩
    · obtain ⟨x, hx, rfl⟩ := List.mem_map.1 hz
      obtain ⟨i, hi, rfl⟩ := List.getElem_of_mem hx
      have := hc i
      rw [List.getD_eq_getElem?_getD, List.getElem?_eq_getElem hi] at this
      have h2 : cs[i] ≤ 1048576 := this
      omega
    · rw [back_ints, List.length_map]
      exact Nat.le_trans (PkC.pos_len _ _) (by simpa using hk)
  refine (PkC.lengths_all _ a len cap (n : Int) w (by rw [← lv_int]; exact hR)).mono ?_
  rintro e w' ⟨hr, hb⟩
  refine ⟨?_, hb⟩
  obtain ⟨v, ord, lens, rfl, hL, hO⟩ := hr.2 hF
  rw [back_ints, Int.toNat_natCast] at hL
  obtain ⟨b, c, rfl, hB⟩ := hO.row
  have : (lv lens).length = len := by rw [PkC.lv_len, hL.size, hlen]
  have hla := own_la hO
  rw [this] at hB ⊢
  have hbest := PkC.lens_best hL (by omega) (by rw [show n - 1 + 1 = n from by omega]; exact hk)
  rw [show n - 1 + 1 = n from by omega] at hbest
  exact ⟨b, c, lens, rfl, hbest, hB, hla⟩
theorem range_map_len (n : Nat) (F : Nat → Nat) : ((List.range n).map F).length = n := by simp
theorem range_map_get (n : Nat) (F : Nat → Nat) (j : Nat) (h : j < n) : ((List.range n).map F).getD j 0 = F j := by simp [List.getD_eq_getElem?_getD, h]
theorem range_map_le {n m : Nat} {F : Nat → Nat} (h : ∀ j, F j ≤ m) (j : Nat) : ((List.range n).map F).getD j 0 ≤ m := by
  by_cases hj : j < n
  · rw [range_map_get n F j hj]; exact h j
  · rw [List.getD_eq_getElem?_getD, List.getElem?_eq_none (by simp; omega)]; exact Nat.zero_le _
theorem cel_all {n : Nat} {F G : Nat → Nat} (h : ∀ j, j < n → F j = G j) : cel n F = cel n G := by
  unfold cel
  exact List.map_congr_left fun j hj => by rw [h j (by simpa using hj)]
theorem CodeIn.set2 {w : World} {g n c1 c2 : Nat} {a b : Option Addr} {ls : List Nat} (h : CodeIn (g + 1) w a b n c1 c2 ls) (u v : Value) : CodeIn g ((w.setCell ⟨g, 0, none⟩ u).setCell ⟨g, 1, none⟩ v) a b n c1 c2 ls :=
  ⟨row_only (only_set2 w g u v) h.lens (fun k off e => by have := h.la k off e; omega), row_only (only_set2 w g u v) h.words (fun k off e => by have := h.lb k off e; omega), fun k off e => by have := h.la k off e; omega, fun k off e => by have := h.lb k off e; omega⟩
set_option maxRecDepth 100000 in
set_option maxHeartbeats 8000000 in
theorem best_any (n most : Nat) (F : Nat → Nat) (g : Nat) (w : World) (hF : Blk w g 3 (cel n F).toArray) (h1 : 1 ≤ most) (h15 : most ≤ 15) (hn : n ≤ 400) (hp : n ≤ 2 ^ most) (hFm : ∀ j, F j ≤ 1000000) :
    Calls Tryd.prog 54 #[.slice (some ⟨g, 0, none⟩) n n, .int .i64 (most : Int)] w fun e w' =>
      ∃ a c b lens, e = .returned (.agg #[.slice a n c, .slice (some ⟨b, 0, none⟩) n n]) ∧ CodeIn w.heap.size w' a (some ⟨b, 0, none⟩) n c n lens ∧ Best ((List.range n).map F) lens most ∧ Below w.heap.size w w' := by
  have HP := Lib.hid (And.intro h1 (And.intro h15 hp))
  have HFM := Lib.hid hFm
  obtain ⟨X, hX⟩ : ∃ X, X = w.alloc (.cells #[.slice none 0 0, .slice none 0 0] 62) := ⟨_, rfl⟩
  have HBX : Hid (Blk X w.heap.size 62 #[.slice none 0 0, .slice none 0 0]) := Lib.hid (by rw [hX]; exact Blk.new w _ _)
  have HXB : Hid (Below w.heap.size w X) := Lib.hid (by rw [hX]; exact (Below.refl _ _).alloc (Nat.le_refl _) _)
  have HF := Lib.hid (hF.same (HXB.out.block g hF.lt))
  have hm := make_ints n (by omega)
  obtain ⟨Z1, hZ1⟩ : ∃ Z1, Z1 = (cel n fun _ => 0).toArray := ⟨_, rfl⟩
  rw [← hZ1] at hm
  obtain ⟨Y, hY⟩ : ∃ Y, Y = X.alloc (.cells Z1 3) := ⟨_, rfl⟩
  have HY : Hid (Blk Y X.heap.size 3 (cel n fun _ => 0).toArray ∧ Blk Y g 3 (cel n F).toArray ∧ Below w.heap.size w Y ∧ Blk Y w.heap.size 62 #[.slice none 0 0, .slice none 0 0] ∧ g < X.heap.size ∧ w.heap.size < X.heap.size) := Lib.hid (by
    rw [hY, hZ1]
    exact ⟨Blk.new X _ _, HF.out.alloc _, HXB.out.alloc HXB.out.size _, HBX.out.alloc _, HF.out.lt, HBX.out.lt⟩)
  clear h1 h15 hp hFm hF hZ1 HF
  go_enter Tryd.func54, Tryd.ntmps54
  go_upto_region 1 with (fail)
  rw [← hX]
  clear hX HBX HXB
  go_upto_region 2 with (fail)
  rw [← hY]
  clear hY hm
  generalize X.heap.size = q at *
  go_wp2_with fail
  go_loopw [15] (fun kv wr => ∃ k : Nat, kv = .int .i64 (k : Int) ∧ k ≤ n ∧ Hid (Blk wr q 3 (cel n fun j => if j < k then F j else 0).toArray ∧ Blk wr g 3 (cel n F).toArray ∧ Below w.heap.size w wr ∧ Blk wr w.heap.size 62 #[.slice none 0 0, .slice none 0 0])) (fun kv _ => n - (intOf kv).toNat)
  case atStart => exact ⟨0, rfl, Nat.zero_le _, Lib.hid ⟨by have := HY.out.1; simpa using this, HY.out.2.1, HY.out.2.2.1, HY.out.2.2.2.1⟩⟩
  case round =>
    obtain ⟨k, rfl, hk, HR⟩ := hrel
    by_cases hlt : k < n
    · have hc : wr.cell? ⟨g, k, none⟩ = some (.int .i64 (F k : Int)) := cel_cell HR.out.2.1 k hlt
      have hd : wr.cell? ⟨q, k, none⟩ = some (.int .i64 ((if k < k then F k else 0 : Nat) : Int)) := cel_cell HR.out.1 k hlt
      have f0 := HR.out.1.frozen k
      have hki : (k : Int) < (n : Int) := by omega
      have hle := HFM.out k
      obtain ⟨N, hN⟩ : ∃ N, N = F k := ⟨_, rfl⟩
      rw [← hN] at hc hle
      have hmin : min (N : Int) 1073741824 = (N : Int) := by omega
      have HN := Lib.hid hN
      clear hN
      go_wp2_with fail
      go_roundw
      case rel =>
        refine ⟨k + 1, by go_num, by omega, Lib.hid ?_⟩
        obtain ⟨p1, p2, p3, p4⟩ := HR.out
        have hs := PkC.Blk.set_cel p1 k N
        have hq := HY.out.2.2.2.2
        refine ⟨?_, PkC.Blk.set_far p2 (by omega) _ _, p3.setCell (p := ⟨q, k, none⟩) (by show w.heap.size ≤ q; omega) _, PkC.Blk.set_far p4 (by omega) _ _⟩
        rw [cel_all (G := fun j => if j = k then N else if j < k then F j else 0) fun j _ => by
          by_cases e : j = k
          · subst e; rw [if_pos rfl, if_pos (by omega), HN.out]
          · rw [if_neg e]
            by_cases e2 : j < k
            · rw [if_pos (by omega), if_pos e2]
            · rw [if_neg (by omega), if_neg e2]]
        exact hs
      case measure => simp [intOf]; omega
    · obtain rfl : k = n := by omega
      obtain ⟨p1, p2, p3, p4⟩ := HR.out
      have hrow : RowIn wr (some ⟨q, 0, none⟩) k k (lv ((List.range k).map F)) := by
        refine cel_row ?_ (by omega)
        rw [cel_all (G := fun j => if j < k then F j else 0) fun j hj => by rw [if_pos hj]]
        exact p1
      have HPK := Lib.hid (pack_any ((List.range k).map F) (some ⟨q, 0, none⟩) k k most wr hrow (by rw [range_map_len]; exact hn) HP.out.1 HP.out.2.1 (range_map_le (m := 1048576) fun j => by have := HFM.out j; omega) (by rw [range_map_len]; exact HP.out.2.2))
      have HB := Lib.hid p3
      have HC := Lib.hid p4
      clear p1 p2 p3 p4 hrow HR
      go_wp2_with fail
      refine HPK.out.mono ?_
      rintro e w1 ⟨⟨b, c, lens, rfl, hbest, hrow, hlb⟩, hb1⟩
      have HB1 := Lib.hid (HB.out.trans (hb1.mono HB.out.size))
      have HC1 := Lib.hid (HC.out.same (hb1.block _ HC.out.lt))
      have HBE := Lib.hid hbest
      have hll : lens.length = k := by rw [hbest.size, range_map_len]
      have HM := Lib.hid (made_any b k c lens w1 hrow (by omega) (fun x hx => by
        obtain ⟨i, hi, rfl⟩ := List.getElem_of_mem hx
        have := hbest.all i
        rw [List.getD_eq_getElem?_getD, List.getElem?_eq_getElem hi] at this
        have h2 : lens[i] ≤ most := this
        have := HP.out.2.1
        omega) hbest.le (B := w.heap.size + 1) HC1.out.lt (fun k2 off e => by have h3 := hlb k2 off e; have := HC.out.lt; omega))
      clear hbest hrow hlb hb1 hll HPK HC
      go_wp2_with fail
      refine HM.out.mono ?_
      rintro e w2 ⟨b2, rfl, hb2, hcd, hbl⟩
      have HC2 := Lib.hid (HC1.out.same (hbl.block _ HC1.out.lt))
      have HB2 := Lib.hid (HB1.out.trans (hbl.mono HB1.out.size))
      have HCD := Lib.hid hcd
      have HLT : Hid (w.heap.size < w1.heap.size) := Lib.hid HC1.out.lt
      have HB2B := Lib.hid hb2
      have r0 : w2.cell? ⟨w.heap.size, 0, none⟩ = some (.slice none 0 0) := HC2.out.cell 0
      have r1 : w2.cell? ⟨w.heap.size, 1, none⟩ = some (.slice none 0 0) := HC2.out.cell 1
      have f0 := HC2.out.frozen 0
      have f1 := HC2.out.frozen 1
      clear hb2 hcd hbl HM HC1 HY
      go_wp2_with fail
      have HB3 := (HC2.out.set_ 0 (.slice b k c)).set_ 1 (.slice (some ⟨b2, 0, none⟩) k k)
      have hO := only_set2 w2 w.heap.size (.slice b k c) (.slice (some ⟨b2, 0, none⟩) k k)
      exact code_ret rfl rfl rfl HB3 info_code ⟨b, c, b2, lens, rfl, HCD.out.set2 _ _, HBE.out, HB2.out.trans (hO.below HB2.out.size (fun j hj => by omega))⟩
end Go.Proofs.YtbjjkhlebdaoaaaDoor.BlkC
end

section
/-
  shortened: a code without its last symbols, which have no bits.
-/
namespace Go.Proofs.YtbjjkhlebdaoaaaDoor.BlkC
open Go.RowKit Go.My BitMath CanMath TabMath
open CanC (iv allWords)
open PkC (cel lv cel_zero cel_cell cel_upd Best)
open InfMath (CodeOk)

theorem words_trim {ls : List Nat} {k : Nat} (hz : ∀ i, k ≤ i → ls.getD i 0 = 0) : allWords (ls.take k) = (allWords ls).take k := by
  apply List.ext_getElem
  · rw [CanC.allWords_len, List.length_take, List.length_take, CanC.allWords_len]
  · intro i h1 h2
    rw [CanC.allWords_len, List.length_take] at h1
    have hi : i < ls.length := by omega
    have hik : i < k := by omega
    rw [List.getElem_take, CanC.allWords_get _ _ (by rw [List.length_take]; omega), CanC.allWords_get _ _ hi, CanC.codeW_eq _ _ (by rw [List.length_take]; omega), CanC.codeW_eq _ _ hi, List.getElem_take, InfMath.codeN_trim hz _ _ (by omega)]
theorem row_take {w : World} {a : Option Addr} {len cap n : Nat} {vs : List Value} (h : RowIn w a len cap vs) (hn : n ≤ len) : RowIn w a n cap (vs.take n) := by
  have hl := h.len_eq
  refine ⟨by rw [List.length_take]; omega, by have := h.le_cap; omega, h.cap_le, fun e => by have := h.nil e; omega, ?_⟩
  rcases h.at_ with h0 | ⟨b', off', ha, hs, hc⟩
  · left; omega
  · exact .inr ⟨b', off', ha, hs, fun i hi => by
      rw [List.length_take] at hi
      rw [List.getElem_take]
      exact hc i (by omega)⟩
theorem lv_take (ls : List Nat) (n : Nat) : lv (ls.take n) = (lv ls).take n := by unfold lv; rw [List.map_take]
theorem lv_at (ls : List Nat) (i : Nat) (h : i < ls.length) : (lv ls)[i]'(by simp [lv, h]) = .int .i64 ((ls.getD i 0 : Nat) : Int) := by
  simp [lv, List.getD_eq_getElem?_getD, h]
theorem CodeIn.trim {B : Nat} {w : World} {a b : Option Addr} {n c1 c2 k : Nat} {ls : List Nat} (h : CodeIn B w a b n c1 c2 ls) (hk : k ≤ n) (hz : ∀ i, k ≤ i → ls.getD i 0 = 0) : CodeIn B w a b k c1 c2 (ls.take k) :=
  ⟨by rw [lv_take]; exact row_take h.lens hk, by rw [words_trim hz]; exact row_take h.words hk, h.la, h.lb⟩
theorem CodeIn.len {B : Nat} {w : World} {a b : Option Addr} {n c1 c2 : Nat} {ls : List Nat} (h : CodeIn B w a b n c1 c2 ls) : ls.length = n := by
  have := h.lens.len_eq
  simpa [lv] using this
set_option maxRecDepth 100000 in
set_option maxHeartbeats 8000000 in
theorem short_any {B : Nat} (a b : Option Addr) (n c1 c2 : Nat) (ls : List Nat) (w : World) (h : CodeIn B w a b n c1 c2 ls) (h1 : 1 ≤ n) (hn : n ≤ 1000) (hs : ∀ i, ls.getD i 0 ≤ 1000) :
    Calls Tryd.prog 55 #[.agg #[.slice a n c1, .slice b n c2]] w fun e w' => ∃ k, e = .returned (.agg #[.slice a k c1, .slice b k c2]) ∧ 1 ≤ k ∧ k ≤ n ∧ (∀ i, k ≤ i → ls.getD i 0 = 0) ∧ (k = 1 ∨ 1 ≤ ls.getD (k - 1) 0) ∧ CodeIn B w' a b k c1 c2 (ls.take k) ∧ Below w.heap.size w w' := by
  have hlen := h.len
  obtain ⟨p, off, rfl⟩ := h.lens.some_ (by omega)
  obtain ⟨p2, off2, rfl⟩ := h.words.some_ (by omega)
  have l1 := h.lens.le_cap
  have l2 := h.words.le_cap
  have l3 := h.lens.cap_le
  have l4 := h.words.cap_le
  have hcell : ∀ i, i < n → w.cell? ⟨p, off + i, none⟩ = some (.int .i64 ((ls.getD i 0 : Nat) : Int)) := fun i hi => by rw [h.lens.get i (by simp [lv]; omega), lv_at _ _ (by omega)]
  obtain ⟨X, hX⟩ : ∃ X, X = (w.alloc (.cells #[.slice (some ⟨p, off, none⟩) n c1, .slice (some ⟨p2, off2, none⟩) n c2] 62)).alloc (.cells #[.slice none 0 0, .slice none 0 0] 62) := ⟨_, rfl⟩
  have hXB : Below w.heap.size w X := by rw [hX]; exact ((Below.refl _ _).alloc (Nat.le_refl _) _).alloc (by rw [World.size_alloc]; omega) _
  have HBC : Hid (Blk X w.heap.size 62 #[.slice (some ⟨p, off, none⟩) n c1, .slice (some ⟨p2, off2, none⟩) n c2]) := Lib.hid (by rw [hX]; exact (Blk.new w _ _).alloc _)
  have HBR : Hid (Blk X (w.heap.size + 1) 62 #[.slice none 0 0, .slice none 0 0]) := Lib.hid (by
    have := Blk.new (w.alloc (.cells #[.slice (some ⟨p, off, none⟩) n c1, .slice (some ⟨p2, off2, none⟩) n c2] 62)) 62 #[.slice none 0 0, .slice none 0 0]
    rw [World.size_alloc] at this
    rw [hX]; exact this)
  have HCL : Hid (∀ i, i < n → X.cell? ⟨p, off + i, none⟩ = some (.int .i64 ((ls.getD i 0 : Nat) : Int))) := Lib.hid fun i hi => by
    rw [hXB.cell (p := ⟨p, off + i, none⟩) (h.lens.lt (by omega))]; exact hcell i hi
  have HXB := Lib.hid hXB
  have HH := Lib.hid h
  have HSM := Lib.hid hs
  have HLE : Hid (ls.length = n) := Lib.hid hlen
  clear hXB hcell h hs hlen
  go_enter Tryd.func55, Tryd.ntmps55
  go_upto_region 1 with (fail)
  rw [← hX]
  clear hX
  have k0 : X.cell? ⟨w.heap.size, 0, none⟩ = some (.slice (some ⟨p, off, none⟩) n c1) := HBC.out.cell 0
  have k1 : X.cell? ⟨w.heap.size, 1, none⟩ = some (.slice (some ⟨p2, off2, none⟩) n c2) := HBC.out.cell 1
  have r0 : X.cell? ⟨w.heap.size + 1, 0, none⟩ = some (.slice none 0 0) := HBR.out.cell 0
  have r1 : X.cell? ⟨w.heap.size + 1, 1, none⟩ = some (.slice none 0 0) := HBR.out.cell 1
  have f0 := HBR.out.frozen 0
  have f1 := HBR.out.frozen 1
  go_wp2_with fail
  go_loop [3] (fun kv => ∃ k : Nat, kv = .int .i64 (k : Int) ∧ 1 ≤ k ∧ k ≤ n ∧ Hid (∀ i, k ≤ i → ls.getD i 0 = 0)) (fun kv => (intOf kv).toNat)
  case atStart => exact ⟨n, rfl, h1, Nat.le_refl _, Lib.hid fun i hi => by rw [List.getD_eq_getElem?_getD, List.getElem?_eq_none (by rw [HLE.out]; omega)]; rfl⟩
  case round =>
    obtain ⟨k, rfl, hk1, hk, HZ⟩ := hrel
    by_cases hgt : 1 < k
    · have hc := HCL.out (k - 1) (by omega)
      have hb1 := HSM.out (k - 1)
      obtain ⟨j, hj⟩ : ∃ j, j = k - 1 := ⟨_, rfl⟩
      have hj1 : (k : Int) - 1 = (j : Int) := by omega
      have hjn : (j : Int) < (n : Int) := by omega
      rw [← hj] at hc hb1
      obtain ⟨y, hy⟩ : ∃ y, y = ls.getD j 0 := ⟨_, rfl⟩
      rw [← hy] at hc hb1
      have HY := Lib.hid (And.intro hy hj)
      clear hy hj
      by_cases h0 : y = 0
      · subst h0
        have hc' : X.cell? ⟨p, off + j, none⟩ = some (.int .i64 0) := hc
        clear hc
        go_wp2_with fail
        go_round
        case rel => exact ⟨j, by go_num, by omega, by omega, Lib.hid fun i hi => by
          by_cases e : i = j
          · subst e; exact HY.out.1.symm
          · exact HZ.out i (by have := HY.out.2; omega)⟩
        case measure => simp [intOf]; omega
      · have he : ((y : Int) == 0) = false := by simp; omega
        have q1 : (k : Int) ≤ (c1 : Int) := by omega
        have q2 : (k : Int) ≤ (c2 : Int) := by omega
        have q0 : (0 : Int) ≤ (k : Int) := by omega
        go_upto_region 4 with (fail)
        go_region
        go_wp2_with fail
        have HB3 := ((HBR.out.set_ 0 (.slice (some ⟨p, off, none⟩) k c1)).set_ 1 (.slice (some ⟨p2, off2, none⟩) k c2)).drew
        have hb := ((HXB.out.setCell (p := ⟨w.heap.size + 1, 0, none⟩) (Nat.le_succ _) (.slice (some ⟨p, off, none⟩) k c1)).setCell (p := ⟨w.heap.size + 1, 1, none⟩) (Nat.le_succ _) (.slice (some ⟨p2, off2, none⟩) k c2)).drew
        exact code_ret rfl rfl rfl HB3 info_code ⟨k, rfl, hk1, hk, HZ.out, .inr (show 1 ≤ ls.getD (k - 1) 0 from by rw [← HY.out.2, ← HY.out.1]; omega), (HH.out.below hb).trim hk HZ.out, hb⟩
    · have q1 : (k : Int) ≤ (c1 : Int) := by omega
      have q2 : (k : Int) ≤ (c2 : Int) := by omega
      have q0 : (0 : Int) ≤ (k : Int) := by omega
      go_upto_region 4 with (fail)
      go_region
      go_wp2_with fail
      have HB3 := ((HBR.out.set_ 0 (.slice (some ⟨p, off, none⟩) k c1)).set_ 1 (.slice (some ⟨p2, off2, none⟩) k c2)).drew
      have hb := ((HXB.out.setCell (p := ⟨w.heap.size + 1, 0, none⟩) (Nat.le_succ _) (.slice (some ⟨p, off, none⟩) k c1)).setCell (p := ⟨w.heap.size + 1, 1, none⟩) (Nat.le_succ _) (.slice (some ⟨p2, off2, none⟩) k c2)).drew
      exact code_ret rfl rfl rfl HB3 info_code ⟨k, rfl, hk1, hk, HZ.out, .inl (by omega), (HH.out.below hb).trim hk HZ.out, hb⟩
end Go.Proofs.YtbjjkhlebdaoaaaDoor.BlkC
end
