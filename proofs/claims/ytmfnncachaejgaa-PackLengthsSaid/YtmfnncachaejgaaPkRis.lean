/-
  pack.rising: the symbols that occur, the rarest first.
-/
import Derived.Test.YtmfnncachaejgaaPkSta
import Derived.Test.YtmfnncachaejgaaPkMath
import Derived.Test.YtmfnncachaejgaaPkMrg
namespace Go.Proofs.Ytmfnncachaejgaa.PkC
open Go.Shelf Go.RowKit Go.Lib Go.Sort Go.My PackMath

/-! ### plain -/
/-- The symbols that occur, of the first k. -/
def pos (cs : List Nat) (k : Nat) : List Nat := (List.range k).filter fun i => decide (0 < cs.getD i 0)
theorem pos_zero (cs : List Nat) : pos cs 0 = [] := rfl
theorem pos_yes (cs : List Nat) (k : Nat) (h : 0 < cs.getD k 0) : pos cs (k + 1) = pos cs k ++ [k] := by
  simp only [pos, List.range_succ, List.filter_append, List.filter_cons, List.filter_nil]
  rw [if_pos (decide_eq_true h)]
theorem pos_no (cs : List Nat) (k : Nat) (h : ¬ 0 < cs.getD k 0) : pos cs (k + 1) = pos cs k := by
  simp only [pos, List.range_succ, List.filter_append, List.filter_cons, List.filter_nil]
  rw [if_neg (by rw [decide_eq_false h]; simp), List.append_nil]
theorem pos_len (cs : List Nat) (k : Nat) : (pos cs k).length ≤ k := by
  have := List.length_filter_le (fun i => decide (0 < cs.getD i 0)) (List.range k)
  simpa [pos] using this
theorem pos_lt (cs : List Nat) (k i : Nat) (h : i ∈ pos cs k) : i < k ∧ 0 < cs.getD i 0 := by
  simpa [pos] using h

/-! ### a row behind a sort -/
section
variable {α : Type} [Inhabited α] {enc : α → Value} {w : World} {g m : Nat} {os : Array Obj} {cur : Array Value} {e : TypeId} {d : Array α}
theorem sort_heap (hb : w.heap[g]? = some (.cells cur e (0, 0))) : (sortWorld enc w g 0 m d os).heap[g]? = some (.cells (putCells enc 0 d cur) e (0, 0)) := by
  have hg : g < w.heap.size := (Array.getElem?_eq_some_iff.1 hb).1
  unfold sortWorld
  rw [heap_grow_old _ _ (by rw [size_putRow]; exact hg)]
  simp [putRow, mapBlock, Sort.ahead, Array.getElem?_modify, hb, onCells]
theorem sort_grown : w.grownBy (sortWorld enc w g 0 m d os) (some g) := by
  unfold sortWorld
  refine ⟨rfl, rfl, rfl, by rw [size_grow, size_putRow]; show w.heap.size ≤ w.heap.size + _; omega, fun k hk hne => ?_⟩
  rw [heap_grow_old _ _ (by rw [size_putRow]; exact hk)]
  have : g ≠ k := fun e => hne (by rw [e])
  simp [putRow, mapBlock, Sort.ahead, Array.getElem?_modify, this]
theorem sort_take (h : d.size ≤ cur.size) : (putCells enc 0 d cur).toList.take d.size = d.toList.map enc := by
  apply List.ext_getElem?
  intro j
  by_cases hj : j < d.size
  · rw [List.getElem?_take_of_lt hj, Array.getElem?_toList]
    simp [putCells, hj, show j < cur.size by omega]
  · rw [List.getElem?_take_eq_none (by omega), List.getElem?_eq_none (by simp; omega)]
theorem sort_own {base cap : Nat} {vs : List Value} (h : OwnV e base w (.slice (some ⟨g, 0, none⟩) d.size cap) vs) (hv : vs.length = d.size) : OwnV e base (sortWorld enc w g 0 m d os) (.slice (some ⟨g, 0, none⟩) d.size cap) (d.toList.map enc) := by
  rcases h.2 with ⟨h', _⟩ | ⟨g', cap', cur, h', hbs, hg, hle, hm, hs, ht⟩
  · cases h'
  · simp only [Value.slice.injEq, Option.some.injEq, Addr.mk.injEq, and_true] at h'
    obtain ⟨rfl, h1, rfl⟩ := h'
    refine ⟨by simp, .inr ⟨g, cap, _, by simp, hbs, sort_heap hg, by simp; omega, hm, by simp [putCells, hs], ?_⟩⟩
    rw [List.length_map, Array.length_toList, Nat.mul_one]
    exact sort_take (by omega)
theorem sort_holds {base cap : Nat} {vs : List Value} (h : OwnV e base w (.slice (some ⟨g, 0, none⟩) d.size cap) vs) (hv : vs = d.toList.map enc) : Holds enc w g 0 d := by
  intro j hj
  have hl : vs.length = d.size := by rw [hv]; simp
  refine ⟨?_, ?_⟩
  · rw [Nat.zero_add, h.cell hl j (by omega)]
    subst hv
    simp [getElem!_pos d j hj]
  · rw [Nat.zero_add]
    exact h.free hl j
end
theorem perm_list {α : Type} [Inhabited α] {d d' : Array α} (h : PermIn 0 d.size d d') : d'.toList.Perm d.toList := by
  have h3 := h.2.2
  rw [show d.size = d'.size from h.1.symm] at h3
  rw [Array.extract_size] at h3
  rw [show d'.size = d.size from h.1, Array.extract_size] at h3
  exact h3
theorem rise_srt {n : Nat} [NeZero n] {cs : List Nat} {d : Array (Fin n)} (h : Rise (fun x => ((cs.getD x.val 0 : Nat) : Int)) 0 d.size d) : Srt ((d.toList.map (·.val)).map (cs.getD · 0)) := by
  rw [Srt, List.pairwise_iff_getElem]
  intro i j hi hj hij
  have hj' : j < d.size := by simpa using hj
  have := h i j (Nat.zero_le _) hij hj'
  rw [getElem!_pos d i (by omega), getElem!_pos d j hj'] at this
  simp only [List.getElem_map, Array.getElem_toList]
  exact Int.ofNat_le.1 this
theorem vals_of (n : Nat) [NeZero n] (l : List Nat) (h : ∀ x ∈ l, x < n) : (l.map (fun i => Fin.ofNat n i)).map (·.val) = l := by
  rw [List.map_map]
  conv => rhs; rw [← List.map_id l]
  refine List.map_congr_left fun x hx => ?_
  simp only [Function.comp, Fin.val_ofNat, id]
  exact Nat.mod_eq_of_lt (h x hx)
theorem enc_lv {n : Nat} (l : List (Fin n)) : l.map encF = lv (l.map (·.val)) := by
  unfold lv encF
  rw [List.map_map]; rfl

theorem lit_row (w : World) (i : Nat) : RowIn (w.alloc (.cells #[.int .i64 (i : Int)] 3)) (some ⟨w.heap.size, 0, none⟩) 1 1 (lv [i]) := by
  have := OwnV.lit (base := 0) 3 w #[.int .i64 (i : Int)] (Nat.zero_le _) (by simp)
  exact this.rowIn rfl
theorem lv_one (l : List Nat) : ∀ u ∈ lv l, u.oneCell' = true := by
  intro u hu
  obtain ⟨x, _, rfl⟩ := List.mem_map.1 hu
  rfl
theorem lv_len (l : List Nat) : (lv l).length = l.length := by simp [lv]
theorem lv_append (a b : List Nat) : lv (a ++ b) = lv a ++ lv b := by simp [lv]
theorem info_int' : (Try.prog.info? 3).map (fun i => (i.zero, i.size, i.bytes)) = some (some (.int .i64 0), 1, 8) := by kernel_rfl
theorem own_far {base : Nat} {w : World} {v : Value} {vs : List Value} {g : Nat} {t : TypeId} {cs : Array Value} (ho : OwnV 3 base w v vs) (hb : Blk w g t cs) (ht : t ≠ 3) : v.ownBlock ≠ some g := by
  rcases ho.2 with ⟨rfl, _⟩ | ⟨g', cap, cur, rfl, _, hgg, _⟩
  · simp [Value.ownBlock]
  · intro h
    simp only [Value.ownBlock, Option.some.injEq] at h
    subst h
    unfold Blk at hb
    rw [hgg] at hb
    injection hb with hb
    injection hb with _ hb
    exact ht hb.symm
/-- The sort of the symbols that occur, in the world behind the box and the row. -/
theorem sorted_any (cs : List Nat) (cb co len cap B bc g rc : Nat) (w : World) (hC : RowIn w (some ⟨cb, co, none⟩) len cap (lv cs)) (hcb : cb < B) (hbc : bc < B) (hx : Blk w bc 22 #[.slice (some ⟨cb, co, none⟩) len cap])
    (ho : OwnV 3 B w (.slice (some ⟨g, 0, none⟩) (pos cs cs.length).length rc) (lv (pos cs cs.length))) (hn : cs.length ≤ 1000) (h0 : 0 < (pos cs cs.length).length) (hBw : B ≤ w.heap.size) :
    Calls Try.prog 19 #[.slice (some ⟨g, 0, none⟩) (pos cs cs.length).length rc, .func (.func 20) #[] #[.pointer (some ⟨bc, 0, none⟩)]] w fun e w' => e = .returned (.tuple #[]) ∧
      ∃ ord : List Nat, ord.Perm (pos cs cs.length) ∧ Srt (ord.map (cs.getD · 0)) ∧ OwnV 3 B w' (.slice (some ⟨g, 0, none⟩) (pos cs cs.length).length rc) (lv ord) ∧ Below B w w' := by
  have hlen : cs.length = len := by rw [← hC.len_eq, lv_len]
  have hcn : cs.length ≠ 0 := by have := pos_len cs cs.length; omega
  haveI : NeZero cs.length := ⟨hcn⟩
  obtain ⟨d, hd⟩ : ∃ d : Array (Fin cs.length), d = ((pos cs cs.length).map (fun i => Fin.ofNat cs.length i)).toArray := ⟨_, rfl⟩
  have hds : d.size = (pos cs cs.length).length := by rw [hd]; simp
  have hvl : d.toList.map (·.val) = pos cs cs.length := by
    rw [hd]
    exact vals_of _ _ fun x hx => (pos_lt _ _ _ hx).1
  have hen : lv (pos cs cs.length) = d.toList.map encF := by rw [enc_lv, hvl]
  rw [← hds] at ho ⊢
  have hgB : B ≤ g := by
    have := ho.base g rfl
    exact this
  have hbox : Box w g bc cb co len cap cs.length (fun x => ((cs.getD x.val 0 : Nat) : Int)) := by
    refine ⟨by omega, by rw [hx.cell]; rfl, fun x => ?_, by omega, by omega⟩
    have := hC.get x.val (by rw [lv_len]; exact x.2)
    rw [this]
    simp [lv]
  refine (sort_any (cap := rc) hbox (sort_holds ho hen) (ho.lt g rfl) rfl (by have := pos_len cs cs.length; omega)).mono ?_
  rintro e w' ⟨rfl, d', h1, h2, h3, m, os, rfl⟩
  refine ⟨rfl, d'.toList.map (·.val), ?_, ?_, ?_, ?_⟩
  · rw [← hvl]; exact (perm_list h2).map _
  · rw [← h1] at h3; exact rise_srt h3
  · rw [← enc_lv, ← h1]
    rw [← h1] at ho
    exact sort_own ho (by rw [lv_len, ← hds, h1])
  · exact (Below.refl B w).grown sort_grown hBw (fun k e => by injection e with e; omega)
set_option maxRecDepth 100000 in
set_option maxHeartbeats 8000000 in
theorem rising_any (cs : List Nat) (a : Option Addr) (len cap : Nat) (w : World) (hC : RowIn w a len cap (lv cs)) (hn : cs.length ≤ 1000) :
    Calls Try.prog 15 #[.slice a len cap] w fun e w' => ∃ v, e = .returned v ∧ ∃ ord : List Nat, ord.Perm (pos cs cs.length) ∧ Srt (ord.map (cs.getD · 0)) ∧ OwnV 3 w.heap.size w' v (lv ord) ∧ Below w.heap.size w w' := by
  have HC := Lib.hid hC
  have hlen : cs.length = len := by rw [← hC.len_eq, lv_len]
  have HLE := Lib.hid hlen
  have HN : Hid (len ≤ 1000) := Lib.hid (by omega)
  have hl1000 : len ≤ 1000 := by omega
  clear hC hn hlen
  go_enter Try.func15, Try.ntmps15
  go_upto_region 1 with (fail)
  obtain ⟨w1, hw1⟩ : ∃ w1, w1 = w.alloc (.cells #[.slice a len cap] 22) := ⟨_, rfl⟩
  obtain ⟨bc, hbc⟩ : ∃ b, b = w.heap.size := ⟨_, rfl⟩
  have HX1 : Hid (Blk w1 bc 22 #[.slice a len cap]) := Lib.hid (by rw [hw1, hbc]; exact Blk.new w _ _)
  have HB1 : Hid (Below w.heap.size w w1) := Lib.hid (by rw [hw1]; exact (Below.refl _ w).alloc (Nat.le_refl _) _)
  have HBC : Hid (bc = w.heap.size ∧ bc < w1.heap.size) := Lib.hid ⟨hbc, HX1.out.lt⟩
  have hc1 : w1.cell? ⟨bc, 0, none⟩ = some (.slice a len cap) := by rw [HX1.out.cell]; rfl
  rw [← hw1, ← hbc]
  clear hw1 hbc
  go_wp2_with fail
  clear hc1
  have HO1 : Hid (OwnV 3 w1.heap.size w1 (.slice none 0 0) (lv (pos cs 0))) := Lib.hid (OwnV.nil _ _ _)
  go_loopw [8, 3, 4, 5] (fun s8 s3 _ _ wr => ∃ (i : Nat) (ad : Option Addr) (n c : Nat), s8 = .int .i64 (i : Int) ∧ s3 = .slice ad n c ∧ i ≤ len ∧ Hid ((pos cs i).length = n) ∧ Hid (OwnV 3 w1.heap.size wr (.slice ad n c) (lv (pos cs i))) ∧ Hid (Below w1.heap.size w1 wr)) (fun s _ _ _ _ => len - (intOf s).toNat)
  case atStart => exact ⟨0, none, 0, 0, rfl, rfl, Nat.zero_le _, Lib.hid rfl, HO1, Lib.hid (Below.refl _ _)⟩
  case round =>
    clear HO1
    obtain ⟨i, ad, n, c, rfl, rfl, hi, HP, HO, HB⟩ := hrel
    by_cases hlt : i < len
    · have hlti : (i : Int) < (len : Int) := by omega
      have hR := (HC.out.below (Nat.le_refl _) HB1.out).below (Nat.le_refl _) HB.out
      obtain ⟨cb, co, rfl⟩ := hR.some_ (by omega)
      obtain ⟨x, hx⟩ : ∃ x, x = cs.getD i 0 := ⟨_, rfl⟩
      have hc1 : wr.cell? ⟨cb, co + i, none⟩ = some (.int .i64 (x : Int)) := by
        have h := hR.get i (by rw [lv_len, HLE.out]; exact hlt)
        rw [h, hx]
        have : i < cs.length := by rw [HLE.out]; exact hlt
        simp [lv, List.getD_eq_getElem?_getD, this]
      clear hR
      by_cases h0 : 0 < x
      · as_aux_lemma =>
        have h0i : (0 : Int) < (x : Int) := by omega
        have HPS : Hid (pos cs (i + 1) = pos cs i ++ [i]) := Lib.hid (pos_yes cs i (by rw [← hx]; exact h0))
        have HR2 : Hid (RowIn (wr.alloc (.cells #[.int .i64 (i : Int)] 3)) (some ⟨wr.heap.size, 0, none⟩) 1 1 (lv [i])) := Lib.hid (lit_row wr i)
        have HO2 : Hid (OwnV 3 w1.heap.size (wr.alloc (.cells #[.int .i64 (i : Int)] 3)) (.slice ad n c) (lv (pos cs i))) := Lib.hid (HO.out.below (Nat.le_refl _) ((Below.refl _ wr).alloc (Nat.le_refl _) _))
        have HB2 : Hid (Below w1.heap.size w1 (wr.alloc (.cells #[.int .i64 (i : Int)] 3))) := Lib.hid (HB.out.alloc HB.out.size _)
        have hpl := pos_len cs i
        have HPL := Lib.hid hpl
        clear hx hpl
        go_wp2_with (at_builtin; refine wpList_append_row (by rfl) (.tmp 15) (.tmp 17) 22 rfl w1.heap.size 3 (.int .i64 0) 8 Try.underlying22 info_int' rfl (.slice ad n c) (lv (pos cs i)) rfl HO2.out (some ⟨wr.heap.size, 0, none⟩) 1 1 (lv [i]) rfl HR2.out (lv_one _) (by rw [lv_len]; have := HPL.out; have := HN.out; omega) (by rw [lv_len]; have := HPL.out; have := HN.out; omega) HB2.out.size ?_)
        intro a7 c7 w7 hown hgrow _
        rw [lv_len] at hown
        have HO7 : Hid (OwnV 3 w1.heap.size w7 (.slice a7 ((pos cs i).length + 1) c7) (lv (pos cs (i + 1)))) := Lib.hid (by rw [HPS.out, lv_append]; exact hown)
        have HB7 := Lib.hid (HO2.out.grown HB2.out hgrow HB2.out.size)
        rw [lv_len]
        clear hown hgrow HO2 HB2 HR2 hc1 HO HB
        rw [HP.out] at HO7
        rw [HP.out]
        go_wp2_with fail
        go_roundw
        case measure => simp [intOf]; omega
        case rel => exact ⟨i + 1, a7, n + 1, c7, by simp, by simp, by omega, Lib.hid (by rw [HPS.out, List.length_append, HP.out]; rfl), HO7, HB7⟩
      · as_aux_lemma =>
        have h0i : ¬ (0 : Int) < (x : Int) := by omega
        have HPS : Hid (pos cs (i + 1) = pos cs i) := Lib.hid (pos_no cs i (by rw [← hx]; exact h0))
        clear hx
        go_wp2_with fail
        go_roundw
        case measure => simp [intOf]; omega
        case rel => exact ⟨i + 1, ad, n, c, by simp, rfl, by omega, Lib.hid (by rw [HPS.out]; exact HP.out), Lib.hid (by rw [HPS.out]; exact HO.out), HB⟩
    · have hlti : ¬ (i : Int) < (len : Int) := by omega
      have HI : Hid (i = cs.length) := Lib.hid (by have := HLE.out; omega)
      clear hlt
      by_cases h0 : n = 0
      · as_aux_lemma =>
        have hS := sort_none ad c (.func (.func 20) #[] #[.pointer (some ⟨bc, 0, none⟩)]) wr
        have HS := Lib.hid hS
        clear hS
        subst h0
        go_wp2_with fail
        refine HS.out.mono ?_
        rintro e w' ⟨rfl, rfl⟩
        go_wp2_with fail
        go_ret
        have hp0 : pos cs cs.length = [] := by rw [← HI.out]; exact List.length_eq_zero_iff.1 HP.out
        refine ⟨_, rfl, [], by rw [hp0], List.Pairwise.nil, ?_, HB1.out.trans (HB.out.mono HB1.out.size)⟩
        have := HO.out
        rw [HI.out, hp0] at this
        rcases this.2 with h | ⟨g', cap, cur, h, hb, rest⟩
        · exact ⟨this.1, .inl h⟩
        · exact ⟨this.1, .inr ⟨g', cap, cur, h, by have := HBC.out; have := HB1.out.size; omega, rest⟩⟩
      · have HI2 := HI.out
        subst HI2
        have hlen0 : 0 < len := by have := pos_len cs cs.length; have := HP.out; have := HLE.out; omega
        obtain ⟨cb, co, rfl⟩ := HC.out.some_ hlen0
        obtain ⟨g, cp, hv, hgB, _⟩ := HO.out.form (by have := HP.out; rw [lv_len]; omega)
        rw [lv_len, HP.out] at hv
        simp only [Value.slice.injEq, true_and] at hv
        obtain ⟨rfl, rfl⟩ := hv
        have ho := HO.out
        rw [← HP.out] at ho
        have hS := sorted_any cs cb co len cap w1.heap.size bc g c wr ((HC.out.below (Nat.le_refl _) HB1.out).below (Nat.le_refl _) HB.out) (Nat.lt_of_lt_of_le (HC.out.lt hlen0) HB1.out.size) HBC.out.2 (HX1.out.same (HB.out.block _ HBC.out.2)) ho (by have := HLE.out; omega) (by have := HP.out; omega) HB.out.size
        rw [HP.out] at hS
        have HS := Lib.hid hS
        clear hS ho hgB hlen0
        go_wp2_with fail
        refine HS.out.mono ?_
        rintro e w' ⟨rfl, ord, h1, h2, h3, h4⟩
        have HG : Hid (ord.Perm (pos cs cs.length) ∧ Srt (ord.map (cs.getD · 0)) ∧ OwnV 3 w1.heap.size w' (.slice (some ⟨g, 0, none⟩) n c) (lv ord) ∧ Below w1.heap.size wr w') := Lib.hid ⟨h1, h2, h3, h4⟩
        clear h1 h2 h3 h4 HS
        go_wp2_with fail
        go_ret
        obtain ⟨h1, h2, h3, h4⟩ := HG.out
        refine ⟨_, rfl, ord, h1, h2, ?_, HB1.out.trans ((HB.out.trans h4).mono HB1.out.size)⟩
        rcases h3.2 with h | ⟨g', cap', cur, h, hb, rest⟩
        · exact ⟨h3.1, .inl h⟩
        · exact ⟨h3.1, .inr ⟨g', cap', cur, h, by have := HB1.out.size; omega, rest⟩⟩
end Go.Proofs.Ytmfnncachaejgaa.PkC
