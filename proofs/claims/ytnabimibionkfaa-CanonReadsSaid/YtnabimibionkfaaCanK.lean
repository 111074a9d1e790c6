/-
  CanonKinds' law.
-/
import Derived.Test.YtnabimibionkfaaCanT
namespace Go.Proofs.Ytnabimibionkfaa.CanC
open Go.RowKit Go.My BitMath CanMath

/-- A slice of ints that came in (what the frame of a law hands over). -/
theorem ints_row {w : World} {a : Option Addr} {len cap : Nat} {zs : List Int}
    (h : (a = none ∧ len = 0 ∧ cap = 0 ∧ zs = []) ∨
      ∃ x, a = some x ∧ len ≤ cap ∧ cap ≤ maxLen ∧ zs.length = cap ∧ (∀ i, i < zs.length → w.cell? (x.add i) = some (.int .i64 (zs.getD i 0))) ∧ ∀ n ∈ zs, (Lit.int .i64 n).wf = true) : ∃ ys : List Int, RowIn w a len cap (ys.map iv) ∧ ∀ y ∈ ys, -9223372036854775808 ≤ y ∧ y ≤ 9223372036854775807 := by
  rcases h with ⟨rfl, rfl, rfl, rfl⟩ | ⟨x, rfl, h1, h2, h3, h4, h5⟩
  · exact ⟨[], RowIn.none_ w, fun y hy => by simp at hy⟩
  · unfold maxLen at h2
    refine ⟨zs.take len, ?_, fun y hy => wf_int (h5 y (List.mem_of_mem_take hy))⟩
    refine ⟨by simp; omega, h1, h2, (fun h => by cases h), ?_⟩
    by_cases h0 : len = 0
    · exact .inl h0
    · right
      obtain ⟨b, off, spot⟩ := x
      have hc := h4 0 (by omega)
      obtain rfl : spot = Option.none := by simpa [Addr.add] using World.cell?_spot hc
      refine ⟨b, off, rfl, block_lt_of_cell hc, fun i hi => ?_⟩
      have hi' : i < zs.length := by simp at hi; omega
      have := h4 i hi'
      rw [addr_add] at this
      rw [this, List.getElem_map, List.getElem_take, List.getD_eq_getElem?_getD, List.getElem?_eq_getElem hi']
      rfl

theorem info_int : (Try.prog.info? 3).map (fun i => (i.zero, i.size, i.bytes)) = some (some (.int .i64 0), 1, 8) := by kernel_rfl
theorem iv_one (l : List Int) : ∀ u ∈ l.map iv, u.oneCell' = true := by
  intro u hu
  obtain ⟨z, _, rfl⟩ := List.mem_map.1 hu
  rfl
/-- The lowest four bits of the first k. -/
def ms (zs : List Int) (k : Nat) : List Int := (zs.take k).map (· % 16)
theorem ms_len (zs : List Int) (k : Nat) (h : k ≤ zs.length) : (ms zs k).length = k := by simp [ms]; omega
theorem ms_succ (zs : List Int) (k : Nat) (h : k < zs.length) : ms zs k ++ [zs[k] % 16] = ms zs (k + 1) := by
  unfold ms; rw [List.take_succ_eq_append_getElem h, List.map_append]; rfl
theorem ms_good (zs : List Int) (k : Nat) (h : k ≤ 65536) : Good (ms zs k) := by
  refine ⟨by unfold ms; rw [List.length_map, List.length_take]; omega, fun z hz => ?_⟩
  obtain ⟨y, _, rfl⟩ := List.mem_map.1 hz
  omega
theorem good_snoc {zs : List Int} (h : Good zs) (hl : zs.length < 65536) (m : Int) (h0 : 0 ≤ m) (h15 : m ≤ 15) : Good (zs ++ [m]) := by
  refine ⟨by simp; omega, fun z hz => ?_⟩
  rcases List.mem_append.1 hz with hz | hz
  · exact h.2 z hz
  · simp at hz; omega
theorem kr_snoc (zs : List Int) (m : Nat) : kr (nat (zs ++ [(m : Int)])) = kr (nat zs) + share m := by
  unfold nat; rw [List.map_append, kr_append]
  simp [kr]

theorem apart_next {E : TypeId} {base : Nat} {w : World} {v3 : Value} {vs : List Value} {n c : Nat} {a : Option Addr} (h : OwnV E base w (.slice a n c) vs) (hn : Nxt (some w.heap.size) (w.heap.size + 1) v3.ownBlock) : ∀ j, (Value.slice a n c).ownBlock = some j → v3.ownBlock ≠ some j := by
  intro j hj e
  have := h.lt j hj
  rcases hn with hn | ⟨k, hk, hk2⟩
  · rw [hn] at e; injection e with e; omega
  · rw [hk] at e; injection e with e; omega
theorem kept_apart {E : TypeId} {base : Nat} {w w' : World} {v v3 : Value} {vs : List Value} (h : OwnV E base w v vs) (hg : w.grownBy w' v3.ownBlock) (hap : ∀ j, v.ownBlock = some j → v3.ownBlock ≠ some j) : OwnV E base w' v vs :=
  h.kept hg (by
    rcases hq : v.ownBlock with _ | j
    · exact .inl rfl
    · exact .inr (fun e => hap j hq e.symm))

set_option maxRecDepth 100000 in
set_option maxHeartbeats 8000000 in
theorem kinds_law (a : Option Addr) (len cap : Nat) (zs : List Int) (n : Int) (w : World) (h : RowIn w a len cap (zs.map iv)) :
    Calls Try.prog 5 #[.slice a len cap, .int .i64 n] w fun e w' => e = .returned (.bool true) ∧ Below w.heap.size w w' := by
  have hzl : zs.length = len := by have := h.len_eq; simpa using this
  have hlc := h.le_cap
  have hcl := h.cap_le
  have HZ := Lib.hid hzl
  have HR := Lib.hid h
  clear h hzl
  go_enter Try.func5, Try.ntmps5
  by_cases hbig : 100 < len
  · go_wp2_with fail
    refine (told_any w).mono ?_
    rintro e w' ⟨rfl, hb⟩
    have HB := Lib.hid hb
    clear hb
    go_wp2_with fail
    go_ret
    exact ⟨rfl, HB.out⟩
  go_wp2_with fail
  go_loopw [5, 6] (fun l i wr => ∃ (k : Nat) (a' : Option Addr) (c' : Nat), k ≤ len ∧ i = .int .i64 (k : Int) ∧ l = .slice a' k c' ∧ Hid (OwnV 3 w.heap.size wr (.slice a' k c') ((ms zs k).map iv)) ∧ Hid (Below w.heap.size w wr)) (fun _ i _ => len - (intOf i).toNat)
  case atStart => exact ⟨0, none, 0, Nat.zero_le _, rfl, rfl, Lib.hid (OwnV.nil _ _ _), Lib.hid (Below.refl _ w)⟩
  case round =>
    obtain ⟨k, a', c', hk, rfl, rfl, HO, HB⟩ := hrel
    by_cases hlt : k < len
    · obtain ⟨b, off, rfl⟩ := HR.out.some_ (by omega)
      have hkz : k < zs.length := by rw [HZ.out]; exact hlt
      have hcz : wr.cell? ⟨b, off + k, none⟩ = some (.int .i64 zs[k]) := by
        rw [HB.out.cell (p := ⟨b, off + k, none⟩) (HR.out.lt (by omega)), HR.out.get k (by simpa using hkz)]
        simp [iv]
      have hand := i64_and_mask zs[k] 4 (by omega) 15 16 rfl rfl
      have HMS := Lib.hid (ms_succ zs k hkz)
      have HML := Lib.hid (ms_len zs k (by rw [HZ.out]; omega))
      generalize zs[k] = z at *
      have HO1 : Hid (OwnV 3 w.heap.size (wr.alloc (.cells #[.int .i64 (z % 16)] 3)) (.slice a' k c') ((ms zs k).map iv)) := Lib.hid (HO.out.below (Nat.le_refl _) ((Below.refl _ wr).alloc (Nat.le_refl _) _))
      have HR1 : Hid (RowIn (wr.alloc (.cells #[.int .i64 (z % 16)] 3)) (some ⟨wr.heap.size, 0, none⟩) 1 1 (([z % 16] : List Int).map iv)) := Lib.hid (row_new wr 3 #[.int .i64 (z % 16)] (by simp))
      have HB1 : Hid (Below w.heap.size w (wr.alloc (.cells #[.int .i64 (z % 16)] 3))) := Lib.hid (HB.out.alloc HB.out.size _)
      have HML2 : Hid (((ms zs k).map iv).length = k) := Lib.hid (by rw [List.length_map, HML.out])
      clear hkz
      go_wp2_with (at_builtin; refine wpList_append_row (by rfl) (.tmp 19) (.tmp 25) 22 rfl w.heap.size 3 (.int .i64 0) 8 Try.underlying22 info_int rfl (.slice a' k c') ((ms zs k).map iv) rfl HO1.out (some ⟨wr.heap.size, 0, none⟩) 1 1 (([z % 16] : List Int).map iv) rfl HR1.out (iv_one _) (by rw [HML2.out]; omega) (by rw [HML2.out]; omega) HB1.out.size ?_)
      rw [HML.out]
      intro a2 c2 w2 hown2 hg2 _
      have HO2 : Hid (OwnV 3 w.heap.size w2 (.slice a2 (k + 1) c2) ((ms zs (k + 1)).map iv)) := Lib.hid (by rw [← HMS.out, List.map_append]; exact hown2)
      have HB2 : Hid (Below w.heap.size w w2) := Lib.hid (OwnV.grown HO1.out HB1.out hg2 HB1.out.size)
      clear hown2 hg2 HO1 HR1 HB1 HO HB
      go_wp2_with fail
      go_roundw
      case rel => exact ⟨k + 1, a2, c2, by omega, by go_num, rfl, HO2, HB2⟩
      case measure => simp [intOf]; omega
    · obtain rfl : k = len := by omega
      have HG := Lib.hid (ms_good zs k (by omega))
      have HML := Lib.hid (ms_len zs k (by rw [HZ.out]; omega))
      generalize ms zs k = L at *
      obtain ⟨q, hq, hqe⟩ : ∃ q : Nat, q < 15 ∧ (IntKind.u64.wrap n).tmod 15 = (q : Int) := by
        refine ⟨((IntKind.u64.wrap n) % 15).toNat, by omega, ?_⟩
        rw [Int.tmod_eq_emod_of_nonneg (by rw [IntKind.wrap_u64]; omega)]
        omega
      have HRL : Hid (RowIn wr a' k c' (L.map iv)) := Lib.hid (HO.out.rowIn (by rw [List.length_map, HML.out]))
      go_wp2_with fail
      obtain ⟨m, hm, hm1, hm15⟩ : ∃ m : Nat, 1 + (q : Int) = (m : Int) ∧ 1 ≤ m ∧ m ≤ 15 := ⟨1 + q, by omega, by omega, by omega⟩
      rw [hm]
      clear hm hqe hq
      refine (kraft_good HRL.out HG.out).mono ?_
      rintro e w1 ⟨rfl, hb1⟩
      have HB1 := Lib.hid (HB.out.trans (hb1.mono HB.out.size))
      have HO1 := Lib.hid (HO.out.below (Nat.le_refl _) hb1)
      have HRL1 := Lib.hid (HRL.out.below (Nat.le_refl _) hb1)
      have hkr : kr (nat L) ≤ 16384 * 100 := Nat.le_trans (kr_le _) (Nat.mul_le_mul_left _ (by rw [nat_len, HML.out]; omega))
      have HKN : Hid (kindN (nat L) = if 32768 < kr (nat L) then 4 else if kr (nat L) = 0 then 0 else if kr (nat L) = 32768 then 1 else if kr (nat L) = 16384 ∧ (nat L).count 1 = 1 then 2 else 3) := Lib.hid rfl
      have HKM : Hid (kr (nat (L ++ [(m : Int)])) = kr (nat L) + 2 ^ (15 - m)) := Lib.hid (by rw [kr_snoc, share_eq (by omega)])
      have HK0 : Hid (kr (nat (L ++ [(0 : Int)])) = kr (nat L)) := Lib.hid (kr_snoc L 0)
      have HG1 : Hid (Good (L ++ [(m : Int)])) := Lib.hid (good_snoc HG.out (by rw [HML.out]; omega) _ (by omega) (by omega))
      have HG0 : Hid (Good (L ++ [(0 : Int)])) := Lib.hid (good_snoc HG.out (by rw [HML.out]; omega) _ (by omega) (by omega))
      have HML2 : Hid ((L.map iv).length = k) := Lib.hid (by rw [List.length_map, HML.out])
      clear hb1 HRL HO HB
      generalize kr (nat L) = K at *
      obtain ⟨X, hX⟩ : ∃ X, X = kindN (nat L) := ⟨_, rfl⟩
      rw [← hX] at HKN
      have HXE := Lib.hid hX
      clear hX
      -- append(append([]int{}, l...), m)
      have HE : Hid (OwnV 3 w.heap.size (w1.alloc (.cells #[] 3)) (.slice (some ⟨w1.heap.size, 0, none⟩) 0 0) []) := Lib.hid (OwnV.lit 3 w1 #[] HB1.out.size (by simp))
      have HRE : Hid (RowIn (w1.alloc (.cells #[] 3)) a' k c' (L.map iv)) := Lib.hid (HRL1.out.below (Nat.le_refl _) ((Below.refl _ w1).alloc (Nat.le_refl _) _))
      have HBE : Hid (Below w.heap.size w (w1.alloc (.cells #[] 3))) := Lib.hid (HB1.out.alloc HB1.out.size _)
      go_wp2_with (at_builtin; refine wpList_append_row (by rfl) (.tmp 34) (.tmp 35) 22 rfl w.heap.size 3 (.int .i64 0) 8 Try.underlying22 info_int rfl (.slice (some ⟨w1.heap.size, 0, none⟩) 0 0) [] rfl HE.out a' k c' (L.map iv) rfl HRE.out (iv_one _) (by simp; omega) (by simp; omega) HBE.out.size ?_)
      intro a3 c3 w3 hown3 hg3 hn3
      have HO3 := Lib.hid hown3
      have HAP : Hid (∀ j, (Value.slice a' k c').ownBlock = some j → (Value.slice a3 k c3).ownBlock ≠ some j) := Lib.hid (apart_next HO1.out hn3)
      have HB3 : Hid (Below w.heap.size w w3) := Lib.hid (OwnV.grown HE.out HBE.out hg3 HBE.out.size)
      have HL3 : Hid (OwnV 3 w.heap.size w3 (.slice a' k c') (L.map iv)) := Lib.hid ((HO1.out.below (Nat.le_refl _) ((Below.refl _ w1).alloc (Nat.le_refl _) (.cells #[] 3))).kept hg3 (.inr (fun e => by
        have h1 := HO1.out.lt w1.heap.size (e.trans rfl)
        omega)))
      clear hown3 hg3 hn3 HE HRE HBE HRL1 HO1 HB1
      have HO4 : Hid (OwnV 3 w.heap.size (w3.alloc (.cells #[.int .i64 (m : Int)] 3)) (.slice a3 k c3) (L.map iv)) := Lib.hid (HO3.out.below (Nat.le_refl _) ((Below.refl _ w3).alloc (Nat.le_refl _) _))
      have HR4 : Hid (RowIn (w3.alloc (.cells #[.int .i64 (m : Int)] 3)) (some ⟨w3.heap.size, 0, none⟩) 1 1 (([(m : Int)] : List Int).map iv)) := Lib.hid (row_new w3 3 #[.int .i64 (m : Int)] (by simp))
      have HB4 : Hid (Below w.heap.size w (w3.alloc (.cells #[.int .i64 (m : Int)] 3))) := Lib.hid (HB3.out.alloc HB3.out.size _)
      have HL4 : Hid (OwnV 3 w.heap.size (w3.alloc (.cells #[.int .i64 (m : Int)] 3)) (.slice a' k c') (L.map iv)) := Lib.hid (HL3.out.below (Nat.le_refl _) ((Below.refl _ w3).alloc (Nat.le_refl _) _))
      go_wp2_with (at_builtin; refine wpList_append_row (by rfl) (.tmp 36) (.tmp 38) 22 rfl w.heap.size 3 (.int .i64 0) 8 Try.underlying22 info_int rfl (.slice a3 k c3) (L.map iv) rfl HO4.out (some ⟨w3.heap.size, 0, none⟩) 1 1 (([(m : Int)] : List Int).map iv) rfl HR4.out (iv_one _) (by rw [HML2.out]; omega) (by rw [HML2.out]; omega) HB4.out.size ?_)
      rw [HML.out]
      intro a5 c5 w5 hown5 hg5 _
      have HO5 : Hid (OwnV 3 w.heap.size w5 (.slice a5 (k + 1) c5) ((L ++ [(m : Int)]).map iv)) := Lib.hid (by rw [List.map_append]; exact hown5)
      have HR5 : Hid (RowIn w5 a5 (k + 1) c5 ((L ++ [(m : Int)]).map iv)) := Lib.hid (HO5.out.rowIn (by simp [HML.out]))
      have HB5 : Hid (Below w.heap.size w w5) := Lib.hid (OwnV.grown HO4.out HB4.out hg5 HB4.out.size)
      have HL5 : Hid (OwnV 3 w.heap.size w5 (.slice a' k c') (L.map iv)) := Lib.hid (kept_apart HL4.out hg5 HAP.out)
      clear hown5 hg5 HO3 HB3 HL3 HO4 HR4 HB4 HL4 HAP HO5
      have h15 : 2 ^ (15 - m) ≤ 2 ^ 14 := Nat.pow_le_pow_right (by omega) (by omega)
      have hp2 : (2 : Int) ^ (15 - m) = ((2 ^ (15 - m) : Nat) : Int) := by push_cast; rfl
      generalize 2 ^ (15 - m) = p at h15 hp2 HKM
      have hs1 : (15 - (m : Int)).toNat = 15 - m := by omega
      have hs2 : min (15 - m) 64 = 15 - m := by omega
      have hs3 : IntKind.i64.wrap (2 ^ (15 - m)) = (p : Int) := by rw [hp2, IntWalk.i64_in _ (by omega)]
      have hs4 : (1 : Int) * 2 ^ (15 - m) = (p : Int) := by rw [hp2]; omega
      clear hp2
      go_wp2_with fail
      refine (kraft_good HR5.out HG1.out).mono ?_
      rw [HKM.out]
      rintro e w6 ⟨rfl, hb6⟩
      have HB6 := Lib.hid (HB5.out.trans (hb6.mono HB5.out.size))
      have HL6 := Lib.hid (HL5.out.below (Nat.le_refl _) hb6)
      clear hb6 HR5 HB5 HL5
      -- append(append([]int{}, l...), 0)
      have HE : Hid (OwnV 3 w.heap.size (w6.alloc (.cells #[] 3)) (.slice (some ⟨w6.heap.size, 0, none⟩) 0 0) []) := Lib.hid (OwnV.lit 3 w6 #[] HB6.out.size (by simp))
      have HLE : Hid (OwnV 3 w.heap.size (w6.alloc (.cells #[] 3)) (.slice a' k c') (L.map iv)) := Lib.hid (HL6.out.below (Nat.le_refl _) ((Below.refl _ w6).alloc (Nat.le_refl _) _))
      have HRE : Hid (RowIn (w6.alloc (.cells #[] 3)) a' k c' (L.map iv)) := Lib.hid (HLE.out.rowIn HML2.out)
      have HBE : Hid (Below w.heap.size w (w6.alloc (.cells #[] 3))) := Lib.hid (HB6.out.alloc HB6.out.size _)
      go_wp2_with (at_builtin; refine wpList_append_row (by rfl) (.tmp 49) (.tmp 50) 22 rfl w.heap.size 3 (.int .i64 0) 8 Try.underlying22 info_int rfl (.slice (some ⟨w6.heap.size, 0, none⟩) 0 0) [] rfl HE.out a' k c' (L.map iv) rfl HRE.out (iv_one _) (by simp; omega) (by simp; omega) HBE.out.size ?_)
      intro a7 c7 w7 hown7 hg7 hn7
      have HO7 := Lib.hid hown7
      have HB7 : Hid (Below w.heap.size w w7) := Lib.hid (OwnV.grown HE.out HBE.out hg7 HBE.out.size)
      have HAP : Hid (∀ j, (Value.slice a' k c').ownBlock = some j → (Value.slice a7 k c7).ownBlock ≠ some j) := Lib.hid (apart_next HL6.out hn7)
      have HL7 : Hid (OwnV 3 w.heap.size w7 (.slice a' k c') (L.map iv)) := Lib.hid (HLE.out.kept hg7 (.inr (fun e => by
        have h1 := HL6.out.lt w6.heap.size (e.trans rfl)
        omega)))
      clear hown7 hg7 hn7 HE HRE HLE HBE HL6 HB6 hs1 hs2 hs3 hs4 h15
      have HO4 : Hid (OwnV 3 w.heap.size (w7.alloc (.cells #[.int .i64 0] 3)) (.slice a7 k c7) (L.map iv)) := Lib.hid (HO7.out.below (Nat.le_refl _) ((Below.refl _ w7).alloc (Nat.le_refl _) _))
      have HR4 : Hid (RowIn (w7.alloc (.cells #[.int .i64 0] 3)) (some ⟨w7.heap.size, 0, none⟩) 1 1 (([0] : List Int).map iv)) := Lib.hid (row_new w7 3 #[.int .i64 0] (by simp))
      have HB4 : Hid (Below w.heap.size w (w7.alloc (.cells #[.int .i64 0] 3))) := Lib.hid (HB7.out.alloc HB7.out.size _)
      have HL4 : Hid (OwnV 3 w.heap.size (w7.alloc (.cells #[.int .i64 0] 3)) (.slice a' k c') (L.map iv)) := Lib.hid (HL7.out.below (Nat.le_refl _) ((Below.refl _ w7).alloc (Nat.le_refl _) _))
      go_wp2_with (at_builtin; refine wpList_append_row (by rfl) (.tmp 51) (.tmp 52) 22 rfl w.heap.size 3 (.int .i64 0) 8 Try.underlying22 info_int rfl (.slice a7 k c7) (L.map iv) rfl HO4.out (some ⟨w7.heap.size, 0, none⟩) 1 1 (([0] : List Int).map iv) rfl HR4.out (iv_one _) (by rw [HML2.out]; omega) (by rw [HML2.out]; omega) HB4.out.size ?_)
      rw [HML.out]
      intro a8 c8 w8 hown8 hg8 _
      have HO8 : Hid (OwnV 3 w.heap.size w8 (.slice a8 (k + 1) c8) ((L ++ [(0 : Int)]).map iv)) := Lib.hid (by rw [List.map_append]; exact hown8)
      have HR8 : Hid (RowIn w8 a8 (k + 1) c8 ((L ++ [(0 : Int)]).map iv)) := Lib.hid (HO8.out.rowIn (by simp [HML.out]))
      have HB8 : Hid (Below w.heap.size w w8) := Lib.hid (OwnV.grown HO4.out HB4.out hg8 HB4.out.size)
      have HL8 : Hid (OwnV 3 w.heap.size w8 (.slice a' k c') (L.map iv)) := Lib.hid (kept_apart HL4.out hg8 HAP.out)
      clear hown8 hg8 HO7 HB7 HL7 HO4 HR4 HB4 HL4 HAP HO8
      go_wp2_with fail
      refine (kraft_good HR8.out HG0.out).mono ?_
      rw [HK0.out]
      rintro e w11 ⟨rfl, hb11⟩
      have HB11 := Lib.hid (HB8.out.trans (hb11.mono HB8.out.size))
      have HR11 : Hid (RowIn w11 a' k c' (L.map iv)) := Lib.hid ((HL8.out.below (Nat.le_refl _) hb11).rowIn HML2.out)
      clear hb11 HR8 HB8 HL8
      go_wp2_with fail
      refine (kind_good HR11.out HG.out).mono ?_
      rw [← HXE.out]
      rintro e w9 ⟨rfl, hb9⟩
      have HB9 := Lib.hid (HB11.out.trans (hb9.mono HB11.out.size))
      clear HXE hb9 HR11 HB11 HKM HK0 HG1 HG0 HG HML HML2
      have hX : X = 4 ∧ 32768 < K ∨ X = 0 ∧ K = 0 ∨ X = 1 ∧ K = 32768 ∨ X = 2 ∧ K = 16384 ∨ X = 3 ∧ 0 < K ∧ K < 32768 := by
        have := HKN.out
        by_cases h1 : 32768 < K
        · rw [if_pos h1] at this; exact .inl ⟨this, h1⟩
        · rw [if_neg h1] at this
          by_cases h2 : K = 0
          · rw [if_pos h2] at this; exact .inr (.inl ⟨this, h2⟩)
          · rw [if_neg h2] at this
            by_cases h3 : K = 32768
            · rw [if_pos h3] at this; exact .inr (.inr (.inl ⟨this, h3⟩))
            · rw [if_neg h3] at this
              by_cases h4 : K = 16384 ∧ (nat L).count 1 = 1
              · rw [if_pos h4] at this; exact .inr (.inr (.inr (.inl ⟨this, h4.1⟩)))
              · rw [if_neg h4] at this; exact .inr (.inr (.inr (.inr ⟨this, by omega, by omega⟩)))
      clear HKN
      rcases hX with ⟨rfl, hK⟩ | ⟨rfl, rfl⟩ | ⟨rfl, rfl⟩ | ⟨rfl, rfl⟩ | ⟨rfl, hK, hK2⟩
      all_goals
        go_wp2_with fail
        refine (told_any w9).mono ?_
        rintro e w10 ⟨rfl, hb10⟩
        have HBT := Lib.hid (HB9.out.trans (hb10.mono HB9.out.size))
        clear hb10
        go_wp2_with fail
        go_ret
        exact ⟨by first | (simp; done) | (simp; omega), HBT.out⟩
end Go.Proofs.Ytnabimibionkfaa.CanC
