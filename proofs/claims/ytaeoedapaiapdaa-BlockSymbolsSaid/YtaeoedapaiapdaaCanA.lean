/-
  canon.tally: lengths are counted; which may be.
-/
import Derived.Test.YtaeoedapaiapdaaRows
import Derived.Test.YtaeoedapaiapdaaCanMath
import Derived.Test.YtaeoedapaiapdaaRow
import Derived.Laws.Pointers
import Derived.Deep.QuietTactic
import Derived.BigQuiet
import Derived.Deep.DeepCutAuto
import Derived.Deep.CutBlock
namespace Go.Proofs.Ytaeoedapaiapdaa.CanC
open Go.RowKit Go.My BitMath CanMath

def iv (z : Int) : Value := .int .i64 z
/-- Lengths that may be. -/
def Good (zs : List Int) : Prop := zs.length ≤ 65536 ∧ ∀ z ∈ zs, 0 ≤ z ∧ z ≤ 15
/-- The lengths as numbers. -/
def nat (zs : List Int) : List Nat := zs.map Int.toNat
theorem nat_len (zs : List Int) : (nat zs).length = zs.length := by simp [nat]
theorem nat_get (zs : List Int) (i : Nat) (h : i < zs.length) : (nat zs)[i]'(by rw [nat_len]; exact h) = zs[i].toNat := by simp [nat]
theorem nat_take (zs : List Int) (k : Nat) : nat (zs.take k) = (nat zs).take k := by simp [nat, List.map_take]
theorem Good.all {zs : List Int} (h : Good zs) : ∀ x ∈ nat zs, x ≤ 15 := by
  intro x hx
  obtain ⟨z, hz, rfl⟩ := List.mem_map.1 hx
  have := h.2 z hz
  omega
/-- A row of 16 numbers. -/
structure Cnts (C : Array Value) (f : Nat → Nat) : Prop where
  size : C.size = 16
  at_ : ∀ i, i < 16 → C[i]? = some (.int .i64 ((f i : Nat) : Int))
theorem Cnts.one {C : Array Value} {f : Nat → Nat} (h : Cnts C f) : C.all (·.oneCell') = true := by
  rw [Array.all_eq_true]
  intro i hi
  have := h.at_ i (by rw [← h.size]; exact hi)
  rw [Array.getElem?_eq_getElem hi] at this
  injection this with this
  rw [this]
  rfl
theorem Cnts.set {C : Array Value} {f g : Nat → Nat} (h : Cnts C f) (n : Nat) (x : Int) (hx : x = (g n : Int)) (hg : ∀ i, i ≠ n → g i = f i) : Cnts (C.setIfInBounds n (.int .i64 x)) g := by
  refine ⟨by rw [Array.size_setIfInBounds]; exact h.size, fun i hi => ?_⟩
  rw [Array.getElem?_setIfInBounds]
  by_cases he : n = i
  · subst he
    rw [if_pos rfl, if_pos (by rw [h.size]; exact hi), hx]
  · rw [if_neg he, h.at_ i hi, hg i (fun e => he e.symm)]
/-- How many there are of each length but 0. -/
def cf (ls : List Nat) (n : Nat) : Nat := if n = 0 then 0 else ls.count n
theorem cf_le (ls : List Nat) (n : Nat) : cf ls n ≤ ls.length := by
  unfold cf; split
  · omega
  · exact List.count_le_length

theorem cf_none (ls : List Nat) : cf (ls.take 0) = fun _ => 0 := by
  funext i; unfold cf; simp

/-- What tally hands back. -/
def TallyPost (zs : List Int) (e : Ending) : Prop :=
  (Good zs → ∃ C, Cnts C (cf (nat zs)) ∧ e = .returned (.tuple #[.agg C, .bool true])) ∧ (¬ Good zs → ∃ C f, Cnts C f ∧ e = .returned (.tuple #[.agg C, .bool false]))

abbrev z16 : Array Value := #[.int .i64 0, .int .i64 0, .int .i64 0, .int .i64 0, .int .i64 0, .int .i64 0, .int .i64 0, .int .i64 0, .int .i64 0, .int .i64 0, .int .i64 0, .int .i64 0, .int .i64 0, .int .i64 0, .int .i64 0, .int .i64 0]
theorem z16_cnts : Cnts z16 (fun _ => 0) := ⟨rfl, by
  intro i hi
  have e : z16 = Array.replicate 16 (Value.int .i64 0) := rfl
  rw [e, Array.getElem?_replicate, if_pos hi]
  rfl⟩
theorem info_cnt : (Try.prog.info? 84).map (·.size) = some 16 := by kernel_rfl

theorem tally_ret {a : Act} {w : World} {g : Nat} {C : Array Value} {b : Bool} {R : Ending → World → Prop} (hd : a.defers = []) (hp : a.tmps.getD 2 undef = .pointer (some ⟨g, 0, none⟩)) (hb : a.tmps.getD 3 undef = .bool b)
    (hg : Blk w g 84 C) (hs : C.size = 16) (h : R (.returned (.tuple #[.agg C, .bool b])) w) :
    bodyPost Try.prog Try.f46 R .ret a w := by
  refine bodyPost_ret (v := .tuple #[.agg C, .bool b]) ?_ hd h
  have hp' : a.tmps[2]?.getD undef = .pointer (some ⟨g, 0, none⟩) := by simpa using hp
  have hb' : a.tmps[3]?.getD undef = .bool b := by simpa using hb
  simp [results, hp', hb', asAddr, run_loadVar_row (P := Try.prog) w g 84 84 C (0, 0) _ hg Try.underlying84 rfl (by rw [hs]; exact info_cnt)]

theorem nat_snoc (zs : List Int) (k : Nat) (h : k < zs.length) (n : Nat) (hn : zs[k] = (n : Int)) : (nat zs).take (k + 1) = (nat zs).take k ++ [n] := by
  rw [List.take_succ_eq_append_getElem (by rw [nat_len]; exact h), nat_get zs k h, hn]
  simp
theorem cf_snoc (ls : List Nat) (n i : Nat) : cf (ls ++ [n]) i = cf ls i + (if i = n ∧ 0 < n then 1 else 0) := by
  unfold cf
  by_cases hi : i = 0
  · subst hi
    rw [if_pos rfl, if_pos rfl, if_neg (by omega)]
  · rw [if_neg hi, if_neg hi, List.count_append, List.count_singleton]
    by_cases he : i = n
    · subst he; simp; omega
    · rw [if_neg (by simpa using fun e => he e.symm), if_neg (by omega)]

set_option maxRecDepth 100000 in
set_option maxHeartbeats 4000000 in
theorem tally_any (a : Option Addr) (len cap : Nat) (zs : List Int) (w : World) (h : RowIn w a len cap (zs.map iv)) :
    Calls Try.prog 46 #[.slice a len cap] w fun e w' => TallyPost zs e ∧ Below w.heap.size w w' := by
  have hzl : zs.length = len := by have := h.len_eq; simpa using this
  have hlc := h.le_cap
  have hcl := h.cap_le
  have HR := Lib.hid h
  have HZ := Lib.hid hzl
  clear h hzl
  go_enter Try.func46, Try.ntmps46
  go_upto_region 2 with (fail)
  generalize hW : (w.alloc (.cells z16 84)).alloc (.cells z16 84) = w1
  have HB : Hid (Below w.heap.size w w1) := Lib.hid (by rw [← hW]; exact ((Below.refl _ w).alloc (Nat.le_refl _) _).alloc (by simp) _)
  have HX : Hid (Blk w1 w.heap.size 84 z16) := Lib.hid (by rw [← hW]; exact (Blk.new w _ _).alloc _)
  have HC : Hid (Blk w1 (w.heap.size + 1) 84 z16) := Lib.hid (by rw [← hW]; have := Blk.new (w.alloc (.cells z16 84)) 84 z16; simpa using this)
  clear hW
  by_cases hbig : 65536 < len
  · go_wp2_with (first
      | (refine wpList_load_row rfl 84 _ rfl (w.heap.size + 1) rfl 84 z16 (0, 0) _ HC.out Try.underlying84 rfl (by kernel_rfl) ?_)
      | (refine wpList_store_row rfl _ _ _ rfl w.heap.size _ rfl rfl 84 z16 HX.out (by kernel_rfl) rfl (by kernel_rfl) ?_))
    exact tally_ret rfl rfl rfl (HX.out.row z16) rfl ⟨⟨fun hg => by have := hg.1; have := HZ.out; omega, fun _ => ⟨z16, _, z16_cnts, rfl⟩⟩, below_row HB.out (Nat.le_refl _) _⟩
  · go_wp2_with fail
    go_loopw [6, 13] (fun _ i wr => ∃ (k : Nat) (C : Array Value), k ≤ len ∧ i = .int .i64 (k : Int) ∧ Hid (∀ j (h : j < zs.length), j < k → 0 ≤ zs[j] ∧ zs[j] ≤ 15) ∧ Hid (Cnts C (cf ((nat zs).take k))) ∧ Hid (Blk wr (w.heap.size + 1) 84 C) ∧ Hid (Blk wr w.heap.size 84 z16) ∧ Hid (Below w.heap.size w wr)) (fun _ i _ => len - (intOf i).toNat)
    case atStart => exact ⟨0, z16, Nat.zero_le _, rfl, Lib.hid (fun j _ h => by omega), Lib.hid (by rw [cf_none]; exact z16_cnts), HC, HX, HB⟩
    case round =>
      clear HB HX HC
      obtain ⟨k, C, hk, rfl, HG, HN, HC, HX, HB⟩ := hrel
      have HS : Hid ((Try.prog.info? 84).map (·.size) = some C.size) := Lib.hid (by rw [HN.out.size]; exact info_cnt)
      have HS2 : Hid (z16.size = C.size) := Lib.hid (by rw [HN.out.size]; rfl)
      by_cases hlt : k < len
      · obtain ⟨b, off, rfl⟩ := HR.out.some_ (by omega)
        have hkz : k < zs.length := by rw [HZ.out]; exact hlt
        have hcz : wr.cell? ⟨b, off + k, none⟩ = some (.int .i64 zs[k]) := by
          rw [HB.out.cell (p := ⟨b, off + k, none⟩) (HR.out.lt (by omega)), HR.out.get k (by simpa using hkz)]
          simp [iv]
        obtain ⟨z, hz⟩ : ∃ z, z = zs[k] := ⟨_, rfl⟩
        rw [← hz] at hcz
        have HZK := Lib.hid hz
        clear hz
        by_cases hneg : z < 0
        · go_wp2_with (first
            | (refine wpList_load_row rfl 84 _ rfl (w.heap.size + 1) rfl 84 C (0, 0) _ HC.out Try.underlying84 rfl HS.out ?_)
            | (refine wpList_store_row rfl _ _ _ rfl w.heap.size _ rfl rfl 84 z16 HX.out HS.out HS2.out HN.out.one ?_))
          exact tally_ret rfl rfl rfl (HX.out.row C) HN.out.size ⟨⟨fun hg => by have := hg.2 z (by rw [HZK.out]; exact List.getElem_mem hkz); omega, fun _ => ⟨C, _, HN.out, rfl⟩⟩, below_row HB.out (Nat.le_refl _) _⟩
        · by_cases hgt : 15 < z
          · go_wp2_with (first
              | (refine wpList_load_row rfl 84 _ rfl (w.heap.size + 1) rfl 84 C (0, 0) _ HC.out Try.underlying84 rfl HS.out ?_)
              | (refine wpList_store_row rfl _ _ _ rfl w.heap.size _ rfl rfl 84 z16 HX.out HS.out HS2.out HN.out.one ?_))
            exact tally_ret rfl rfl rfl (HX.out.row C) HN.out.size ⟨⟨fun hg => by have := hg.2 z (by rw [HZK.out]; exact List.getElem_mem hkz); omega, fun _ => ⟨C, _, HN.out, rfl⟩⟩, below_row HB.out (Nat.le_refl _) _⟩
          · obtain ⟨n, rfl⟩ : ∃ n : Nat, z = (n : Int) := ⟨z.toNat, by omega⟩
            have HG1 : Hid (∀ j (h : j < zs.length), j < k + 1 → 0 ≤ zs[j] ∧ zs[j] ≤ 15) := Lib.hid (by
              intro j h hj
              by_cases he : j = k
              · subst he
                rw [← HZK.out]; omega
              · exact HG.out j h (by omega))
            have HTK : Hid ((nat zs).take (k + 1) = (nat zs).take k ++ [n]) := Lib.hid (nat_snoc zs k hkz n HZK.out.symm)
            by_cases h0 : 0 < n
            · have hn15 : n < 16 := by omega
              have hcell : wr.cell? ⟨w.heap.size + 1, n, none⟩ = some (.int .i64 ((cf ((nat zs).take k) n : Nat) : Int)) := by
                rw [HC.out.cell n]; exact HN.out.at_ n hn15
              have hfree : wr.frozen? ⟨w.heap.size + 1, n, none⟩ = false := HC.out.frozen n
              have hcl2 : cf ((nat zs).take k) n ≤ 65536 := Nat.le_trans (cf_le _ _) (by simp; omega)
              have HN1 : Hid (Cnts (C.setIfInBounds n (.int .i64 (((cf ((nat zs).take k) n : Nat) : Int) + 1))) (cf ((nat zs).take (k + 1)))) := Lib.hid (by
                rw [HTK.out]
                refine HN.out.set n _ (by rw [cf_snoc, if_pos ⟨rfl, h0⟩]; omega) (fun i hi => by rw [cf_snoc, if_neg (by omega)]; rfl))
              generalize cf ((nat zs).take k) n = y at *
              go_wp2_with fail
              go_roundw
              case rel => exact ⟨k + 1, _, by omega, by go_num, HG1, HN1, Lib.hid (HC.out.set_ n _), Lib.hid (HX.out.same (Below.heap_setCell _ _ _ _ (by simp))), Lib.hid (HB.out.setCell (p := ⟨w.heap.size + 1, n, none⟩) (by simp) _)⟩
              case measure => simp [intOf]; omega
            · obtain rfl : n = 0 := by omega
              have HN1 : Hid (Cnts C (cf ((nat zs).take (k + 1)))) := Lib.hid (by
                rw [HTK.out]
                exact ⟨HN.out.size, fun i hi => by rw [cf_snoc, if_neg (by omega)]; exact HN.out.at_ i hi⟩)
              go_wp2_with fail
              go_roundw
              case rel => exact ⟨k + 1, _, by omega, by go_num, HG1, HN1, HC, HX, HB⟩
              case measure => simp [intOf]; omega
      · obtain rfl : k = len := by omega
        have HT : Hid ((nat zs).take k = nat zs) := Lib.hid (List.take_of_length_le (by rw [nat_len, HZ.out]; omega))
        go_wp2_with (first
          | (refine wpList_load_row rfl 84 _ rfl (w.heap.size + 1) rfl 84 C (0, 0) _ HC.out Try.underlying84 rfl HS.out ?_)
          | (refine wpList_store_row rfl _ _ _ rfl w.heap.size _ rfl rfl 84 z16 HX.out HS.out HS2.out HN.out.one ?_))
        exact tally_ret rfl rfl rfl (HX.out.row C) HN.out.size ⟨⟨fun _ => ⟨C, by have := HN.out; rwa [HT.out] at this, rfl⟩, fun hn => absurd ⟨by rw [HZ.out]; omega, fun z hz => by
          obtain ⟨j, hj, rfl⟩ := List.getElem_of_mem hz
          exact HG.out j hj (by rw [← HZ.out]; exact hj)⟩ hn⟩, below_row HB.out (Nat.le_refl _) _⟩
end Go.Proofs.Ytaeoedapaiapdaa.CanC
