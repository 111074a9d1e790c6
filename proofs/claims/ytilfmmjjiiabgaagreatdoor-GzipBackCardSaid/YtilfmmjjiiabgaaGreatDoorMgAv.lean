import Derived.Test.YtilfmmjjiiabgaaGreatDoorRows
import Derived.Test.YtilfmmjjiiabgaaGreatDoorMgAs
import Derived.Test.YtilfmmjjiiabgaaGreatDoorMgAl
import Derived.Laws.Pointers
import Derived.Deep.QuietTactic
import Derived.BigQuiet
import Derived.Deep.DeepCutAuto
import Derived.Deep.CutBlock
import Derived.StillTailTactics

section
/-
  canon.tally: lengths are counted; which may be.
-/
namespace Go.Proofs.YtilfmmjjiiabgaaGreatDoor.CanC
open Go.RowKit Go.My BitMath CanMath

def iv (z : Int) : Value := .int .i64 z
/-- Lengths that may be. -/
def Good (zs : List Int) : Prop := zs.length ≤ 65536 ∧ ∀ z ∈ zs, 0 ≤ z ∧ z ≤ 15
/-- The lengths as numbers. -/
def nat (zs : List Int) : List Nat := zs.map Int.toNat
theorem nat_len (zs : List Int) : (nat zs).length = zs.length := by simp [nat]
theorem nat_get (zs : List Int) (i : Nat) (h : i < zs.length) : (nat zs)[i]'(by rw [nat_len]; exact h) = zs[i].toNat := by simp [nat]
theorem Good.all {zs : List Int} (h : Good zs) : ∀ x ∈ nat zs, x ≤ 15 := by
  intro x hx
  obtain ⟨z, hz, rfl⟩ := List.mem_map.1 hx
  have := h.2 z hz
  omega
/-- A row of 16 numbers. -/
structure Cnts (C : Array Value) (f : Nat → Nat) : Prop where
  size : C.size = 16
  at_ : ∀ i, i < 16 → C[i]? = some (.int .i64 ((f i : Nat) : Int))
theorem Cnts.one {C : Array Value} {f : Nat → Nat} (h : Cnts C f) : C.all (·.oneCell') = true := by
  rw [Array.all_eq_true]
  intro i hi
  have := h.at_ i (by rw [← h.size]; exact hi)
  rw [Array.getElem?_eq_getElem hi] at this
  injection this with this
  rw [this]
  rfl
theorem Cnts.set {C : Array Value} {f g : Nat → Nat} (h : Cnts C f) (n : Nat) (x : Int) (hx : x = (g n : Int)) (hg : ∀ i, i ≠ n → g i = f i) : Cnts (C.setIfInBounds n (.int .i64 x)) g := by
  refine ⟨by rw [Array.size_setIfInBounds]; exact h.size, fun i hi => ?_⟩
  rw [Array.getElem?_setIfInBounds]
  by_cases he : n = i
  · subst he
    rw [if_pos rfl, if_pos (by rw [h.size]; exact hi), hx]
  · rw [if_neg he, h.at_ i hi, hg i (fun e => he e.symm)]
/-- How many there are of each length but 0. -/
def cf (ls : List Nat) (n : Nat) : Nat := if n = 0 then 0 else ls.count n
theorem cf_le (ls : List Nat) (n : Nat) : cf ls n ≤ ls.length := by
  unfold cf; split
  · omega
  · exact List.count_le_length

theorem cf_none (ls : List Nat) : cf (ls.take 0) = fun _ => 0 := by
  funext i; unfold cf; simp

/-- What tally hands back. -/
def TallyPost (zs : List Int) (e : Ending) : Prop :=
  (Good zs → ∃ C, Cnts C (cf (nat zs)) ∧ e = .returned (.tuple #[.agg C, .bool true])) ∧ (¬ Good zs → ∃ C f, Cnts C f ∧ e = .returned (.tuple #[.agg C, .bool false]))

abbrev z16 : Array Value := #[.int .i64 0, .int .i64 0, .int .i64 0, .int .i64 0, .int .i64 0, .int .i64 0, .int .i64 0, .int .i64 0, .int .i64 0, .int .i64 0, .int .i64 0, .int .i64 0, .int .i64 0, .int .i64 0, .int .i64 0, .int .i64 0]
theorem z16_cnts : Cnts z16 (fun _ => 0) := ⟨rfl, by
  intro i hi
  have e : z16 = Array.replicate 16 (Value.int .i64 0) := rfl
  rw [e, Array.getElem?_replicate, if_pos hi]
  rfl⟩
theorem info_cnt : (Tryz.prog.info? 144).map (·.size) = some 16 := by kernel_rfl

theorem tally_ret {a : Act} {w : World} {g : Nat} {C : Array Value} {b : Bool} {R : Ending → World → Prop} (hd : a.defers = []) (hp : a.tmps.getD 2 undef = .pointer (some ⟨g, 0, none⟩)) (hb : a.tmps.getD 3 undef = .bool b)
    (hg : Blk w g 144 C) (hs : C.size = 16) (h : R (.returned (.tuple #[.agg C, .bool b])) w) :
    bodyPost Tryz.prog Tryz.f118 R .ret a w := by
  refine bodyPost_ret (v := .tuple #[.agg C, .bool b]) ?_ hd h
  have hp' : a.tmps[2]?.getD undef = .pointer (some ⟨g, 0, none⟩) := by simpa using hp
  have hb' : a.tmps[3]?.getD undef = .bool b := by simpa using hb
  simp [results, hp', hb', asAddr, run_loadVar_row (P := Tryz.prog) w g 144 144 C (0, 0) _ hg Tryz.underlying144 rfl (by rw [hs]; exact info_cnt)]

theorem nat_snoc (zs : List Int) (k : Nat) (h : k < zs.length) (n : Nat) (hn : zs[k] = (n : Int)) : (nat zs).take (k + 1) = (nat zs).take k ++ [n] := by
  rw [List.take_succ_eq_append_getElem (by rw [nat_len]; exact h), nat_get zs k h, hn]
  simp
theorem cf_snoc (ls : List Nat) (n i : Nat) : cf (ls ++ [n]) i = cf ls i + (if i = n ∧ 0 < n then 1 else 0) := by
  unfold cf
  by_cases hi : i = 0
  · subst hi
    rw [if_pos rfl, if_pos rfl, if_neg (by omega)]
  · rw [if_neg hi, if_neg hi, List.count_append, List.count_singleton]
    by_cases he : i = n
    · subst he; simp; omega
    · rw [if_neg (by simpa using fun e => he e.symm), if_neg (by omega)]

set_option maxRecDepth 100000 in
set_option maxHeartbeats 4000000 in
theorem tally_any (a : Option Addr) (len cap : Nat) (zs : List Int) (w : World) (h : RowIn w a len cap (zs.map iv)) :
    Calls Tryz.prog 118 #[.slice a len cap] w fun e w' => TallyPost zs e ∧ Below w.heap.size w w' := by
  have hzl : zs.length = len := by have := h.len_eq; simpa using this
  have hlc := h.le_cap
  have hcl := h.cap_le
  have HR := Lib.hid h
  have HZ := Lib.hid hzl
  clear h hzl
  go_enter Tryz.func118, Tryz.ntmps118
  go_upto_region 2 with (fail)
  generalize hW : (w.alloc (.cells z16 144)).alloc (.cells z16 144) = w1
  have HB : Hid (Below w.heap.size w w1) := Lib.hid (by rw [← hW]; exact ((Below.refl _ w).alloc (Nat.le_refl _) _).alloc (by simp) _)
  have HX : Hid (Blk w1 w.heap.size 144 z16) := Lib.hid (by rw [← hW]; exact (Blk.new w _ _).alloc _)
  have HC : Hid (Blk w1 (w.heap.size + 1) 144 z16) := Lib.hid (by rw [← hW]; have := Blk.new (w.alloc (.cells z16 144)) 144 z16; simpa using this)
  clear hW
  by_cases hbig : 65536 < len
  · go_wp2_with (first
      | (refine wpList_load_row rfl 144 _ rfl (w.heap.size + 1) rfl 144 z16 (0, 0) _ HC.out Tryz.underlying144 rfl (by kernel_rfl) ?_)
      | (refine wpList_store_row rfl _ _ _ rfl w.heap.size _ rfl rfl 144 z16 HX.out (by kernel_rfl) rfl (by kernel_rfl) ?_))
    exact tally_ret rfl rfl rfl (HX.out.row z16) rfl ⟨⟨fun hg => by have := hg.1; have := HZ.out; omega, fun _ => ⟨z16, _, z16_cnts, rfl⟩⟩, below_row HB.out (Nat.le_refl _) _⟩
  · go_wp2_with fail
    go_loopw [6, 13] (fun _ i wr => ∃ (k : Nat) (C : Array Value), k ≤ len ∧ i = .int .i64 (k : Int) ∧ Hid (∀ j (h : j < zs.length), j < k → 0 ≤ zs[j] ∧ zs[j] ≤ 15) ∧ Hid (Cnts C (cf ((nat zs).take k))) ∧ Hid (Blk wr (w.heap.size + 1) 144 C) ∧ Hid (Blk wr w.heap.size 144 z16) ∧ Hid (Below w.heap.size w wr)) (fun _ i _ => len - (intOf i).toNat)
    case atStart => exact ⟨0, z16, Nat.zero_le _, rfl, Lib.hid (fun j _ h => by omega), Lib.hid (by rw [cf_none]; exact z16_cnts), HC, HX, HB⟩
    case round =>
      clear HB HX HC
      obtain ⟨k, C, hk, rfl, HG, HN, HC, HX, HB⟩ := hrel
      have HS : Hid ((Tryz.prog.info? 144).map (·.size) = some C.size) := Lib.hid (by rw [HN.out.size]; exact info_cnt)
      have HS2 : Hid (z16.size = C.size) := Lib.hid (by rw [HN.out.size]; rfl)
      by_cases hlt : k < len
      · obtain ⟨b, off, rfl⟩ := HR.out.some_ (by omega)
        have hkz : k < zs.length := by rw [HZ.out]; exact hlt
        have hcz : wr.cell? ⟨b, off + k, none⟩ = some (.int .i64 zs[k]) := by
          rw [HB.out.cell (p := ⟨b, off + k, none⟩) (HR.out.lt (by omega)), HR.out.get k (by simpa using hkz)]
          simp [iv]
        obtain ⟨z, hz⟩ : ∃ z, z = zs[k] := ⟨_, rfl⟩
        rw [← hz] at hcz
        have HZK := Lib.hid hz
        clear hz
        by_cases hneg : z < 0
        · go_wp2_with (first
            | (refine wpList_load_row rfl 144 _ rfl (w.heap.size + 1) rfl 144 C (0, 0) _ HC.out Tryz.underlying144 rfl HS.out ?_)
            | (refine wpList_store_row rfl _ _ _ rfl w.heap.size _ rfl rfl 144 z16 HX.out HS.out HS2.out HN.out.one ?_))
          exact tally_ret rfl rfl rfl (HX.out.row C) HN.out.size ⟨⟨fun hg => by have := hg.2 z (by rw [HZK.out]; exact List.getElem_mem hkz); omega, fun _ => ⟨C, _, HN.out, rfl⟩⟩, below_row HB.out (Nat.le_refl _) _⟩
        · by_cases hgt : 15 < z
          · go_wp2_with (first
              | (refine wpList_load_row rfl 144 _ rfl (w.heap.size + 1) rfl 144 C (0, 0) _ HC.out Tryz.underlying144 rfl HS.out ?_)
              | (refine wpList_store_row rfl _ _ _ rfl w.heap.size _ rfl rfl 144 z16 HX.out HS.out HS2.out HN.out.one ?_))
            exact tally_ret rfl rfl rfl (HX.out.row C) HN.out.size ⟨⟨fun hg => by have := hg.2 z (by rw [HZK.out]; exact List.getElem_mem hkz); omega, fun _ => ⟨C, _, HN.out, rfl⟩⟩, below_row HB.out (Nat.le_refl _) _⟩
          · obtain ⟨n, rfl⟩ : ∃ n : Nat, z = (n : Int) := ⟨z.toNat, by omega⟩
            have HG1 : Hid (∀ j (h : j < zs.length), j < k + 1 → 0 ≤ zs[j] ∧ zs[j] ≤ 15) := Lib.hid (by
              intro j h hj
              by_cases he : j = k
              · subst he
                rw [← HZK.out]; omega
              · exact HG.out j h (by omega))
            have HTK : Hid ((nat zs).take (k + 1) = (nat zs).take k ++ [n]) := Lib.hid (nat_snoc zs k hkz n HZK.out.symm)
            by_cases h0 : 0 < n
            · have hn15 : n < 16 := by omega
              have hcell : wr.cell? ⟨w.heap.size + 1, n, none⟩ = some (.int .i64 ((cf ((nat zs).take k) n : Nat) : Int)) := by
                rw [HC.out.cell n]; exact HN.out.at_ n hn15
              have hfree : wr.frozen? ⟨w.heap.size + 1, n, none⟩ = false := HC.out.frozen n
              have hcl2 : cf ((nat zs).take k) n ≤ 65536 := Nat.le_trans (cf_le _ _) (by simp; omega)
              have HN1 : Hid (Cnts (C.setIfInBounds n (.int .i64 (((cf ((nat zs).take k) n : Nat) : Int) + 1))) (cf ((nat zs).take (k + 1)))) := Lib.hid (by
                rw [HTK.out]
                refine HN.out.set n _ (by rw [cf_snoc, if_pos ⟨rfl, h0⟩]; omega) (fun i hi => by rw [cf_snoc, if_neg (by omega)]; rfl))
              generalize cf ((nat zs).take k) n = y at *
              go_wp2_with fail
              go_roundw
              case rel => exact ⟨k + 1, _, by omega, by go_num, HG1, HN1, Lib.hid (HC.out.set_ n _), Lib.hid (HX.out.same (Below.heap_setCell _ _ _ _ (by simp))), Lib.hid (HB.out.setCell (p := ⟨w.heap.size + 1, n, none⟩) (by simp) _)⟩
              case measure => simp [intOf]; omega
            · obtain rfl : n = 0 := by omega
              have HN1 : Hid (Cnts C (cf ((nat zs).take (k + 1)))) := Lib.hid (by
                rw [HTK.out]
                exact ⟨HN.out.size, fun i hi => by rw [cf_snoc, if_neg (by omega)]; exact HN.out.at_ i hi⟩)
              go_wp2_with fail
              go_roundw
              case rel => exact ⟨k + 1, _, by omega, by go_num, HG1, HN1, HC, HX, HB⟩
              case measure => simp [intOf]; omega
      · obtain rfl : k = len := by omega
        have HT : Hid ((nat zs).take k = nat zs) := Lib.hid (List.take_of_length_le (by rw [nat_len, HZ.out]; omega))
        go_wp2_with (first
          | (refine wpList_load_row rfl 144 _ rfl (w.heap.size + 1) rfl 144 C (0, 0) _ HC.out Tryz.underlying144 rfl HS.out ?_)
          | (refine wpList_store_row rfl _ _ _ rfl w.heap.size _ rfl rfl 144 z16 HX.out HS.out HS2.out HN.out.one ?_))
        exact tally_ret rfl rfl rfl (HX.out.row C) HN.out.size ⟨⟨fun _ => ⟨C, by have := HN.out; rwa [HT.out] at this, rfl⟩, fun hn => absurd ⟨by rw [HZ.out]; omega, fun z hz => by
          obtain ⟨j, hj, rfl⟩ := List.getElem_of_mem hz
          exact HG.out j hj (by rw [← HZ.out]; exact hj)⟩ hn⟩, below_row HB.out (Nat.le_refl _) _⟩
end Go.Proofs.YtilfmmjjiiabgaaGreatDoor.CanC
end

section
/-
  canon's counts: Kraft's sum of them, their kind.
-/
namespace Go.Proofs.YtilfmmjjiiabgaaGreatDoor.CanC
open Go.RowKit Go.My BitMath CanMath

theorem part_any (C : Array Value) (f : Nat → Nat) (h : Cnts C f) (k : Nat) (hk : k < 16) (w : World) : (Instr.index 144 (.agg C) (.int .i64 (k : Int))).run Tryz.prog w = .ok (.int .i64 ((f k : Nat) : Int)) w := by
  have hc := h.at_ k hk
  have hs : (sizeOf 3).run Tryz.prog w = .ok 1 w := by kernel_rfl
  unfold Instr.index
  simp [run_underlying Tryz.underlying144, asIntOf, hs, hk, Go.part, hc]

/-- Kraft's sum of counts. -/
def ksum (f : Nat → Nat) : Nat → Nat
  | 0 => 0
  | k + 1 => ksum f k + f k * 2 ^ (15 - k)
theorem ksum_low (ls : List Nat) (k : Nat) : ksum (cf ls) k = low ls k := by
  induction k with
  | zero => rw [low_zero]; rfl
  | succ k ih =>
    rw [ksum, ih, low_succ]
    unfold cf share
    by_cases h : k = 0
    · subst h; simp
    · rw [if_neg h, if_neg h]
theorem ksum_le (f : Nat → Nat) (hf : ∀ i, f i ≤ 65536) (k : Nat) : ksum f k ≤ 2147483648 * k := by
  induction k with
  | zero => simp [ksum]
  | succ k ih =>
    rw [ksum]
    have h1 : 2 ^ (15 - k) ≤ 2 ^ 15 := Nat.pow_le_pow_right (by omega) (by omega)
    have h2 : f k * 2 ^ (15 - k) ≤ 65536 * 2 ^ 15 := Nat.mul_le_mul (hf k) h1
    omega

set_option maxRecDepth 100000 in
set_option maxHeartbeats 2000000 in
theorem kraft_any (C : Array Value) (f : Nat → Nat) (w : World) (h : Cnts C f) (hf : ∀ i, f i ≤ 65536) :
    Calls Tryz.prog 129 #[.agg C] w fun e w' => e = .returned (.int .i64 ((ksum f 16 : Nat) : Int)) ∧ Below w.heap.size w w' := by
  have HN := Lib.hid h
  have HF := Lib.hid hf
  have HS : Hid ((Tryz.prog.info? 144).map (·.size) = some C.size) := Lib.hid (by rw [h.size]; exact info_cnt)
  clear h hf
  go_enter Tryz.func129, Tryz.ntmps129
  go_upto_region 2 with (fail)
  have HB : Hid (Below w.heap.size w (w.alloc (.cells C 144))) := Lib.hid ((Below.refl _ w).alloc (Nat.le_refl _) _)
  have HC : Hid (Blk (w.alloc (.cells C 144)) w.heap.size 144 C) := Lib.hid (Blk.new w _ _)
  generalize w.alloc (.cells C 144) = w1 at *
  go_wp2_with (refine wpList_load_row rfl 144 _ rfl w.heap.size rfl 144 C (0, 0) _ HC.out Tryz.underlying144 rfl HS.out ?_)
  go_loop [3, 4, 5, 7] (fun s _ _ i => ∃ k : Nat, k ≤ 16 ∧ i = .int .i64 (k : Int) ∧ s = .int .i64 ((ksum f k : Nat) : Int)) (fun _ _ _ i => 16 - (intOf i).toNat)
  case atStart => exact ⟨0, by omega, rfl, rfl⟩
  case round =>
    obtain ⟨k, hk, rfl, rfl⟩ := hrel
    by_cases hlt : k < 16
    · have hp := fun wx => part_any C f HN.out k hlt wx
      have hk1 := HF.out k
      have hks := ksum_le f HF.out k
      have h1 : 2 ^ (15 - k) ≤ 2 ^ 15 := Nat.pow_le_pow_right (by omega) (by omega)
      have h2 : f k * 2 ^ (15 - k) ≤ 65536 * 2 ^ 15 := Nat.mul_le_mul hk1 h1
      have HK : Hid (ksum f (k + 1) = ksum f k + f k * 2 ^ (15 - k)) := Lib.hid rfl
      generalize hx : f k = x at *
      have hm : (15 - (k : Int)).toNat = 15 - k := by omega
      have hm2 : min (15 - k) 64 = 15 - k := by omega
      have hsh : IntKind.i64.wrap ((x : Int) * 2 ^ (15 - k)) = ((x * 2 ^ (15 - k) : Nat) : Int) := by
        have e : (x : Int) * 2 ^ (15 - k) = ((x * 2 ^ (15 - k) : Nat) : Int) := by push_cast; rfl
        rw [e, IntWalk.i64_in _ (by omega)]
      generalize ksum f k = s at *
      generalize x * 2 ^ (15 - k) = y at *
      clear hx h1
      go_wp2_with fail
      go_round
      case rel => exact ⟨k + 1, by omega, by go_num, by rw [HK.out]; go_num⟩
      case measure => simp [intOf]; omega
    · obtain rfl : k = 16 := by omega
      go_wp2_with fail
      go_ret
      exact ⟨rfl, HB.out⟩

/-- What lengths are. -/
def kindN (ls : List Nat) : Int := if 32768 < kr ls then 4 else if kr ls = 0 then 0 else if kr ls = 32768 then 1 else if kr ls = 16384 ∧ ls.count 1 = 1 then 2 else 3

set_option maxRecDepth 100000 in
set_option maxHeartbeats 2000000 in
theorem kind_any (C : Array Value) (ls : List Nat) (w : World) (h : Cnts C (cf ls)) (hall : ∀ x ∈ ls, x ≤ 15) (hlen : ls.length ≤ 65536) :
    Calls Tryz.prog 119 #[.agg C] w fun e w' => e = .returned (.int .i64 (kindN ls)) ∧ Below w.heap.size w w' := by
  have HK : Hid (ksum (cf ls) 16 = kr ls) := Lib.hid (by rw [ksum_low, low_all ls hall])
  have HKN : Hid (kindN ls = if 32768 < kr ls then 4 else if kr ls = 0 then 0 else if kr ls = 32768 then 1 else if kr ls = 16384 ∧ ls.count 1 = 1 then 2 else 3) := Lib.hid rfl
  have HF : Hid (∀ i, cf ls i ≤ 65536) := Lib.hid fun i => Nat.le_trans (cf_le ls i) hlen
  have HC1 : Hid (C[1]? = some (.int .i64 ((ls.count 1 : Nat) : Int))) := Lib.hid (by have := h.at_ 1 (by omega); simpa [cf] using this)
  have hc1 : ls.count 1 ≤ 65536 := Nat.le_trans List.count_le_length hlen
  have HN := Lib.hid h
  have hkr : kr ls ≤ 16384 * ls.length := kr_le ls
  have HS : Hid ((Tryz.prog.info? 144).map (·.size) = some C.size) := Lib.hid (by rw [h.size]; exact info_cnt)
  clear h hall
  generalize kindN ls = X at *
  go_enter Tryz.func119, Tryz.ntmps119
  go_upto_region 1 with (fail)
  have HB : Hid (Below w.heap.size w (w.alloc (.cells C 144))) := Lib.hid ((Below.refl _ w).alloc (Nat.le_refl _) _)
  have HC : Hid (Blk (w.alloc (.cells C 144)) w.heap.size 144 C) := Lib.hid (Blk.new w _ _)
  generalize w.alloc (.cells C 144) = w1 at *
  go_wp2_with (refine wpList_load_row rfl 144 _ rfl w.heap.size rfl 144 C (0, 0) _ HC.out Tryz.underlying144 rfl HS.out ?_)
  refine (kraft_any C _ w1 HN.out HF.out).mono ?_
  rw [HK.out]
  rintro e w2 ⟨rfl, hb2⟩
  have HB2 := Lib.hid (HB.out.trans (hb2.mono HB.out.size))
  have HC2 : Hid (Blk w2 w.heap.size 144 C) := Lib.hid (HC.out.same (hb2.block _ HC.out.lt))
  have hcell : w2.cell? ⟨w.heap.size, 1, none⟩ = some (.int .i64 ((ls.count 1 : Nat) : Int)) := by rw [HC2.out.cell 1]; exact HC1.out
  clear hb2 HC HB HK HN HF HC1
  generalize ls.count 1 = c at *
  generalize kr ls = K at *
  by_cases h1 : 32768 < K
  · go_wp2_with fail
    go_ret
    exact ⟨ret_int (by rw [HKN.out, if_pos h1]), HB2.out⟩
  · by_cases h2 : K = 0
    · subst h2
      go_wp2_with fail
      go_ret
      exact ⟨ret_int (by rw [HKN.out]; rfl), HB2.out⟩
    · by_cases h3 : K = 32768
      · subst h3
        go_wp2_with fail
        go_ret
        exact ⟨ret_int (by rw [HKN.out]; rfl), HB2.out⟩
      · have e2 : ((K : Int) == 0) = false := by simp; omega
        have e3 : ((K : Int) == 32768) = false := by simp; omega
        by_cases h4 : K = 16384
        · subst h4
          by_cases h5 : c = 1
          · subst h5
            clear h1 h2 h3 e2 e3
            go_wp2_with fail
            go_ret
            exact ⟨ret_int (by rw [HKN.out]; rfl), HB2.out⟩
          · have e5 : ((c : Int) == 1) = false := by simp; omega
            have H5 := Lib.hid h5
            clear h1 h2 h3 e2 e3 h5
            go_wp2_with fail
            go_ret
            exact ⟨ret_int (by rw [HKN.out, if_neg (by omega), if_neg (by omega), if_neg (by omega), if_neg (fun hh => H5.out hh.2)]), HB2.out⟩
        · have e4 : ((K : Int) == 16384) = false := by simp; omega
          have H2 := Lib.hid h2
          have H3 := Lib.hid h3
          have H4 := Lib.hid h4
          clear h2 h3 h4
          go_wp2_with fail
          go_ret
          exact ⟨ret_int (by rw [HKN.out, if_neg h1, if_neg H2.out, if_neg H3.out, if_neg (fun hh => H4.out hh.1)]), HB2.out⟩
end Go.Proofs.YtilfmmjjiiabgaaGreatDoor.CanC
end

section
/-
  canon.firsts: the first code of each length.
-/
namespace Go.Proofs.YtilfmmjjiiabgaaGreatDoor.CanC
open Go.RowKit Go.My BitMath CanMath

def uv (n : Nat) : Value := .int .u32 (n : Int)
/-- A row of 16 words. -/
structure Wrds (C : Array Value) (f : Nat → Nat) : Prop where
  size : C.size = 16
  at_ : ∀ i, i < 16 → C[i]? = some (uv (f i))
theorem Wrds.one {C : Array Value} {f : Nat → Nat} (h : Wrds C f) : C.all (·.oneCell') = true := by
  rw [Array.all_eq_true]
  intro i hi
  have := h.at_ i (by rw [← h.size]; exact hi)
  rw [Array.getElem?_eq_getElem hi] at this
  injection this with this
  rw [this]
  rfl
theorem Wrds.set {C : Array Value} {f g : Nat → Nat} (h : Wrds C f) (n : Nat) (x : Int) (hx : x = (g n : Int)) (hg : ∀ i, i ≠ n → g i = f i) : Wrds (C.setIfInBounds n (.int .u32 x)) g := by
  refine ⟨by rw [Array.size_setIfInBounds]; exact h.size, fun i hi => ?_⟩
  rw [Array.getElem?_setIfInBounds]
  by_cases he : n = i
  · subst he
    rw [if_pos rfl, if_pos (by rw [h.size]; exact hi), hx]; rfl
  · rw [if_neg he, h.at_ i hi, hg i (fun e => he e.symm)]
theorem Wrds.same {C : Array Value} {f g : Nat → Nat} (h : Wrds C f) (hg : ∀ i, i < 16 → g i = f i) : Wrds C g := ⟨h.size, fun i hi => by rw [h.at_ i hi, hg i hi]⟩
abbrev u16z : Array Value := #[.int .u32 0, .int .u32 0, .int .u32 0, .int .u32 0, .int .u32 0, .int .u32 0, .int .u32 0, .int .u32 0, .int .u32 0, .int .u32 0, .int .u32 0, .int .u32 0, .int .u32 0, .int .u32 0, .int .u32 0, .int .u32 0]
theorem u16z_wrds : Wrds u16z (fun _ => 0) := ⟨rfl, by
  intro i hi
  have e : u16z = Array.replicate 16 (Value.int .u32 0) := rfl
  rw [e, Array.getElem?_replicate, if_pos hi]
  rfl⟩
theorem info_wrd : (Tryz.prog.info? 171).map (·.size) = some 16 := by kernel_rfl
theorem firsts_ret {a : Act} {w : World} {g : Nat} {C : Array Value} {R : Ending → World → Prop} (hd : a.defers = []) (hp : a.tmps.getD 2 undef = .pointer (some ⟨g, 0, none⟩))
    (hg : Blk w g 171 C) (hs : C.size = 16) (h : R (.returned (.agg C)) w) :
    bodyPost Tryz.prog Tryz.f137 R .ret a w :=
  bodyPost_ret (results_cell_row rfl _ _ g _ _ _ _ hp hg Tryz.underlying171 rfl (by rw [hs]; exact info_wrd)) hd h

theorem first_le (ls : List Nat) (hall : ∀ x ∈ ls, x ≤ 15) (hk : kr ls ≤ 32768) (n : Nat) (hn : n ≤ 15) : first ls n ≤ 32768 := by
  rcases Nat.eq_zero_or_pos n with rfl | h0
  · simp [first]
  · have h := first_low ls n h0 hn
    have h2 : low ls n ≤ kr ls := by rw [← low_all ls hall]; exact low_mono ls (by omega)
    have h3 := Nat.le_mul_of_pos_right (first ls n) (Nat.two_pow_pos (15 - n))
    omega
/-- The first codes, so many of them. -/
def ff (ls : List Nat) (n i : Nat) : Nat := if i < n then first ls i else 0
theorem ff_two (ls : List Nat) : ff ls 2 = fun _ => 0 := by
  funext i
  unfold ff
  split
  · obtain h | h : i = 0 ∨ i = 1 := by omega
    · subst h; rfl
    · subst h; rfl
  · rfl

set_option maxRecDepth 100000 in
set_option maxHeartbeats 4000000 in
theorem firsts_any (C : Array Value) (ls : List Nat) (w : World) (h : Cnts C (cf ls)) (hall : ∀ x ∈ ls, x ≤ 15) (hlen : ls.length ≤ 65536) (hkr : kr ls ≤ 32768) :
    Calls Tryz.prog 137 #[.agg C] w fun e w' => (∃ F, Wrds F (first ls) ∧ e = .returned (.agg F)) ∧ Below w.heap.size w w' := by
  have HN := Lib.hid h
  have HL : Hid (∀ n, n ≤ 15 → first ls n ≤ 32768) := Lib.hid (first_le ls hall hkr)
  have HCL : Hid (∀ i, cf ls i ≤ 65536) := Lib.hid fun i => Nat.le_trans (cf_le ls i) hlen
  clear h hall
  go_enter Tryz.func137, Tryz.ntmps137
  go_upto_region 2 with (fail)
  generalize hW : ((w.alloc (.cells C 144)).alloc (.cells u16z 171)).alloc (.cells u16z 171) = w1
  have HB : Hid (Below w.heap.size w w1) := Lib.hid (by rw [← hW]; exact (((Below.refl _ w).alloc (Nat.le_refl _) _).alloc (by simp) _).alloc (by simp; omega) _)
  have HC : Hid (Blk w1 w.heap.size 144 C) := Lib.hid (by rw [← hW]; exact ((Blk.new w _ _).alloc _).alloc _)
  have HX : Hid (Blk w1 (w.heap.size + 1) 171 u16z) := Lib.hid (by rw [← hW]; have := (Blk.new (w.alloc (.cells C 144)) 171 u16z).alloc (.cells u16z 171); simpa using this)
  have HF : Hid (Blk w1 (w.heap.size + 1 + 1) 171 u16z) := Lib.hid (by rw [← hW]; have := Blk.new ((w.alloc (.cells C 144)).alloc (.cells u16z 171)) 171 u16z; simpa using this)
  clear hW
  go_wp2_with fail
  go_loopw [4] (fun i wr => ∃ (n : Nat) (F : Array Value), 2 ≤ n ∧ n ≤ 16 ∧ i = .int .i64 (n : Int) ∧ Hid (Wrds F (ff ls n)) ∧ Hid (Blk wr (w.heap.size + 1 + 1) 171 F) ∧ Hid (Blk wr (w.heap.size + 1) 171 u16z) ∧ Hid (Blk wr w.heap.size 144 C) ∧ Hid (Below w.heap.size w wr)) (fun i _ => 16 - (intOf i).toNat)
  case atStart => exact ⟨2, u16z, by omega, by omega, rfl, Lib.hid (by rw [ff_two]; exact u16z_wrds), HF, HX, HC, HB⟩
  case round =>
    clear HB HC HX HF
    obtain ⟨n, F, hn2, hn16, rfl, HW, HF, HX, HC, HB⟩ := hrel
    by_cases hlt : n < 16
    · obtain ⟨m, rfl⟩ : ∃ m, n = m + 1 := ⟨n - 1, by omega⟩
      have hc1 : wr.cell? ⟨w.heap.size, m, none⟩ = some (.int .i64 ((cf ls m : Nat) : Int)) := by rw [HC.out.cell m]; exact HN.out.at_ m (by omega)
      have hc2 : wr.cell? ⟨w.heap.size + 1 + 1, m, none⟩ = some (.int .u32 ((first ls m : Nat) : Int)) := by
        rw [HF.out.cell m]; have := HW.out.at_ m (by omega); unfold ff at this; rw [if_pos (by omega)] at this; exact this
      obtain ⟨old, hc3⟩ : ∃ old, wr.cell? ⟨w.heap.size + 1 + 1, m + 1, none⟩ = some old := ⟨_, by rw [HF.out.cell (m + 1)]; exact HW.out.at_ (m + 1) (by omega)⟩
      have hfr : wr.frozen? ⟨w.heap.size + 1 + 1, m + 1, none⟩ = false := HF.out.frozen _
      have h1 := HL.out m (by omega)
      have h2 := HCL.out m
      have HS : Hid (first ls (m + 1) = 2 * (first ls m + cf ls m)) := Lib.hid (by
        obtain ⟨j, rfl⟩ : ∃ j, m = j + 1 := ⟨m - 1, by omega⟩
        rw [first]; unfold cf; rw [if_neg (by omega)])
      have HFF : Hid (∀ i, i ≠ m + 1 → ff ls (m + 1 + 1) i = ff ls (m + 1) i) := Lib.hid (by
        intro i hi; unfold ff
        by_cases h : i < m + 1
        · rw [if_pos h, if_pos (by omega)]
        · rw [if_neg h, if_neg (by omega)])
      have HFN : Hid (ff ls (m + 1 + 1) (m + 1) = first ls (m + 1)) := Lib.hid (by unfold ff; rw [if_pos (by omega)])
      generalize first ls m = x at *
      generalize cf ls m = c at *
      have k1 : IntKind.i64.wrap (m : Int) = (m : Int) := IntWalk.i64_in _ (by omega)
      have k2 : IntKind.u32.wrap (c : Int) = (c : Int) := IntWalk.u32_in _ (by omega)
      have k3 : IntKind.u32.wrap ((x : Int) + (c : Int)) = (x : Int) + (c : Int) := IntWalk.u32_in _ (by omega)
      have k4 : IntKind.u32.wrap (2 * ((x : Int) + (c : Int))) = 2 * ((x : Int) + (c : Int)) := IntWalk.u32_in _ (by omega)
      have k5 : ((m : Int) + 1).toNat = m + 1 := by omega
      have k6 : (0 : Int) ≤ (m : Int) + 1 := by omega
      have k7 : (m : Int) + 1 < 16 := by omega
      have k8 : (m : Int) < 16 := by omega
      go_wp2_with fail
      go_still_tail 13, (by kernel_rfl)
      change wpList _ _ _ _ _ wr.drew
      have HW2 : Hid (Blk wr.drew (w.heap.size + 1 + 1) 171 F) := HF
      have HX2 : Hid (Blk wr.drew (w.heap.size + 1) 171 u16z) := HX
      have HC2 : Hid (Blk wr.drew w.heap.size 144 C) := HC
      have HB2 : Hid (Below w.heap.size w wr.drew) := Lib.hid HB.out.drew
      have hc4 : wr.drew.cell? ⟨w.heap.size + 1 + 1, m + 1, none⟩ = some old := hc3
      have hfr2 : wr.drew.frozen? ⟨w.heap.size + 1 + 1, m + 1, none⟩ = false := hfr
      clear HF HX HC HB hc1 hc2 hc3 hfr k1 k2 k3 k4 k5 k6 k7 k8
      generalize wr.drew = w2 at *
      have HW3 : Hid (Wrds (F.setIfInBounds (m + 1) (.int .u32 (2 * ((x : Int) + (c : Int))))) (ff ls (m + 1 + 1))) := Lib.hid (HW.out.set (m + 1) _ (by rw [HFN.out, HS.out]; omega) HFF.out)
      go_wp2_with fail
      go_roundw
      case rel => exact ⟨m + 1 + 1, _, by omega, by omega, by go_num, HW3, Lib.hid (HW2.out.set_ (m + 1) _), Lib.hid (HX2.out.same (Below.heap_setCell _ _ _ _ (by simp))), Lib.hid (HC2.out.same (Below.heap_setCell _ _ _ _ (by simp; omega))), Lib.hid (HB2.out.setCell (p := ⟨w.heap.size + 1 + 1, m + 1, none⟩) (by simp; omega) _)⟩
      case measure => simp [intOf]; omega
    · obtain rfl : n = 16 := by omega
      have HS : Hid ((Tryz.prog.info? 171).map (·.size) = some F.size) := Lib.hid (by rw [HW.out.size]; exact info_wrd)
      have HS2 : Hid (u16z.size = F.size) := Lib.hid (by rw [HW.out.size]; rfl)
      go_wp2_with (first
        | (refine wpList_load_row rfl 171 _ rfl (w.heap.size + 1 + 1) rfl 171 F (0, 0) _ HF.out Tryz.underlying171 rfl HS.out ?_)
        | (refine wpList_store_row rfl _ _ _ rfl (w.heap.size + 1) _ rfl rfl 171 u16z HX.out HS.out HS2.out HW.out.one ?_))
      exact firsts_ret rfl rfl (HX.out.row F) HW.out.size ⟨⟨F, HW.out.same (fun i hi => by unfold ff; rw [if_pos hi]), rfl⟩, below_row HB.out (by omega) _⟩
end Go.Proofs.YtilfmmjjiiabgaaGreatDoor.CanC
end

section
/-
  canon.Codes where lengths make no code (Kraft, Kind: CanDk).
-/
namespace Go.Proofs.YtilfmmjjiiabgaaGreatDoor.CanC
open Go.RowKit Go.My BitMath CanMath

theorem ret_pair {a b : Value} {x : Value} (h : a = b) : Ending.returned (.tuple #[a, x]) = .returned (.tuple #[b, x]) := by rw [h]

section
variable {a : Option Addr} {len cap : Nat} {zs : List Int} {w : World}
set_option maxRecDepth 100000 in
set_option maxHeartbeats 2000000 in
theorem codes_bad (h : RowIn w a len cap (zs.map iv)) (hg : ¬ Good zs) :
    Calls Tryz.prog 130 #[.slice a len cap] w fun e w' => e = .returned (.tuple #[.slice none 0 0, .int .i64 7]) ∧ Below w.heap.size w w' := by
  have HG := Lib.hid hg
  have HR := Lib.hid h
  clear hg h
  go_enter Tryz.func130, Tryz.ntmps130
  go_wp2_with fail
  refine (tally_any a len cap zs w HR.out).mono ?_
  rintro e w2 ⟨he, hb2⟩
  obtain ⟨C, f, hN, rfl⟩ := he.2 HG.out
  have HN := Lib.hid hN
  have HB := Lib.hid hb2
  have HS : Hid ((Tryz.prog.info? 144).map (·.size) = some C.size) := Lib.hid (by rw [hN.size]; exact info_cnt)
  have HS2 : Hid (z16.size = C.size) := Lib.hid (by rw [hN.size]; rfl)
  have HX : Hid (Blk (w2.alloc (.cells z16 144)) w2.heap.size 144 z16) := Lib.hid (Blk.new w2 _ _)
  clear he hN hb2
  go_wp2_with (first
    | (refine wpList_store_row rfl _ _ _ rfl w2.heap.size _ rfl rfl 144 z16 HX.out HS.out HS2.out HN.out.one ?_))
  go_ret2
  exact ⟨rfl, below_row (HB.out.alloc HB.out.size _) HB.out.size C⟩
end

/-- The code of the symbol at place i, 0 if it has none. -/
def codeW (ls : List Nat) (i : Nat) : Nat := match ls[i]? with | some n => if n = 0 then 0 else codeN ls n i | none => 0
theorem codeW_eq (ls : List Nat) (i : Nat) (h : i < ls.length) : codeW ls i = if ls[i] = 0 then 0 else codeN ls ls[i] i := by
  unfold codeW; rw [List.getElem?_eq_getElem h]
/-- What Codes has laid behind k rounds. -/
def words (ls : List Nat) (k : Nat) : List Nat := (List.range ls.length).map fun i => if i < k then codeW ls i else 0
theorem words_len (ls : List Nat) (k : Nat) : (words ls k).length = ls.length := by simp [words]
theorem words_zero (ls : List Nat) : (words ls 0).map uv = List.replicate ls.length (uv 0) := by
  apply List.ext_getElem
  · simp [words]
  · intro i h1 h2; simp [words]
theorem words_set (ls : List Nat) (k : Nat) : ((words ls k).map uv).set k (uv (codeW ls k)) = (words ls (k + 1)).map uv := by
  apply List.ext_getElem
  · simp [words]
  · intro i h1 h2
    rw [List.getElem_set]
    simp only [List.getElem_map, words, List.getElem_range]
    by_cases h : k = i
    · subst h; simp
    · rw [if_neg h]
      by_cases hlt : i < k
      · rw [if_pos hlt, if_pos (by omega)]
      · rw [if_neg hlt, if_neg (by omega)]
theorem words_skip (ls : List Nat) (k : Nat) (h : codeW ls k = 0) : words ls k = words ls (k + 1) := by
  unfold words
  apply List.map_congr_left
  intro i _
  by_cases hi : i = k
  · subst hi; simp [h]
  · by_cases hlt : i < k
    · rw [if_pos hlt, if_pos (by omega)]
    · rw [if_neg hlt, if_neg (by omega)]
/-- The next code of each length behind k rounds. -/
def nf (ls : List Nat) (k n : Nat) : Nat := if n = 0 then 0 else codeN ls n k
theorem nf_zero (ls : List Nat) (n : Nat) : nf ls 0 n = first ls n := by
  unfold nf codeN
  split
  · next h => subst h; rfl
  · simp
theorem nf_succ (ls : List Nat) (k n : Nat) (h : k < ls.length) : nf ls (k + 1) n = nf ls k n + (if n = ls[k] ∧ 0 < n then 1 else 0) := by
  unfold nf codeN
  by_cases h0 : n = 0
  · subst h0; rw [if_pos rfl, if_pos rfl, if_neg (by omega)]
  · rw [if_neg h0, if_neg h0, count_take_succ ls k n h]
    by_cases he : n = ls[k]
    · rw [if_pos he.symm, if_pos ⟨he, by omega⟩]; omega
    · rw [if_neg (fun e => he e.symm), if_neg (fun e => he e.1)]; omega
theorem nf_le (ls : List Nat) (hall : ∀ x ∈ ls, x ≤ 15) (hk : kr ls ≤ 32768) (hl : ls.length ≤ 65536) (k n : Nat) (hn : n ≤ 15) : nf ls k n ≤ 98304 := by
  unfold nf codeN
  split
  · omega
  · have h1 := first_le ls hall hk n hn
    have h2 := count_take_le ls k n
    have h3 : ls.count n ≤ ls.length := List.count_le_length
    omega
/-- All codes. -/
def allWords (ls : List Nat) : List Value := (words ls ls.length).map uv
theorem allWords_len (ls : List Nat) : (allWords ls).length = ls.length := by simp [allWords, words_len]
theorem allWords_get (ls : List Nat) (i : Nat) (h : i < ls.length) : (allWords ls)[i]'(by rw [allWords_len]; exact h) = uv (codeW ls i) := by
  simp [allWords, words, h]

def CodesOk (zs : List Int) (w : World) (e : Ending) (w' : World) : Prop := ∃ g, e = .returned (.tuple #[.slice (some ⟨g, 0, none⟩) zs.length zs.length, .int .i64 0]) ∧ w.heap.size ≤ g ∧ OwnV 32 w.heap.size w' (.slice (some ⟨g, 0, none⟩) zs.length zs.length) (allWords (nat zs)) ∧ Below w.heap.size w w'
theorem info_u32 : (Tryz.prog.info? 32).map (fun i => (i.zero, i.size, i.bytes)) = some (some (.int .u32 0), 1, 4) := by kernel_rfl
end Go.Proofs.YtilfmmjjiiabgaaGreatDoor.CanC
end
