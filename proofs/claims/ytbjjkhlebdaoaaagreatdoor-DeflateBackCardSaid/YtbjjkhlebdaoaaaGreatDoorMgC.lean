import Derived.Test.YtbjjkhlebdaoaaaGreatDoorRows
import Derived.Test.YtbjjkhlebdaoaaaGreatDoorMgB
import Derived.Test.YtbjjkhlebdaoaaaGreatDoorMgA
import Derived.Laws.Pointers
import Derived.Deep.QuietTactic
import Derived.BigQuiet
import Derived.Deep.DeepCutAuto
import Derived.Deep.CutBlock
import Derived.StillTailTactics
import Derived.Laws.CopyOwn
import Derived.Deep.RegionLaw
import Derived.Lib.AppendZerosOnto

section
/-
  canon.tally: lengths are counted; which may be.
-/
namespace Go.Proofs.YtbjjkhlebdaoaaaGreatDoor.CanC
open Go.RowKit Go.My BitMath CanMath

def iv (z : Int) : Value := .int .i64 z
/-- Lengths that may be. -/
def Good (zs : List Int) : Prop := zs.length ≤ 65536 ∧ ∀ z ∈ zs, 0 ≤ z ∧ z ≤ 15
/-- The lengths as numbers. -/
def nat (zs : List Int) : List Nat := zs.map Int.toNat
theorem nat_len (zs : List Int) : (nat zs).length = zs.length := by simp [nat]
theorem nat_get (zs : List Int) (i : Nat) (h : i < zs.length) : (nat zs)[i]'(by rw [nat_len]; exact h) = zs[i].toNat := by simp [nat]
theorem Good.all {zs : List Int} (h : Good zs) : ∀ x ∈ nat zs, x ≤ 15 := by
  intro x hx
  obtain ⟨z, hz, rfl⟩ := List.mem_map.1 hx
  have := h.2 z hz
  omega
/-- A row of 16 numbers. -/
structure Cnts (C : Array Value) (f : Nat → Nat) : Prop where
  size : C.size = 16
  at_ : ∀ i, i < 16 → C[i]? = some (.int .i64 ((f i : Nat) : Int))
theorem Cnts.one {C : Array Value} {f : Nat → Nat} (h : Cnts C f) : C.all (·.oneCell') = true := by
  rw [Array.all_eq_true]
  intro i hi
  have := h.at_ i (by rw [← h.size]; exact hi)
  rw [Array.getElem?_eq_getElem hi] at this
  injection this with this
  rw [this]
  rfl
theorem Cnts.set {C : Array Value} {f g : Nat → Nat} (h : Cnts C f) (n : Nat) (x : Int) (hx : x = (g n : Int)) (hg : ∀ i, i ≠ n → g i = f i) : Cnts (C.setIfInBounds n (.int .i64 x)) g := by
  refine ⟨by rw [Array.size_setIfInBounds]; exact h.size, fun i hi => ?_⟩
  rw [Array.getElem?_setIfInBounds]
  by_cases he : n = i
  · subst he
    rw [if_pos rfl, if_pos (by rw [h.size]; exact hi), hx]
  · rw [if_neg he, h.at_ i hi, hg i (fun e => he e.symm)]
/-- How many there are of each length but 0. -/
def cf (ls : List Nat) (n : Nat) : Nat := if n = 0 then 0 else ls.count n
theorem cf_le (ls : List Nat) (n : Nat) : cf ls n ≤ ls.length := by
  unfold cf; split
  · omega
  · exact List.count_le_length

theorem cf_none (ls : List Nat) : cf (ls.take 0) = fun _ => 0 := by
  funext i; unfold cf; simp

/-- What tally hands back. -/
def TallyPost (zs : List Int) (e : Ending) : Prop :=
  (Good zs → ∃ C, Cnts C (cf (nat zs)) ∧ e = .returned (.tuple #[.agg C, .bool true])) ∧ (¬ Good zs → ∃ C f, Cnts C f ∧ e = .returned (.tuple #[.agg C, .bool false]))

abbrev z16 : Array Value := #[.int .i64 0, .int .i64 0, .int .i64 0, .int .i64 0, .int .i64 0, .int .i64 0, .int .i64 0, .int .i64 0, .int .i64 0, .int .i64 0, .int .i64 0, .int .i64 0, .int .i64 0, .int .i64 0, .int .i64 0, .int .i64 0]
theorem z16_cnts : Cnts z16 (fun _ => 0) := ⟨rfl, by
  intro i hi
  have e : z16 = Array.replicate 16 (Value.int .i64 0) := rfl
  rw [e, Array.getElem?_replicate, if_pos hi]
  rfl⟩
theorem info_cnt : (Tryz.prog.info? 159).map (·.size) = some 16 := by kernel_rfl

theorem tally_ret {a : Act} {w : World} {g : Nat} {C : Array Value} {b : Bool} {R : Ending → World → Prop} (hd : a.defers = []) (hp : a.tmps.getD 2 undef = .pointer (some ⟨g, 0, none⟩)) (hb : a.tmps.getD 3 undef = .bool b)
    (hg : Blk w g 159 C) (hs : C.size = 16) (h : R (.returned (.tuple #[.agg C, .bool b])) w) :
    bodyPost Tryz.prog Tryz.f99 R .ret a w := by
  refine bodyPost_ret (v := .tuple #[.agg C, .bool b]) ?_ hd h
  have hp' : a.tmps[2]?.getD undef = .pointer (some ⟨g, 0, none⟩) := by simpa using hp
  have hb' : a.tmps[3]?.getD undef = .bool b := by simpa using hb
  simp [results, hp', hb', asAddr, run_loadVar_row (P := Tryz.prog) w g 159 159 C (0, 0) _ hg Tryz.underlying159 rfl (by rw [hs]; exact info_cnt)]

theorem nat_snoc (zs : List Int) (k : Nat) (h : k < zs.length) (n : Nat) (hn : zs[k] = (n : Int)) : (nat zs).take (k + 1) = (nat zs).take k ++ [n] := by
  rw [List.take_succ_eq_append_getElem (by rw [nat_len]; exact h), nat_get zs k h, hn]
  simp
theorem cf_snoc (ls : List Nat) (n i : Nat) : cf (ls ++ [n]) i = cf ls i + (if i = n ∧ 0 < n then 1 else 0) := by
  unfold cf
  by_cases hi : i = 0
  · subst hi
    rw [if_pos rfl, if_pos rfl, if_neg (by omega)]
  · rw [if_neg hi, if_neg hi, List.count_append, List.count_singleton]
    by_cases he : i = n
    · subst he; simp; omega
    · rw [if_neg (by simpa using fun e => he e.symm), if_neg (by omega)]

set_option maxRecDepth 100000 in
set_option maxHeartbeats 4000000 in
theorem tally_any (a : Option Addr) (len cap : Nat) (zs : List Int) (w : World) (h : RowIn w a len cap (zs.map iv)) :
    Calls Tryz.prog 99 #[.slice a len cap] w fun e w' => TallyPost zs e ∧ Below w.heap.size w w' := by
  have hzl : zs.length = len := by have := h.len_eq; simpa using this
  have hlc := h.le_cap
  have hcl := h.cap_le
  have HR := Lib.hid h
  have HZ := Lib.hid hzl
  clear h hzl
  go_enter Tryz.func99, Tryz.ntmps99
  go_upto_region 2 with (fail)
  generalize hW : (w.alloc (.cells z16 159)).alloc (.cells z16 159) = w1
  have HB : Hid (Below w.heap.size w w1) := Lib.hid (by rw [← hW]; exact ((Below.refl _ w).alloc (Nat.le_refl _) _).alloc (by simp) _)
  have HX : Hid (Blk w1 w.heap.size 159 z16) := Lib.hid (by rw [← hW]; exact (Blk.new w _ _).alloc _)
  have HC : Hid (Blk w1 (w.heap.size + 1) 159 z16) := Lib.hid (by rw [← hW]; have := Blk.new (w.alloc (.cells z16 159)) 159 z16; simpa using this)
  clear hW
  by_cases hbig : 65536 < len
  · go_wp2_with (first
      | (refine wpList_load_row rfl 159 _ rfl (w.heap.size + 1) rfl 159 z16 (0, 0) _ HC.out Tryz.underlying159 rfl (by kernel_rfl) ?_)
      | (refine wpList_store_row rfl _ _ _ rfl w.heap.size _ rfl rfl 159 z16 HX.out (by kernel_rfl) rfl (by kernel_rfl) ?_))
    exact tally_ret rfl rfl rfl (HX.out.row z16) rfl ⟨⟨fun hg => by have := hg.1; have := HZ.out; omega, fun _ => ⟨z16, _, z16_cnts, rfl⟩⟩, below_row HB.out (Nat.le_refl _) _⟩
  · go_wp2_with fail
    go_loopw [6, 13] (fun _ i wr => ∃ (k : Nat) (C : Array Value), k ≤ len ∧ i = .int .i64 (k : Int) ∧ Hid (∀ j (h : j < zs.length), j < k → 0 ≤ zs[j] ∧ zs[j] ≤ 15) ∧ Hid (Cnts C (cf ((nat zs).take k))) ∧ Hid (Blk wr (w.heap.size + 1) 159 C) ∧ Hid (Blk wr w.heap.size 159 z16) ∧ Hid (Below w.heap.size w wr)) (fun _ i _ => len - (intOf i).toNat)
    case atStart => exact ⟨0, z16, Nat.zero_le _, rfl, Lib.hid (fun j _ h => by omega), Lib.hid (by rw [cf_none]; exact z16_cnts), HC, HX, HB⟩
    case round =>
      clear HB HX HC
      obtain ⟨k, C, hk, rfl, HG, HN, HC, HX, HB⟩ := hrel
      have HS : Hid ((Tryz.prog.info? 159).map (·.size) = some C.size) := Lib.hid (by rw [HN.out.size]; exact info_cnt)
      have HS2 : Hid (z16.size = C.size) := Lib.hid (by rw [HN.out.size]; rfl)
      by_cases hlt : k < len
      · obtain ⟨b, off, rfl⟩ := HR.out.some_ (by omega)
        have hkz : k < zs.length := by rw [HZ.out]; exact hlt
        have hcz : wr.cell? ⟨b, off + k, none⟩ = some (.int .i64 zs[k]) := by
          rw [HB.out.cell (p := ⟨b, off + k, none⟩) (HR.out.lt (by omega)), HR.out.get k (by simpa using hkz)]
          simp [iv]
        obtain ⟨z, hz⟩ : ∃ z, z = zs[k] := ⟨_, rfl⟩
        rw [← hz] at hcz
        have HZK := Lib.hid hz
        clear hz
        by_cases hneg : z < 0
        · go_wp2_with (first
            | (refine wpList_load_row rfl 159 _ rfl (w.heap.size + 1) rfl 159 C (0, 0) _ HC.out Tryz.underlying159 rfl HS.out ?_)
            | (refine wpList_store_row rfl _ _ _ rfl w.heap.size _ rfl rfl 159 z16 HX.out HS.out HS2.out HN.out.one ?_))
          exact tally_ret rfl rfl rfl (HX.out.row C) HN.out.size ⟨⟨fun hg => by have := hg.2 z (by rw [HZK.out]; exact List.getElem_mem hkz); omega, fun _ => ⟨C, _, HN.out, rfl⟩⟩, below_row HB.out (Nat.le_refl _) _⟩
        · by_cases hgt : 15 < z
          · go_wp2_with (first
              | (refine wpList_load_row rfl 159 _ rfl (w.heap.size + 1) rfl 159 C (0, 0) _ HC.out Tryz.underlying159 rfl HS.out ?_)
              | (refine wpList_store_row rfl _ _ _ rfl w.heap.size _ rfl rfl 159 z16 HX.out HS.out HS2.out HN.out.one ?_))
            exact tally_ret rfl rfl rfl (HX.out.row C) HN.out.size ⟨⟨fun hg => by have := hg.2 z (by rw [HZK.out]; exact List.getElem_mem hkz); omega, fun _ => ⟨C, _, HN.out, rfl⟩⟩, below_row HB.out (Nat.le_refl _) _⟩
          · obtain ⟨n, rfl⟩ : ∃ n : Nat, z = (n : Int) := ⟨z.toNat, by omega⟩
            have HG1 : Hid (∀ j (h : j < zs.length), j < k + 1 → 0 ≤ zs[j] ∧ zs[j] ≤ 15) := Lib.hid (by
              intro j h hj
              by_cases he : j = k
              · subst he
                rw [← HZK.out]; omega
              · exact HG.out j h (by omega))
            have HTK : Hid ((nat zs).take (k + 1) = (nat zs).take k ++ [n]) := Lib.hid (nat_snoc zs k hkz n HZK.out.symm)
            by_cases h0 : 0 < n
            · have hn15 : n < 16 := by omega
              have hcell : wr.cell? ⟨w.heap.size + 1, n, none⟩ = some (.int .i64 ((cf ((nat zs).take k) n : Nat) : Int)) := by
                rw [HC.out.cell n]; exact HN.out.at_ n hn15
              have hfree : wr.frozen? ⟨w.heap.size + 1, n, none⟩ = false := HC.out.frozen n
              have hcl2 : cf ((nat zs).take k) n ≤ 65536 := Nat.le_trans (cf_le _ _) (by simp; omega)
              have HN1 : Hid (Cnts (C.setIfInBounds n (.int .i64 (((cf ((nat zs).take k) n : Nat) : Int) + 1))) (cf ((nat zs).take (k + 1)))) := Lib.hid (by
                rw [HTK.out]
                refine HN.out.set n _ (by rw [cf_snoc, if_pos ⟨rfl, h0⟩]; omega) (fun i hi => by rw [cf_snoc, if_neg (by omega)]; rfl))
              generalize cf ((nat zs).take k) n = y at *
              go_wp2_with fail
              go_roundw
              case rel => exact ⟨k + 1, _, by omega, by go_num, HG1, HN1, Lib.hid (HC.out.set_ n _), Lib.hid (HX.out.same (Below.heap_setCell _ _ _ _ (by simp))), Lib.hid (HB.out.setCell (p := ⟨w.heap.size + 1, n, none⟩) (by simp) _)⟩
              case measure => simp [intOf]; omega
            · obtain rfl : n = 0 := by omega
              have HN1 : Hid (Cnts C (cf ((nat zs).take (k + 1)))) := Lib.hid (by
                rw [HTK.out]
                exact ⟨HN.out.size, fun i hi => by rw [cf_snoc, if_neg (by omega)]; exact HN.out.at_ i hi⟩)
              go_wp2_with fail
              go_roundw
              case rel => exact ⟨k + 1, _, by omega, by go_num, HG1, HN1, HC, HX, HB⟩
              case measure => simp [intOf]; omega
      · obtain rfl : k = len := by omega
        have HT : Hid ((nat zs).take k = nat zs) := Lib.hid (List.take_of_length_le (by rw [nat_len, HZ.out]; omega))
        go_wp2_with (first
          | (refine wpList_load_row rfl 159 _ rfl (w.heap.size + 1) rfl 159 C (0, 0) _ HC.out Tryz.underlying159 rfl HS.out ?_)
          | (refine wpList_store_row rfl _ _ _ rfl w.heap.size _ rfl rfl 159 z16 HX.out HS.out HS2.out HN.out.one ?_))
        exact tally_ret rfl rfl rfl (HX.out.row C) HN.out.size ⟨⟨fun _ => ⟨C, by have := HN.out; rwa [HT.out] at this, rfl⟩, fun hn => absurd ⟨by rw [HZ.out]; omega, fun z hz => by
          obtain ⟨j, hj, rfl⟩ := List.getElem_of_mem hz
          exact HG.out j hj (by rw [← HZ.out]; exact hj)⟩ hn⟩, below_row HB.out (Nat.le_refl _) _⟩
end Go.Proofs.YtbjjkhlebdaoaaaGreatDoor.CanC
end

section
/-
  canon's counts: Kraft's sum of them, their kind.
-/
namespace Go.Proofs.YtbjjkhlebdaoaaaGreatDoor.CanC
open Go.RowKit Go.My BitMath CanMath

theorem part_any (C : Array Value) (f : Nat → Nat) (h : Cnts C f) (k : Nat) (hk : k < 16) (w : World) : (Instr.index 159 (.agg C) (.int .i64 (k : Int))).run Tryz.prog w = .ok (.int .i64 ((f k : Nat) : Int)) w := by
  have hc := h.at_ k hk
  have hs : (sizeOf 3).run Tryz.prog w = .ok 1 w := by kernel_rfl
  unfold Instr.index
  simp [run_underlying Tryz.underlying159, asIntOf, hs, hk, Go.part, hc]

/-- Kraft's sum of counts. -/
def ksum (f : Nat → Nat) : Nat → Nat
  | 0 => 0
  | k + 1 => ksum f k + f k * 2 ^ (15 - k)
theorem ksum_low (ls : List Nat) (k : Nat) : ksum (cf ls) k = low ls k := by
  induction k with
  | zero => rw [low_zero]; rfl
  | succ k ih =>
    rw [ksum, ih, low_succ]
    unfold cf share
    by_cases h : k = 0
    · subst h; simp
    · rw [if_neg h, if_neg h]
theorem ksum_le (f : Nat → Nat) (hf : ∀ i, f i ≤ 65536) (k : Nat) : ksum f k ≤ 2147483648 * k := by
  induction k with
  | zero => simp [ksum]
  | succ k ih =>
    rw [ksum]
    have h1 : 2 ^ (15 - k) ≤ 2 ^ 15 := Nat.pow_le_pow_right (by omega) (by omega)
    have h2 : f k * 2 ^ (15 - k) ≤ 65536 * 2 ^ 15 := Nat.mul_le_mul (hf k) h1
    omega

set_option maxRecDepth 100000 in
set_option maxHeartbeats 2000000 in
theorem kraft_any (C : Array Value) (f : Nat → Nat) (w : World) (h : Cnts C f) (hf : ∀ i, f i ≤ 65536) :
    Calls Tryz.prog 108 #[.agg C] w fun e w' => e = .returned (.int .i64 ((ksum f 16 : Nat) : Int)) ∧ Below w.heap.size w w' := by
  have HN := Lib.hid h
  have HF := Lib.hid hf
  have HS : Hid ((Tryz.prog.info? 159).map (·.size) = some C.size) := Lib.hid (by rw [h.size]; exact info_cnt)
  clear h hf
  go_enter Tryz.func108, Tryz.ntmps108
  go_upto_region 2 with (fail)
  have HB : Hid (Below w.heap.size w (w.alloc (.cells C 159))) := Lib.hid ((Below.refl _ w).alloc (Nat.le_refl _) _)
  have HC : Hid (Blk (w.alloc (.cells C 159)) w.heap.size 159 C) := Lib.hid (Blk.new w _ _)
  generalize w.alloc (.cells C 159) = w1 at *
  go_wp2_with (refine wpList_load_row rfl 159 _ rfl w.heap.size rfl 159 C (0, 0) _ HC.out Tryz.underlying159 rfl HS.out ?_)
  go_loop [3, 4, 5, 7] (fun s _ _ i => ∃ k : Nat, k ≤ 16 ∧ i = .int .i64 (k : Int) ∧ s = .int .i64 ((ksum f k : Nat) : Int)) (fun _ _ _ i => 16 - (intOf i).toNat)
  case atStart => exact ⟨0, by omega, rfl, rfl⟩
  case round =>
    obtain ⟨k, hk, rfl, rfl⟩ := hrel
    by_cases hlt : k < 16
    · have hp := fun wx => part_any C f HN.out k hlt wx
      have hk1 := HF.out k
      have hks := ksum_le f HF.out k
      have h1 : 2 ^ (15 - k) ≤ 2 ^ 15 := Nat.pow_le_pow_right (by omega) (by omega)
      have h2 : f k * 2 ^ (15 - k) ≤ 65536 * 2 ^ 15 := Nat.mul_le_mul hk1 h1
      have HK : Hid (ksum f (k + 1) = ksum f k + f k * 2 ^ (15 - k)) := Lib.hid rfl
      generalize hx : f k = x at *
      have hm : (15 - (k : Int)).toNat = 15 - k := by omega
      have hm2 : min (15 - k) 64 = 15 - k := by omega
      have hsh : IntKind.i64.wrap ((x : Int) * 2 ^ (15 - k)) = ((x * 2 ^ (15 - k) : Nat) : Int) := by
        have e : (x : Int) * 2 ^ (15 - k) = ((x * 2 ^ (15 - k) : Nat) : Int) := by push_cast; rfl
        rw [e, IntWalk.i64_in _ (by omega)]
      generalize ksum f k = s at *
      generalize x * 2 ^ (15 - k) = y at *
      clear hx h1
      go_wp2_with fail
      go_round
      case rel => exact ⟨k + 1, by omega, by go_num, by rw [HK.out]; go_num⟩
      case measure => simp [intOf]; omega
    · obtain rfl : k = 16 := by omega
      go_wp2_with fail
      go_ret
      exact ⟨rfl, HB.out⟩

/-- What lengths are. -/
def kindN (ls : List Nat) : Int := if 32768 < kr ls then 4 else if kr ls = 0 then 0 else if kr ls = 32768 then 1 else if kr ls = 16384 ∧ ls.count 1 = 1 then 2 else 3

set_option maxRecDepth 100000 in
set_option maxHeartbeats 2000000 in
theorem kind_any (C : Array Value) (ls : List Nat) (w : World) (h : Cnts C (cf ls)) (hall : ∀ x ∈ ls, x ≤ 15) (hlen : ls.length ≤ 65536) :
    Calls Tryz.prog 100 #[.agg C] w fun e w' => e = .returned (.int .i64 (kindN ls)) ∧ Below w.heap.size w w' := by
  have HK : Hid (ksum (cf ls) 16 = kr ls) := Lib.hid (by rw [ksum_low, low_all ls hall])
  have HKN : Hid (kindN ls = if 32768 < kr ls then 4 else if kr ls = 0 then 0 else if kr ls = 32768 then 1 else if kr ls = 16384 ∧ ls.count 1 = 1 then 2 else 3) := Lib.hid rfl
  have HF : Hid (∀ i, cf ls i ≤ 65536) := Lib.hid fun i => Nat.le_trans (cf_le ls i) hlen
  have HC1 : Hid (C[1]? = some (.int .i64 ((ls.count 1 : Nat) : Int))) := Lib.hid (by have := h.at_ 1 (by omega); simpa [cf] using this)
  have hc1 : ls.count 1 ≤ 65536 := Nat.le_trans List.count_le_length hlen
  have HN := Lib.hid h
  have hkr : kr ls ≤ 16384 * ls.length := kr_le ls
  have HS : Hid ((Tryz.prog.info? 159).map (·.size) = some C.size) := Lib.hid (by rw [h.size]; exact info_cnt)
  clear h hall
  generalize kindN ls = X at *
  go_enter Tryz.func100, Tryz.ntmps100
  go_upto_region 1 with (fail)
  have HB : Hid (Below w.heap.size w (w.alloc (.cells C 159))) := Lib.hid ((Below.refl _ w).alloc (Nat.le_refl _) _)
  have HC : Hid (Blk (w.alloc (.cells C 159)) w.heap.size 159 C) := Lib.hid (Blk.new w _ _)
  generalize w.alloc (.cells C 159) = w1 at *
  go_wp2_with (refine wpList_load_row rfl 159 _ rfl w.heap.size rfl 159 C (0, 0) _ HC.out Tryz.underlying159 rfl HS.out ?_)
  refine (kraft_any C _ w1 HN.out HF.out).mono ?_
  rw [HK.out]
  rintro e w2 ⟨rfl, hb2⟩
  have HB2 := Lib.hid (HB.out.trans (hb2.mono HB.out.size))
  have HC2 : Hid (Blk w2 w.heap.size 159 C) := Lib.hid (HC.out.same (hb2.block _ HC.out.lt))
  have hcell : w2.cell? ⟨w.heap.size, 1, none⟩ = some (.int .i64 ((ls.count 1 : Nat) : Int)) := by rw [HC2.out.cell 1]; exact HC1.out
  clear hb2 HC HB HK HN HF HC1
  generalize ls.count 1 = c at *
  generalize kr ls = K at *
  by_cases h1 : 32768 < K
  · go_wp2_with fail
    go_ret
    exact ⟨ret_int (by rw [HKN.out, if_pos h1]), HB2.out⟩
  · by_cases h2 : K = 0
    · subst h2
      go_wp2_with fail
      go_ret
      exact ⟨ret_int (by rw [HKN.out]; rfl), HB2.out⟩
    · by_cases h3 : K = 32768
      · subst h3
        go_wp2_with fail
        go_ret
        exact ⟨ret_int (by rw [HKN.out]; rfl), HB2.out⟩
      · have e2 : ((K : Int) == 0) = false := by simp; omega
        have e3 : ((K : Int) == 32768) = false := by simp; omega
        by_cases h4 : K = 16384
        · subst h4
          by_cases h5 : c = 1
          · subst h5
            clear h1 h2 h3 e2 e3
            go_wp2_with fail
            go_ret
            exact ⟨ret_int (by rw [HKN.out]; rfl), HB2.out⟩
          · have e5 : ((c : Int) == 1) = false := by simp; omega
            have H5 := Lib.hid h5
            clear h1 h2 h3 e2 e3 h5
            go_wp2_with fail
            go_ret
            exact ⟨ret_int (by rw [HKN.out, if_neg (by omega), if_neg (by omega), if_neg (by omega), if_neg (fun hh => H5.out hh.2)]), HB2.out⟩
        · have e4 : ((K : Int) == 16384) = false := by simp; omega
          have H2 := Lib.hid h2
          have H3 := Lib.hid h3
          have H4 := Lib.hid h4
          clear h2 h3 h4
          go_wp2_with fail
          go_ret
          exact ⟨ret_int (by rw [HKN.out, if_neg h1, if_neg H2.out, if_neg H3.out, if_neg (fun hh => H4.out hh.1)]), HB2.out⟩
end Go.Proofs.YtbjjkhlebdaoaaaGreatDoor.CanC
end

section
/-
  canon.firsts: the first code of each length.
-/
namespace Go.Proofs.YtbjjkhlebdaoaaaGreatDoor.CanC
open Go.RowKit Go.My BitMath CanMath

def uv (n : Nat) : Value := .int .u32 (n : Int)
/-- A row of 16 words. -/
structure Wrds (C : Array Value) (f : Nat → Nat) : Prop where
  size : C.size = 16
  at_ : ∀ i, i < 16 → C[i]? = some (uv (f i))
theorem Wrds.one {C : Array Value} {f : Nat → Nat} (h : Wrds C f) : C.all (·.oneCell') = true := by
  rw [Array.all_eq_true]
  intro i hi
  have := h.at_ i (by rw [← h.size]; exact hi)
  rw [Array.getElem?_eq_getElem hi] at this
  injection this with this
  rw [this]
  rfl
theorem Wrds.set {C : Array Value} {f g : Nat → Nat} (h : Wrds C f) (n : Nat) (x : Int) (hx : x = (g n : Int)) (hg : ∀ i, i ≠ n → g i = f i) : Wrds (C.setIfInBounds n (.int .u32 x)) g := by
  refine ⟨by rw [Array.size_setIfInBounds]; exact h.size, fun i hi => ?_⟩
  rw [Array.getElem?_setIfInBounds]
  by_cases he : n = i
  · subst he
    rw [if_pos rfl, if_pos (by rw [h.size]; exact hi), hx]; rfl
  · rw [if_neg he, h.at_ i hi, hg i (fun e => he e.symm)]
theorem Wrds.same {C : Array Value} {f g : Nat → Nat} (h : Wrds C f) (hg : ∀ i, i < 16 → g i = f i) : Wrds C g := ⟨h.size, fun i hi => by rw [h.at_ i hi, hg i hi]⟩
abbrev u16z : Array Value := #[.int .u32 0, .int .u32 0, .int .u32 0, .int .u32 0, .int .u32 0, .int .u32 0, .int .u32 0, .int .u32 0, .int .u32 0, .int .u32 0, .int .u32 0, .int .u32 0, .int .u32 0, .int .u32 0, .int .u32 0, .int .u32 0]
theorem u16z_wrds : Wrds u16z (fun _ => 0) := ⟨rfl, by
  intro i hi
  have e : u16z = Array.replicate 16 (Value.int .u32 0) := rfl
  rw [e, Array.getElem?_replicate, if_pos hi]
  rfl⟩
theorem info_wrd : (Tryz.prog.info? 162).map (·.size) = some 16 := by kernel_rfl
theorem firsts_ret {a : Act} {w : World} {g : Nat} {C : Array Value} {R : Ending → World → Prop} (hd : a.defers = []) (hp : a.tmps.getD 2 undef = .pointer (some ⟨g, 0, none⟩))
    (hg : Blk w g 162 C) (hs : C.size = 16) (h : R (.returned (.agg C)) w) :
    bodyPost Tryz.prog Tryz.f101 R .ret a w :=
  bodyPost_ret (results_cell_row rfl _ _ g _ _ _ _ hp hg Tryz.underlying162 rfl (by rw [hs]; exact info_wrd)) hd h

theorem first_le (ls : List Nat) (hall : ∀ x ∈ ls, x ≤ 15) (hk : kr ls ≤ 32768) (n : Nat) (hn : n ≤ 15) : first ls n ≤ 32768 := by
  rcases Nat.eq_zero_or_pos n with rfl | h0
  · simp [first]
  · have h := first_low ls n h0 hn
    have h2 : low ls n ≤ kr ls := by rw [← low_all ls hall]; exact low_mono ls (by omega)
    have h3 := Nat.le_mul_of_pos_right (first ls n) (Nat.two_pow_pos (15 - n))
    omega
/-- The first codes, so many of them. -/
def ff (ls : List Nat) (n i : Nat) : Nat := if i < n then first ls i else 0
theorem ff_two (ls : List Nat) : ff ls 2 = fun _ => 0 := by
  funext i
  unfold ff
  split
  · obtain h | h : i = 0 ∨ i = 1 := by omega
    · subst h; rfl
    · subst h; rfl
  · rfl

set_option maxRecDepth 100000 in
set_option maxHeartbeats 4000000 in
theorem firsts_any (C : Array Value) (ls : List Nat) (w : World) (h : Cnts C (cf ls)) (hall : ∀ x ∈ ls, x ≤ 15) (hlen : ls.length ≤ 65536) (hkr : kr ls ≤ 32768) :
    Calls Tryz.prog 101 #[.agg C] w fun e w' => (∃ F, Wrds F (first ls) ∧ e = .returned (.agg F)) ∧ Below w.heap.size w w' := by
  have HN := Lib.hid h
  have HL : Hid (∀ n, n ≤ 15 → first ls n ≤ 32768) := Lib.hid (first_le ls hall hkr)
  have HCL : Hid (∀ i, cf ls i ≤ 65536) := Lib.hid fun i => Nat.le_trans (cf_le ls i) hlen
  clear h hall
  go_enter Tryz.func101, Tryz.ntmps101
  go_upto_region 2 with (fail)
  generalize hW : ((w.alloc (.cells C 159)).alloc (.cells u16z 162)).alloc (.cells u16z 162) = w1
  have HB : Hid (Below w.heap.size w w1) := Lib.hid (by rw [← hW]; exact (((Below.refl _ w).alloc (Nat.le_refl _) _).alloc (by simp) _).alloc (by simp; omega) _)
  have HC : Hid (Blk w1 w.heap.size 159 C) := Lib.hid (by rw [← hW]; exact ((Blk.new w _ _).alloc _).alloc _)
  have HX : Hid (Blk w1 (w.heap.size + 1) 162 u16z) := Lib.hid (by rw [← hW]; have := (Blk.new (w.alloc (.cells C 159)) 162 u16z).alloc (.cells u16z 162); simpa using this)
  have HF : Hid (Blk w1 (w.heap.size + 1 + 1) 162 u16z) := Lib.hid (by rw [← hW]; have := Blk.new ((w.alloc (.cells C 159)).alloc (.cells u16z 162)) 162 u16z; simpa using this)
  clear hW
  go_wp2_with fail
  go_loopw [4] (fun i wr => ∃ (n : Nat) (F : Array Value), 2 ≤ n ∧ n ≤ 16 ∧ i = .int .i64 (n : Int) ∧ Hid (Wrds F (ff ls n)) ∧ Hid (Blk wr (w.heap.size + 1 + 1) 162 F) ∧ Hid (Blk wr (w.heap.size + 1) 162 u16z) ∧ Hid (Blk wr w.heap.size 159 C) ∧ Hid (Below w.heap.size w wr)) (fun i _ => 16 - (intOf i).toNat)
  case atStart => exact ⟨2, u16z, by omega, by omega, rfl, Lib.hid (by rw [ff_two]; exact u16z_wrds), HF, HX, HC, HB⟩
  case round =>
    clear HB HC HX HF
    obtain ⟨n, F, hn2, hn16, rfl, HW, HF, HX, HC, HB⟩ := hrel
    by_cases hlt : n < 16
    · obtain ⟨m, rfl⟩ : ∃ m, n = m + 1 := ⟨n - 1, by omega⟩
      have hc1 : wr.cell? ⟨w.heap.size, m, none⟩ = some (.int .i64 ((cf ls m : Nat) : Int)) := by rw [HC.out.cell m]; exact HN.out.at_ m (by omega)
      have hc2 : wr.cell? ⟨w.heap.size + 1 + 1, m, none⟩ = some (.int .u32 ((first ls m : Nat) : Int)) := by
        rw [HF.out.cell m]; have := HW.out.at_ m (by omega); unfold ff at this; rw [if_pos (by omega)] at this; exact this
      obtain ⟨old, hc3⟩ : ∃ old, wr.cell? ⟨w.heap.size + 1 + 1, m + 1, none⟩ = some old := ⟨_, by rw [HF.out.cell (m + 1)]; exact HW.out.at_ (m + 1) (by omega)⟩
      have hfr : wr.frozen? ⟨w.heap.size + 1 + 1, m + 1, none⟩ = false := HF.out.frozen _
      have h1 := HL.out m (by omega)
      have h2 := HCL.out m
      have HS : Hid (first ls (m + 1) = 2 * (first ls m + cf ls m)) := Lib.hid (by
        obtain ⟨j, rfl⟩ : ∃ j, m = j + 1 := ⟨m - 1, by omega⟩
        rw [first]; unfold cf; rw [if_neg (by omega)])
      have HFF : Hid (∀ i, i ≠ m + 1 → ff ls (m + 1 + 1) i = ff ls (m + 1) i) := Lib.hid (by
        intro i hi; unfold ff
        by_cases h : i < m + 1
        · rw [if_pos h, if_pos (by omega)]
        · rw [if_neg h, if_neg (by omega)])
      have HFN : Hid (ff ls (m + 1 + 1) (m + 1) = first ls (m + 1)) := Lib.hid (by unfold ff; rw [if_pos (by omega)])
      generalize first ls m = x at *
      generalize cf ls m = c at *
      have k1 : IntKind.i64.wrap (m : Int) = (m : Int) := IntWalk.i64_in _ (by omega)
      have k2 : IntKind.u32.wrap (c : Int) = (c : Int) := IntWalk.u32_in _ (by omega)
      have k3 : IntKind.u32.wrap ((x : Int) + (c : Int)) = (x : Int) + (c : Int) := IntWalk.u32_in _ (by omega)
      have k4 : IntKind.u32.wrap (2 * ((x : Int) + (c : Int))) = 2 * ((x : Int) + (c : Int)) := IntWalk.u32_in _ (by omega)
      have k5 : ((m : Int) + 1).toNat = m + 1 := by omega
      have k6 : (0 : Int) ≤ (m : Int) + 1 := by omega
      have k7 : (m : Int) + 1 < 16 := by omega
      have k8 : (m : Int) < 16 := by omega
      go_wp2_with fail
      go_still_tail 13, (by kernel_rfl)
      change wpList _ _ _ _ _ wr.drew
      have HW2 : Hid (Blk wr.drew (w.heap.size + 1 + 1) 162 F) := HF
      have HX2 : Hid (Blk wr.drew (w.heap.size + 1) 162 u16z) := HX
      have HC2 : Hid (Blk wr.drew w.heap.size 159 C) := HC
      have HB2 : Hid (Below w.heap.size w wr.drew) := Lib.hid HB.out.drew
      have hc4 : wr.drew.cell? ⟨w.heap.size + 1 + 1, m + 1, none⟩ = some old := hc3
      have hfr2 : wr.drew.frozen? ⟨w.heap.size + 1 + 1, m + 1, none⟩ = false := hfr
      clear HF HX HC HB hc1 hc2 hc3 hfr k1 k2 k3 k4 k5 k6 k7 k8
      generalize wr.drew = w2 at *
      have HW3 : Hid (Wrds (F.setIfInBounds (m + 1) (.int .u32 (2 * ((x : Int) + (c : Int))))) (ff ls (m + 1 + 1))) := Lib.hid (HW.out.set (m + 1) _ (by rw [HFN.out, HS.out]; omega) HFF.out)
      go_wp2_with fail
      go_roundw
      case rel => exact ⟨m + 1 + 1, _, by omega, by omega, by go_num, HW3, Lib.hid (HW2.out.set_ (m + 1) _), Lib.hid (HX2.out.same (Below.heap_setCell _ _ _ _ (by simp))), Lib.hid (HC2.out.same (Below.heap_setCell _ _ _ _ (by simp; omega))), Lib.hid (HB2.out.setCell (p := ⟨w.heap.size + 1 + 1, m + 1, none⟩) (by simp; omega) _)⟩
      case measure => simp [intOf]; omega
    · obtain rfl : n = 16 := by omega
      have HS : Hid ((Tryz.prog.info? 162).map (·.size) = some F.size) := Lib.hid (by rw [HW.out.size]; exact info_wrd)
      have HS2 : Hid (u16z.size = F.size) := Lib.hid (by rw [HW.out.size]; rfl)
      go_wp2_with (first
        | (refine wpList_load_row rfl 162 _ rfl (w.heap.size + 1 + 1) rfl 162 F (0, 0) _ HF.out Tryz.underlying162 rfl HS.out ?_)
        | (refine wpList_store_row rfl _ _ _ rfl (w.heap.size + 1) _ rfl rfl 162 u16z HX.out HS.out HS2.out HW.out.one ?_))
      exact firsts_ret rfl rfl (HX.out.row F) HW.out.size ⟨⟨F, HW.out.same (fun i hi => by unfold ff; rw [if_pos hi]), rfl⟩, below_row HB.out (by omega) _⟩
end Go.Proofs.YtbjjkhlebdaoaaaGreatDoor.CanC
end

section
/-
  canon.Codes where lengths make no code (Kraft, Kind: CanDk).
-/
namespace Go.Proofs.YtbjjkhlebdaoaaaGreatDoor.CanC
open Go.RowKit Go.My BitMath CanMath

theorem ret_pair {a b : Value} {x : Value} (h : a = b) : Ending.returned (.tuple #[a, x]) = .returned (.tuple #[b, x]) := by rw [h]

section
variable {a : Option Addr} {len cap : Nat} {zs : List Int} {w : World}
end

/-- The code of the symbol at place i, 0 if it has none. -/
def codeW (ls : List Nat) (i : Nat) : Nat := match ls[i]? with | some n => if n = 0 then 0 else codeN ls n i | none => 0
theorem codeW_eq (ls : List Nat) (i : Nat) (h : i < ls.length) : codeW ls i = if ls[i] = 0 then 0 else codeN ls ls[i] i := by
  unfold codeW; rw [List.getElem?_eq_getElem h]
/-- What Codes has laid behind k rounds. -/
def words (ls : List Nat) (k : Nat) : List Nat := (List.range ls.length).map fun i => if i < k then codeW ls i else 0
theorem words_len (ls : List Nat) (k : Nat) : (words ls k).length = ls.length := by simp [words]
theorem words_zero (ls : List Nat) : (words ls 0).map uv = List.replicate ls.length (uv 0) := by
  apply List.ext_getElem
  · simp [words]
  · intro i h1 h2; simp [words]
theorem words_set (ls : List Nat) (k : Nat) : ((words ls k).map uv).set k (uv (codeW ls k)) = (words ls (k + 1)).map uv := by
  apply List.ext_getElem
  · simp [words]
  · intro i h1 h2
    rw [List.getElem_set]
    simp only [List.getElem_map, words, List.getElem_range]
    by_cases h : k = i
    · subst h; simp
    · rw [if_neg h]
      by_cases hlt : i < k
      · rw [if_pos hlt, if_pos (by omega)]
      · rw [if_neg hlt, if_neg (by omega)]
theorem words_skip (ls : List Nat) (k : Nat) (h : codeW ls k = 0) : words ls k = words ls (k + 1) := by
  unfold words
  apply List.map_congr_left
  intro i _
  by_cases hi : i = k
  · subst hi; simp [h]
  · by_cases hlt : i < k
    · rw [if_pos hlt, if_pos (by omega)]
    · rw [if_neg hlt, if_neg (by omega)]
/-- The next code of each length behind k rounds. -/
def nf (ls : List Nat) (k n : Nat) : Nat := if n = 0 then 0 else codeN ls n k
theorem nf_zero (ls : List Nat) (n : Nat) : nf ls 0 n = first ls n := by
  unfold nf codeN
  split
  · next h => subst h; rfl
  · simp
theorem nf_succ (ls : List Nat) (k n : Nat) (h : k < ls.length) : nf ls (k + 1) n = nf ls k n + (if n = ls[k] ∧ 0 < n then 1 else 0) := by
  unfold nf codeN
  by_cases h0 : n = 0
  · subst h0; rw [if_pos rfl, if_pos rfl, if_neg (by omega)]
  · rw [if_neg h0, if_neg h0, count_take_succ ls k n h]
    by_cases he : n = ls[k]
    · rw [if_pos he.symm, if_pos ⟨he, by omega⟩]; omega
    · rw [if_neg (fun e => he e.symm), if_neg (fun e => he e.1)]; omega
theorem nf_le (ls : List Nat) (hall : ∀ x ∈ ls, x ≤ 15) (hk : kr ls ≤ 32768) (hl : ls.length ≤ 65536) (k n : Nat) (hn : n ≤ 15) : nf ls k n ≤ 98304 := by
  unfold nf codeN
  split
  · omega
  · have h1 := first_le ls hall hk n hn
    have h2 := count_take_le ls k n
    have h3 : ls.count n ≤ ls.length := List.count_le_length
    omega
/-- All codes. -/
def allWords (ls : List Nat) : List Value := (words ls ls.length).map uv
theorem allWords_len (ls : List Nat) : (allWords ls).length = ls.length := by simp [allWords, words_len]
theorem allWords_get (ls : List Nat) (i : Nat) (h : i < ls.length) : (allWords ls)[i]'(by rw [allWords_len]; exact h) = uv (codeW ls i) := by
  simp [allWords, words, h]

def CodesOk (zs : List Int) (w : World) (e : Ending) (w' : World) : Prop := ∃ g, e = .returned (.tuple #[.slice (some ⟨g, 0, none⟩) zs.length zs.length, .int .i64 0]) ∧ w.heap.size ≤ g ∧ OwnV 63 w.heap.size w' (.slice (some ⟨g, 0, none⟩) zs.length zs.length) (allWords (nat zs)) ∧ Below w.heap.size w w'
theorem info_u32 : (Tryz.prog.info? 63).map (fun i => (i.zero, i.size, i.bytes)) = some (some (.int .u32 0), 1, 4) := by kernel_rfl
end Go.Proofs.YtbjjkhlebdaoaaaGreatDoor.CanC
end

section
/-
  canon.Codes where the lengths make a code.
-/
namespace Go.Proofs.YtbjjkhlebdaoaaaGreatDoor.CanC
open Go.RowKit Go.My BitMath CanMath

/-- What the loop of Codes keeps. -/
structure CodeAt (ls : List Nat) (len : Nat) (w wr : World) (gn gw k : Nat) (F : Array Value) : Prop where
  wrds : Wrds F (nf ls k)
  next : Blk wr gn 162 F
  own : OwnV 63 w.heap.size wr (.slice (some ⟨gw, 0, none⟩) len len) ((words ls k).map uv)
  below : Below w.heap.size w wr

set_option maxRecDepth 100000 in
set_option maxHeartbeats 4000000 in
theorem codes_ok (a : Option Addr) (len cap : Nat) (zs : List Int) (w : World) (h : RowIn w a len cap (zs.map iv)) (hg : Good zs) (hk : kr (nat zs) ≤ 32768) :
    Calls Tryz.prog 87 #[.slice a len cap] w (CodesOk zs w) := by
  have hzl : zs.length = len := by have := h.len_eq; simpa using this
  have hlen : len ≤ 65536 := by rw [← hzl]; exact hg.1
  have HZ := Lib.hid hzl
  have HG := Lib.hid hg
  have HR := Lib.hid h
  have HKR := Lib.hid hk
  have HLS : Hid ((nat zs).length = len) := Lib.hid (by rw [nat_len]; exact hzl)
  have HK : Hid ((kindN (nat zs) == 4) = false) := Lib.hid (by
    unfold kindN
    rw [if_neg (by omega)]
    split
    · rfl
    · split
      · rfl
      · split <;> rfl)
  clear hg h hk hzl
  go_enter Tryz.func87, Tryz.ntmps87
  go_wp2_with fail
  refine (tally_any a len cap zs w HR.out).mono ?_
  rintro e w2 ⟨he, hb2⟩
  obtain ⟨C, hN, rfl⟩ := he.1 HG.out
  have HN := Lib.hid hN
  have HB := Lib.hid hb2
  have HS : Hid ((Tryz.prog.info? 159).map (·.size) = some C.size) := Lib.hid (by rw [hN.size]; exact info_cnt)
  have HS2 : Hid (z16.size = C.size) := Lib.hid (by rw [hN.size]; rfl)
  have HX : Hid (Blk (w2.alloc (.cells z16 159)) w2.heap.size 159 z16) := Lib.hid (Blk.new w2 _ _)
  clear he hN hb2
  go_wp2_with (first
    | (refine wpList_store_row rfl _ _ _ rfl w2.heap.size _ rfl rfl 159 z16 HX.out HS.out HS2.out HN.out.one ?_)
    | (refine wpList_load_row rfl 159 _ rfl w2.heap.size rfl 159 C (0, 0) _ (HX.out.row C) Tryz.underlying159 rfl HS.out ?_))
  have HB2 : Hid (Below w.heap.size w ((w2.alloc (.cells z16 159)).setRow w2.heap.size C)) := Lib.hid (below_row (HB.out.alloc HB.out.size _) HB.out.size C)
  have HX2 : Hid (Blk ((w2.alloc (.cells z16 159)).setRow w2.heap.size C) w2.heap.size 159 C) := Lib.hid (HX.out.row C)
  have HW2 : Hid (w.heap.size ≤ w2.heap.size) := Lib.hid HB.out.size
  clear HX HB
  generalize (w2.alloc (.cells z16 159)).setRow w2.heap.size C = w3 at *
  generalize w2.heap.size = gc at *
  refine (kind_any C _ _ HN.out HG.out.all (by rw [nat_len]; exact HG.out.1)).mono ?_
  rintro e w4 ⟨rfl, hb4⟩
  have HB4 := Lib.hid (HB2.out.trans (hb4.mono HB2.out.size))
  have HX4 : Hid (Blk w4 gc 159 C) := Lib.hid (HX2.out.same (hb4.block _ HX2.out.lt))
  have hkn := HK.out
  clear hb4 HB2 HX2 HK
  generalize kindN (nat zs) = X at *
  go_wp2_with (first
    | (refine wpList_load_row rfl 159 _ rfl gc rfl 159 C (0, 0) _ HX4.out Tryz.underlying159 rfl HS.out ?_))
  clear hkn
  refine (firsts_any C _ _ HN.out HG.out.all (by rw [nat_len]; exact HG.out.1) HKR.out).mono ?_
  rintro e w5 ⟨⟨F, hF, rfl⟩, hb5⟩
  have HB5 := Lib.hid (HB4.out.trans (hb5.mono HB4.out.size))
  have HF := Lib.hid hF
  have HFS : Hid ((Tryz.prog.info? 162).map (·.size) = some F.size) := Lib.hid (by rw [hF.size]; exact info_wrd)
  have HFS2 : Hid (u16z.size = F.size) := Lib.hid (by rw [hF.size]; rfl)
  have HY : Hid (Blk (w5.alloc (.cells u16z 162)) w5.heap.size 162 u16z) := Lib.hid (Blk.new w5 _ _)
  clear hF hb5 HB4 HX4
  go_upto_region 7 with (first
    | (refine wpList_store_row rfl _ _ _ rfl w5.heap.size _ rfl rfl 162 u16z HY.out HFS.out HFS2.out HF.out.one ?_))
  have HB6 : Hid (Below w.heap.size w ((w5.alloc (.cells u16z 162)).setRow w5.heap.size F)) := Lib.hid (below_row (HB5.out.alloc HB5.out.size _) HB5.out.size F)
  have HY6 : Hid (Blk ((w5.alloc (.cells u16z 162)).setRow w5.heap.size F) w5.heap.size 162 F) := Lib.hid (HY.out.row F)
  have HN6 : Hid (w.heap.size ≤ w5.heap.size) := Lib.hid HB5.out.size
  clear HY HB5
  generalize (w5.alloc (.cells u16z 162)).setRow w5.heap.size F = w6 at *
  generalize w5.heap.size = gn at *
  go_wp2_with (at_make; refine wpList_make_row _ rfl (.tmp 23) (.tmp 23) 71 rfl w.heap.size 63 (.int .u32 0) 4 Tryz.underlying71 info_u32 rfl .i64 .i64 len rfl rfl (by omega) (by omega) HB6.out.size ?_)
  intro w7 hown hg7
  have HL7 : Hid (CodeAt (nat zs) len w w7 gn w6.heap.size 0 F) := Lib.hid ⟨HF.out.same (fun i _ => nf_zero _ i), HY6.out.grown hg7 (by simp), by rw [words_zero, HLS.out]; exact hown, grown_none_below HB6.out hg7 HB6.out.size⟩
  have HNE : Hid (gn ≠ w6.heap.size ∧ w.heap.size ≤ w6.heap.size) := Lib.hid ⟨by have := HY6.out.lt; omega, HB6.out.size⟩
  clear hown hg7 HB6 HY6
  generalize w6.heap.size = gw at *
  go_wp2_with fail
  go_loopw [8, 9, 27] (fun _ _ i wr => ∃ (k : Nat) (F : Array Value), k ≤ len ∧ i = .int .i64 (k : Int) ∧ Hid (CodeAt (nat zs) len w wr gn gw k F)) (fun _ _ i _ => len - (intOf i).toNat)
  case atStart => exact ⟨0, F, Nat.zero_le _, rfl, HL7⟩
  case round =>
    clear HL7 HN HF HFS HFS2
    obtain ⟨k, F, hk, rfl, HL⟩ := hrel
    by_cases hlt : k < len
    · obtain ⟨b, off, rfl⟩ := HR.out.some_ (by omega)
      have hkz : k < zs.length := by rw [HZ.out]; exact hlt
      have hkl : k < (nat zs).length := by rw [HLS.out]; exact hlt
      obtain ⟨n, hn⟩ : ∃ n : Nat, zs[k] = (n : Int) := ⟨zs[k].toNat, by have := HG.out.2 _ (List.getElem_mem hkz); omega⟩
      have hn2 : (nat zs)[k] = n := by rw [nat_get zs k hkz, hn]; rfl
      have hn15 : n ≤ 15 := by rw [← hn2]; exact HG.out.all _ (List.getElem_mem hkl)
      have hcz : wr.cell? ⟨b, off + k, none⟩ = some (.int .i64 (n : Int)) := by
        rw [HL.out.below.cell (p := ⟨b, off + k, none⟩) (HR.out.lt (by omega)), HR.out.get k (by simpa using hkz)]
        simp [iv, hn]
      have HCW : Hid (codeW (nat zs) k = nf (nat zs) k n) := Lib.hid (by rw [codeW_eq _ k hkl, hn2]; rfl)
      have HNF : Hid (∀ i, nf (nat zs) (k + 1) i = nf (nat zs) k i + (if i = n ∧ 0 < i then 1 else 0)) := Lib.hid (fun i => by rw [nf_succ _ k i hkl, hn2])
      clear hn hn2
      by_cases h0 : 0 < n
      · have hc1 : wr.cell? ⟨gn, n, none⟩ = some (.int .u32 ((nf (nat zs) k n : Nat) : Int)) := by rw [HL.out.next.cell n]; exact HL.out.wrds.at_ n (by omega)
        have hf1 : wr.frozen? ⟨gn, n, none⟩ = false := HL.out.next.frozen n
        have hwl : ((words (nat zs) k).map uv).length = len := by rw [List.length_map, words_len, HLS.out]
        obtain ⟨old, hc2⟩ : ∃ old, wr.cell? ⟨gw, k, none⟩ = some old := ⟨_, HL.out.own.cell hwl k (by rw [hwl]; exact hlt)⟩
        have hf2 : wr.frozen? ⟨gw, k, none⟩ = false := HL.out.own.free hwl k
        have hle := nf_le (nat zs) HG.out.all HKR.out (by rw [HLS.out]; exact hlen) k n hn15
        have HO := HL.out.own.store hwl k (uv (codeW (nat zs) k))
        rw [words_set, HCW.out] at HO
        have HOW := Lib.hid HO
        have HW := Lib.hid (HL.out.wrds.set (g := nf (nat zs) (k + 1)) n ((nf (nat zs) k n : Nat) + 1) (by rw [HNF.out, if_pos ⟨rfl, h0⟩]; omega) (fun i hi => by rw [HNF.out, if_neg (fun e => hi e.1)]; rfl))
        have HNB : Hid (Blk (wr.setCell ⟨gw, k, none⟩ (uv (nf (nat zs) k n))) gn 162 F) := Lib.hid (HL.out.next.same (Below.heap_setCell _ _ _ _ (by simpa using HNE.out.1)))
        have HBB : Hid (Below w.heap.size w (wr.setCell ⟨gw, k, none⟩ (uv (nf (nat zs) k n)))) := Lib.hid (HL.out.below.setCell (p := ⟨gw, k, none⟩) (by simpa using HNE.out.2) _)
        have hc3 : (wr.setCell ⟨gw, k, none⟩ (uv (nf (nat zs) k n))).cell? ⟨gn, n, none⟩ = some (.int .u32 ((nf (nat zs) k n : Nat) : Int)) := by rw [HNB.out.cell n]; exact HL.out.wrds.at_ n (by omega)
        have hf3 : (wr.setCell ⟨gw, k, none⟩ (uv (nf (nat zs) k n))).frozen? ⟨gn, n, none⟩ = false := HNB.out.frozen n
        clear HO hwl HCW HNF
        unfold uv at hc3 hf3 HNB HBB HOW
        generalize nf (nat zs) k n = x at *
        clear HL
        go_wp2_with fail
        go_roundw
        case rel => exact ⟨k + 1, _, by omega, by go_num, Lib.hid ⟨HW.out, HNB.out.set_ n _, HOW.out.only (S := fun g => g = gn) (Only.setCell (S := fun g => g = gn) (Only.refl _ _) (p := ⟨gn, n, none⟩) (fun _ => rfl) _) (fun g hg e => by simp [Value.ownBlock] at hg; exact HNE.out.1 (by omega)), HBB.out.setCell (p := ⟨gn, n, none⟩) HN6.out _⟩⟩
        case measure => simp [intOf]; omega
      · obtain rfl : n = 0 := by omega
        have HL2 : Hid (CodeAt (nat zs) len w wr gn gw (k + 1) F) := Lib.hid ⟨HL.out.wrds.same (fun i _ => by rw [HNF.out, if_neg (by omega)]; rfl), HL.out.next, by rw [← words_skip _ k (by rw [HCW.out]; rfl)]; exact HL.out.own, HL.out.below⟩
        clear HCW HNF
        go_wp2_with fail
        go_roundw
        case rel => exact ⟨k + 1, F, by omega, by go_num, HL2⟩
        case measure => simp [intOf]; omega
    · obtain rfl : k = len := by omega
      go_wp2_with fail
      go_ret2
      exact ⟨gw, by rw [HZ.out]; rfl, HNE.out.2, by have := HL.out.own; unfold allWords; rwa [HZ.out, HLS.out], HL.out.below⟩
end Go.Proofs.YtbjjkhlebdaoaaaGreatDoor.CanC
end

section
/-
  Go's own slices: Repeat of one number; Mul.
-/
namespace Go.Proofs.YtbjjkhlebdaoaaaGreatDoor.SlcC
open Go.RowKit Go.My CanC

theorem info_int : (Tryz.prog.info? 3).map (fun i => (i.zero, i.size, i.bytes)) = some (some (.int .i64 0), 1, 8) := by kernel_rfl
theorem size_int : (Tryz.prog.info? 3).map (·.size) = some 1 := by kernel_rfl

set_option maxHeartbeats 1000000 in
theorem mul64_one (n : Nat) (hn : n < 2147483648) (w : World) :
    Calls Tryz.prog 98 #[.int .u64 1, .int .u64 (n : Int)] w fun e w' => e = .returned (.tuple #[.int .u64 0, .int .u64 (n : Int)]) ∧ w = w' := by
  have m1 : bits .and .u64 1 4294967295 = 1 := by decide
  have m0 : bits .and .u64 0 4294967295 = 0 := by decide
  have mn : bits .and .u64 (n : Int) 4294967295 = (n : Int) := by
    rw [show (4294967295 : Int) = ((4294967295 : Nat) : Int) from rfl, u64_and_nat _ _ (by omega) (by omega)]
    congr 1
    rw [show 4294967295 = 2 ^ 32 - 1 from rfl, Nat.and_two_pow_sub_one_eq_mod]
    omega
  have d1 : (n : Int) / 4294967296 = 0 := by omega
  have w1 : IntKind.u64.wrap (n : Int) = (n : Int) := IntWalk.u64_in _ (by omega)
  go_enter Tryz.func98, Tryz.ntmps98
  go_wp2_with fail
  go_ret2
  exact ⟨rfl, rfl⟩
set_option maxHeartbeats 1000000 in
theorem mul_one (n : Nat) (hn : n < 2147483648) (w : World) :
    Calls Tryz.prog 86 #[.int .u64 1, .int .u64 (n : Int)] w fun e w' => e = .returned (.tuple #[.int .u64 0, .int .u64 (n : Int)]) ∧ w = w' := by
  go_enter Tryz.func86, Tryz.ntmps86
  go_wp2_with fail
  refine (mul64_one n hn w).mono ?_
  rintro e w' ⟨rfl, rfl⟩
  go_wp2_with fail
  go_ret2
  exact ⟨rfl, rfl⟩

/-- n cells, m of them set. -/
def rep (v : Value) (m n : Nat) : List Value := List.replicate m v ++ List.replicate (n - m) (iv 0)
theorem rep_len (v : Value) (m n : Nat) (h : m ≤ n) : (rep v m n).length = n := by simp [rep]; omega
theorem rep_splice (v : Value) (m k n : Nat) (h : m + k ≤ n) : splice (rep v m n) m (List.replicate k v) = rep v (m + k) n := by
  unfold splice rep
  have e1 : (List.replicate m v ++ List.replicate (n - m) (iv 0)).take m = List.replicate m v := by
    rw [List.take_append_of_le_length (by simp), List.take_of_length_le (by simp)]
  have e2 : (List.replicate m v ++ List.replicate (n - m) (iv 0)).drop (m + k) = List.replicate (n - (m + k)) (iv 0) := by
    rw [List.drop_append, List.drop_of_length_le (by simp), List.nil_append, List.drop_replicate, List.length_replicate]
    congr 1; omega
  rw [e1, List.length_replicate, e2, ← List.append_assoc, List.replicate_append_replicate]
theorem own_block {B : Nat} {w : World} {g n : Nat} {vs : List Value} (h : OwnV 3 B w (.slice (some ⟨g, 0, none⟩) n n) vs) (hn : vs.length = n) : w.heap[g]? = some (.cells vs.toArray 3 (0, 0)) := by
  subst hn
  rcases h.2 with ⟨h1, _⟩ | ⟨g', cap, cur, h1, h2, h3, h4, h5, h6, h7⟩
  · cases h1
  · simp only [Value.slice.injEq, Option.some.injEq, Addr.mk.injEq, and_true, true_and] at h1
    obtain ⟨rfl, rfl⟩ := h1
    have e : cur = vs.toArray := by
      apply Array.ext'
      rw [List.take_of_length_le (by simp [h6])] at h7
      rw [h7]
    rw [← e]
    exact h3
theorem block_own {B : Nat} {w : World} {g n : Nat} {vs : List Value} (h : w.heap[g]? = some (.cells vs.toArray 3 (0, 0))) (hn : vs.length = n) (hB : B ≤ g) (hm : n ≤ 1000000) : OwnV 3 B w (.slice (some ⟨g, 0, none⟩) n n) vs := by
  subst hn
  refine ⟨by simp, .inr ⟨g, vs.length, vs.toArray, rfl, hB, h, Nat.le_refl _, by unfold maxLen; omega, by simp, by simp⟩⟩

set_option maxRecDepth 100000 in
set_option maxHeartbeats 4000000 in
/-- slices.Repeat of one number. -/
theorem repeat_any (z : Int) (n : Nat) (hn : 1 ≤ n) (hn2 : n ≤ 1000) (a : Option Addr) (c : Nat) (w : World) (h : RowIn w a 1 c [iv z]) :
    Calls Tryz.prog 66 #[.slice a 1 c, .int .i64 (n : Int)] w fun e w' => ∃ g, e = .returned (.slice (some ⟨g, 0, none⟩) n n) ∧ OwnV 3 w.heap.size w' (.slice (some ⟨g, 0, none⟩) n n) (List.replicate n (iv z)) ∧ Below w.heap.size w w' := by
  obtain ⟨b, off, rfl⟩ := h.some_ (by omega)
  have H := Lib.hid h
  have w1 : IntKind.u64.wrap (n : Int) = (n : Int) := IntWalk.u64_in _ (by omega)
  have w2 : IntKind.i64.wrap (n : Int) = (n : Int) := IntWalk.i64_in _ (by omega)
  go_enter Tryz.func66, Tryz.ntmps66
  go_wp2_with fail
  refine (mul_one n (by omega) w).mono ?_
  rintro e w' ⟨rfl, rfl⟩
  go_wp2_with (at_make; refine wpList_make_row _ rfl (.tmp 29) (.tmp 29) 67 rfl w.heap.size 3 (.int .i64 0) 8 Tryz.underlying67 info_int rfl .i64 .i64 n rfl rfl (by omega) (by omega) (Nat.le_refl _) ?_)
  intro w3 hown hg
  have hb3 : Below w.heap.size w w3 := (Below.refl _ w).grown hg (Nat.le_refl _) (fun k hk => by cases hk)
  have hblk := own_block hown (by simp)
  have hc0 : w3.cell? ⟨b, off + 0, none⟩ = some (iv z) := by rw [hb3.cell (p := ⟨b, off + 0, none⟩) (H.out.lt (by omega))]; exact H.out.get 0 (by simp)
  obtain ⟨g, hgq⟩ : ∃ g, g = w.heap.size := ⟨_, rfl⟩
  have HG : Hid (w.heap.size ≤ g) := Lib.hid (by omega)
  have HR0 : Hid (w3.heap[g]? = some (.cells (rep (iv z) 0 n).toArray 3 (0, 0))) := Lib.hid (by rw [hgq]; simpa [rep, iv] using hblk)
  have HB3 := Lib.hid hb3
  rw [← hgq]
  clear hown hg hb3 hblk hgq
  go_wp2_with (refine wpList_copy_splice rfl (.tmp 31) (.tmp 32) _ _ rfl 3 Tryz.underlying67 size_int _ _ _ _ _ _ rfl rfl g 0 _ _ HR0.out [iv z] (by show 1 = min 1 n; omega) (fun _ => ⟨rfl, _, rfl, fun j v hj => ?_⟩) (by rw [rep_len _ _ _ (by omega)]; simp; omega) (fun v hv => by simp at hv; rw [hv]; rfl) w.heap.size w HB3.out HG.out ?_)
  · obtain rfl : j = 0 := by have := (List.getElem?_eq_some_iff.1 hj).1; simpa using this
    simp at hj
    rw [addr_add, ← hj]
    exact hc0
  intro w4 hh hb4
  have HR1 : Hid (w4.heap[g]? = some (.cells (rep (iv z) 1 n).toArray 3 (0, 0))) := Lib.hid (by
    have := rep_splice (iv z) 0 1 n (by omega)
    rw [List.replicate_one, Nat.zero_add] at this
    rw [← this]; exact hh.out)
  have HB4 := Lib.hid hb4
  clear hh hb4 HR0 HB3 hc0 w1 w2
  go_wp2_with fail
  go_loopw [8] (fun x wr => ∃ m : Nat, 1 ≤ m ∧ m ≤ n ∧ x = .int .i64 (m : Int) ∧ Hid (wr.heap[g]? = some (.cells (rep (iv z) m n).toArray 3 (0, 0))) ∧ Hid (Below w.heap.size w wr)) (fun x _ => n - (intOf x).toNat)
  case atStart => exact ⟨1, Nat.le_refl _, hn, rfl, HR1, HB4⟩
  case round =>
    clear HR1 HB4
    obtain ⟨m, hm1, hmn, rfl, HR1, HB4⟩ := hrel
    by_cases hlt : m < n
    · obtain ⟨k, hk⟩ : ∃ k, k = min m (n - m) := ⟨_, rfl⟩
      have w1 : IntKind.i64.wrap ((m : Int) + (k : Int)) = ((m + k : Nat) : Int) := by rw [IntWalk.i64_in _ (by omega)]; omega
      have hg1 : wr.drew.heap[g]? = some (.cells (rep (iv z) m n).toArray 3 (0, 0)) := HR1.out
      have hb1 : Below w.heap.size w wr.drew := HB4.out.drew
      have hsrc : ∀ j v, (List.replicate k (iv z))[j]? = some v → wr.drew.cell? ((⟨g, 0, none⟩ : Addr).add j) = some v := fun j v hj => by
        have hjk := (List.getElem?_eq_some_iff.1 hj).1
        rw [List.length_replicate] at hjk
        rw [List.getElem?_replicate, if_pos hjk] at hj
        rw [addr_add, Nat.zero_add, cell_of_row _ _ _ _ _ _ hg1, ← hj]
        unfold rep
        rw [List.getElem?_toArray, List.getElem?_append_left (by rw [List.length_replicate]; omega), List.getElem?_replicate, if_pos (by omega)]
      have hne : ¬ n = m := by omega
      have hrun := run_copy_row (P := Tryz.prog) wr.drew 67 67 3 3 g m (n - m) (n - m) ⟨g, 0, none⟩ m n _ 3 (List.replicate k (iv z)) Tryz.underlying67 size_int hg1 (by rw [List.length_replicate]; exact hk) hsrc (by simp [rep_len _ _ _ hmn]; omega) (fun v hv => by rw [(List.mem_replicate.1 hv).2]; rfl)
      rw [List.length_replicate] at hrun
      obtain ⟨w5, hw5⟩ : ∃ w5, w5 = wr.drew.setRow g ((rep (iv z) m n).toArray.toList.take m ++ List.replicate k (iv z) ++ (rep (iv z) m n).toArray.toList.drop (m + k)).toArray := ⟨_, rfl⟩
      rw [← hw5] at hrun
      unfold goInt at hrun
      have hb5 : Below w.heap.size w w5 := by rw [hw5]; exact below_row hb1 HG.out _
      have hg5 : w5.heap[g]? = some (.cells (rep (iv z) (m + k) n).toArray 3 (0, 0)) := by
        have h1 := Blk.row (show Blk wr.drew g 3 (rep (iv z) m n).toArray from hg1) ((rep (iv z) m n).toArray.toList.take m ++ List.replicate k (iv z) ++ (rep (iv z) m n).toArray.toList.drop (m + k)).toArray
        rw [← hw5] at h1
        have h2 := rep_splice (iv z) m k n (by omega)
        unfold splice at h2
        rw [List.length_replicate, ← List.append_assoc] at h2
        rw [← h2]
        exact h1
      have hk1 : 1 ≤ k ∧ m + k ≤ n := by omega
      have HK := Lib.hid hk1
      have H5 := Lib.hid (And.intro hg5 hb5)
      clear hsrc hk hw5 hk1 hg5 hb5 HR1 HB4 hb1 hg1
      go_wp2_with fail
      go_region
      all_goals
        go_roundw
        case rel => exact ⟨_, _, _, _, _, _, _, _, _, _, _, _, _, _, ⟨m + k, by have := HK.out; omega, HK.out.2, rfl, Lib.hid H5.out.1, Lib.hid H5.out.2⟩, rfl⟩
        case measure => simp [intOf]; have := HK.out; omega
    · obtain rfl : m = n := by omega
      go_wp2_with fail
      go_ret
      refine ⟨g, rfl, ?_, HB4.out⟩
      refine block_own (vs := List.replicate m (iv z)) ?_ (by simp) HG.out (by omega)
      have := HR1.out
      simpa [rep] using this

set_option maxRecDepth 100000 in
set_option maxHeartbeats 2000000 in
/-- slices.Grow of no slice. -/
theorem grow_any (n : Nat) (hn : 1 ≤ n) (hn2 : n ≤ 100000) (w : World) :
    Calls Tryz.prog 85 #[.slice none 0 0, .int .i64 (n : Int)] w fun e w' => ∃ a c, e = .returned (.slice a 0 c) ∧ OwnV 3 w.heap.size w' (.slice a 0 c) [] ∧ Below w.heap.size w w' := by
  obtain ⟨i, hi, hz0, hsz, hz2⟩ := info_parts info_int
  have hrz : ∀ ty, (Builtin.append_ #[67, 3] ty #[.slice none 0 0, .int .i64 (n : Int)]).run Tryz.prog w =
      .ok (.slice (some ⟨w.heap.size, 0, none⟩) n (grownCap w n 0 3)) (w.drew.alloc (.cells (#[] ++ Builtin.zeroCells (Value.int .i64 0).cells n ++ Builtin.zeroCells (Value.int .i64 0).cells (grownCap w n 0 3 - n)) 3)) := fun ty => by
    have h := Lib.run_append_grow_zeros (P := Tryz.prog) w 67 3 ty 3 i (.int .i64 0) .i64 .i64 Tryz.underlying67 Tryz.underlying3 hi hz0 none 0 0 [] (run_firstCells_none w.drew i.size 0 0 0) n (by omega) (by omega) (by omega) (by omega) (by rw [hz2]; omega)
      (by rw [hz2, Nat.zero_add]; exact growslice_fits (by omega) (by omega))
    rw [Nat.zero_add] at h
    exact h
  have hG := grownCap_ge w n 0 3
  have hG2 := grownCap_le_maxLen w n 0 3 (by unfold maxLen; omega)
  obtain ⟨G, hGe⟩ : ∃ G, G = grownCap w n 0 3 := ⟨_, rfl⟩
  rw [← hGe] at hrz hG hG2
  have hG63 : G ≤ 9223372036854775807 := by unfold maxLen at hG2; omega
  have w1 : IntKind.i64.wrap (n : Int) = (n : Int) := IntWalk.i64_in _ (by omega)
  have hgt : (0 : Int) < (n : Int) := by omega
  have HZ := Lib.hid hrz
  have HG2 := Lib.hid hG2
  obtain ⟨C, hC⟩ : ∃ C, C = (#[] ++ Builtin.zeroCells (Value.int .i64 0).cells n ++ Builtin.zeroCells (Value.int .i64 0).cells (G - n)) := ⟨_, rfl⟩
  have hCs : C.size = G := by
    have e1 : (Value.int .i64 0).cells.size = 1 := rfl
    rw [hC, Array.size_append, Array.size_append, size_zeroCells, size_zeroCells, e1]
    simp
    omega
  rw [← hC] at HZ
  clear hrz hGe hG2 hC
  go_enter Tryz.func85, Tryz.ntmps85
  go_wp2_with (at_builtin; refine Lib.wpList_append_run _ rfl _ _ _ _ rfl _ _ rfl rfl _ _ (HZ.out _) ?_)
  all_goals
    go_ret
    refine ⟨_, _, rfl, ⟨by simp, .inr ⟨w.heap.size, G, C, rfl, Nat.le_refl _, heap_alloc_new w _, by simp, HG2.out, by rw [hCs]; simp, by simp⟩⟩, ((Below.refl w.heap.size w).alloc (Nat.le_refl _) _).drew⟩

/-- K rows of numbers. -/
structure Rws (w : World) (a : Option Addr) (K c : Nat) (f : Nat → Value) (L : Nat → List Value) : Prop where
  tab : RowIn w a K c ((List.range K).map f)
  row : ∀ i, i < K → ∃ a' c', f i = .slice a' (L i).length c' ∧ RowIn w a' (L i).length c' (L i)
  one : ∀ i, i < K → ∀ u ∈ L i, u.oneCell' = true
def cat (L : Nat → List Value) : Nat → List Value
  | 0 => []
  | k + 1 => cat L k ++ L k
theorem cat_le (L : Nat → List Value) {a b : Nat} (h : a ≤ b) : (cat L a).length ≤ (cat L b).length := by
  induction h with
  | refl => exact Nat.le_refl _
  | step _ ih => rw [cat, List.length_append]; omega
theorem Rws.below {w w' : World} {a : Option Addr} {K c : Nat} {f : Nat → Value} {L : Nat → List Value} (h : Rws w a K c f L) (hb : Below w.heap.size w w') : Rws w' a K c f L :=
  ⟨h.tab.below (Nat.le_refl _) hb, fun i hi => by obtain ⟨a', c', h1, h2⟩ := h.row i hi; exact ⟨a', c', h1, h2.below (Nat.le_refl _) hb⟩, h.one⟩

set_option maxRecDepth 100000 in
set_option maxHeartbeats 4000000 in
/-- slices.Concat of rows of numbers. -/
theorem concat_any (a : Option Addr) (K c : Nat) (f : Nat → Value) (L : Nat → List Value) (w : World) (h : Rws w a K c f L) (hK : K ≤ 100) (h1 : 1 ≤ (cat L K).length) (h2 : (cat L K).length ≤ 100000) :
    Calls Tryz.prog 65 #[.slice a K c] w fun e w' => ∃ a' c', e = .returned (.slice a' (cat L K).length c') ∧ OwnV 3 w.heap.size w' (.slice a' (cat L K).length c') (cat L K) ∧ Below w.heap.size w w' := by
  have H := Lib.hid h
  clear h
  go_enter Tryz.func65, Tryz.ntmps65
  go_wp2_with fail
  go_loop [3, 5, 11] (fun x _ y => ∃ k : Nat, k ≤ K ∧ x = .int .i64 ((cat L k).length : Int) ∧ y = .int .i64 (k : Int)) (fun _ _ y => K - (intOf y).toNat)
  case atStart => exact ⟨0, Nat.zero_le _, rfl, rfl⟩
  case round =>
    obtain ⟨k, hk, rfl, rfl⟩ := hrel
    by_cases hlt : k < K
    · obtain ⟨b, off, rfl⟩ := H.out.tab.some_ (by omega)
      obtain ⟨a', c', e1, hr⟩ := H.out.row k hlt
      have hc : w.cell? ⟨b, off + k, none⟩ = some (.slice a' (L k).length c') := by
        rw [H.out.tab.get k (by simpa using hlt)]; simp [e1]
      have hle := cat_le L (show k + 1 ≤ K by omega)
      have hs : (cat L (k + 1)).length = (cat L k).length + (L k).length := by rw [cat, List.length_append]
      have w1 : IntKind.i64.wrap (((cat L k).length : Int) + ((L k).length : Int)) = ((cat L (k + 1)).length : Int) := by rw [IntWalk.i64_in _ (by omega), hs]; omega
      have hpos : ¬ ((cat L (k + 1)).length : Int) < 0 := by omega
      have HS := Lib.hid hs
      clear hs
      obtain ⟨N1, hN1⟩ : ∃ N1, N1 = (cat L (k + 1)).length := ⟨_, rfl⟩
      rw [← hN1] at w1 hpos hle HS
      have HN := Lib.hid hN1
      clear hN1
      go_wp2_with fail
      go_round
      case rel => exact ⟨k + 1, by omega, by rw [HN.out], by go_num⟩
      case measure => simp [intOf]; omega
    · obtain rfl : k = K := by omega
      go_wp2_with fail
      refine (grow_any (cat L k).length h1 h2 w).mono ?_
      rintro e w1 ⟨a1, c1, rfl, hown, hb⟩
      have HO := Lib.hid hown
      have HB := Lib.hid hb
      clear hown hb h1
      go_wp2_with fail
      go_loopw [6, 8, 27] (fun x _ y wr => ∃ j a' c', j ≤ k ∧ x = .slice a' (cat L j).length c' ∧ y = .int .i64 ((j : Nat) : Int) ∧ Hid (OwnV 3 w.heap.size wr (.slice a' (cat L j).length c') (cat L j)) ∧ Hid (Below w.heap.size w wr)) (fun _ _ y _ => k - (intOf y).toNat)
      case atStart => exact ⟨0, a1, c1, Nat.zero_le _, rfl, rfl, HO, HB⟩
      case round =>
        clear HO HB
        obtain ⟨j, a2, c2, hj, rfl, rfl, HO, HB⟩ := hrel
        by_cases hlt : j < k
        · have H1 := Lib.hid (H.out.below HB.out)
          obtain ⟨b, off, rfl⟩ := H1.out.tab.some_ (by omega)
          obtain ⟨a', c', e1, hr⟩ := H1.out.row j hlt
          have hc : wr.cell? ⟨b, off + j, none⟩ = some (.slice a' (L j).length c') := by
            rw [H1.out.tab.get j (by simpa using hlt)]; simp [e1]
          have hle := cat_le L (show j + 1 ≤ k by omega)
          have hs : (cat L (j + 1)).length = (cat L j).length + (L j).length := by rw [cat, List.length_append]
          have HR := Lib.hid hr
          have hsz := HB.out.size
          go_wp2_with (at_builtin; refine wpList_append_row (by rfl) (.tmp 31) (.tmp 32) 67 (by rfl) w.heap.size 3 (.int .i64 0) 8 Tryz.underlying67 info_int rfl _ (cat L j) (by rfl) HO.out a' (L j).length c' (L j) (by rfl) HR.out (H1.out.one j hlt) (by omega) (by omega) hsz ?_)
          intro a3 c3 w3 hown hgrow hnext
          have hb3 : Below w.heap.size w w3 := HO.out.grown HB.out hgrow hsz
          have HO3 := Lib.hid hown
          have HB3 := Lib.hid hb3
          have HS := Lib.hid hs
          clear hown hgrow hnext hb3 HO HB H1 hs hc
          go_wp2_with fail
          go_roundw
          case rel => exact ⟨j + 1, a3, c3, by omega, by rw [HS.out], by go_num, by rw [HS.out]; exact HO3, HB3⟩
          case measure => simp [intOf]; omega
        · obtain rfl : j = k := by omega
          go_wp2_with fail
          go_ret
          exact ⟨a2, c2, rfl, HO.out, HB.out⟩
end Go.Proofs.YtbjjkhlebdaoaaaGreatDoor.SlcC
end
