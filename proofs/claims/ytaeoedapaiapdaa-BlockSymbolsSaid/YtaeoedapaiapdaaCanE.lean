/-
  canon.Codes where the lengths make a code.
-/
import Derived.Test.YtaeoedapaiapdaaCanD
namespace Go.Proofs.Ytaeoedapaiapdaa.CanC
open Go.RowKit Go.My BitMath CanMath

/-- What the loop of Codes keeps. -/
structure CodeAt (ls : List Nat) (len : Nat) (w wr : World) (gn gw k : Nat) (F : Array Value) : Prop where
  wrds : Wrds F (nf ls k)
  next : Blk wr gn 88 F
  own : OwnV 37 w.heap.size wr (.slice (some ⟨gw, 0, none⟩) len len) ((words ls k).map uv)
  below : Below w.heap.size w wr

set_option maxRecDepth 100000 in
set_option maxHeartbeats 4000000 in
theorem codes_ok (a : Option Addr) (len cap : Nat) (zs : List Int) (w : World) (h : RowIn w a len cap (zs.map iv)) (hg : Good zs) (hk : kr (nat zs) ≤ 32768) :
    Calls Try.prog 43 #[.slice a len cap] w (CodesOk zs w) := by
  have hzl : zs.length = len := by have := h.len_eq; simpa using this
  have hlen : len ≤ 65536 := by rw [← hzl]; exact hg.1
  have HZ := Lib.hid hzl
  have HG := Lib.hid hg
  have HR := Lib.hid h
  have HKR := Lib.hid hk
  have HLS : Hid ((nat zs).length = len) := Lib.hid (by rw [nat_len]; exact hzl)
  have HK : Hid ((kindN (nat zs) == 4) = false) := Lib.hid (by
    unfold kindN
    rw [if_neg (by omega)]
    split
    · rfl
    · split
      · rfl
      · split <;> rfl)
  clear hg h hk hzl
  go_enter Try.func43, Try.ntmps43
  go_wp2_with fail
  refine (tally_any a len cap zs w HR.out).mono ?_
  rintro e w2 ⟨he, hb2⟩
  obtain ⟨C, hN, rfl⟩ := he.1 HG.out
  have HN := Lib.hid hN
  have HB := Lib.hid hb2
  have HS : Hid ((Try.prog.info? 84).map (·.size) = some C.size) := Lib.hid (by rw [hN.size]; exact info_cnt)
  have HS2 : Hid (z16.size = C.size) := Lib.hid (by rw [hN.size]; rfl)
  have HX : Hid (Blk (w2.alloc (.cells z16 84)) w2.heap.size 84 z16) := Lib.hid (Blk.new w2 _ _)
  clear he hN hb2
  go_wp2_with (first
    | (refine wpList_store_row rfl _ _ _ rfl w2.heap.size _ rfl rfl 84 z16 HX.out HS.out HS2.out HN.out.one ?_)
    | (refine wpList_load_row rfl 84 _ rfl w2.heap.size rfl 84 C (0, 0) _ (HX.out.row C) Try.underlying84 rfl HS.out ?_))
  have HB2 : Hid (Below w.heap.size w ((w2.alloc (.cells z16 84)).setRow w2.heap.size C)) := Lib.hid (below_row (HB.out.alloc HB.out.size _) HB.out.size C)
  have HX2 : Hid (Blk ((w2.alloc (.cells z16 84)).setRow w2.heap.size C) w2.heap.size 84 C) := Lib.hid (HX.out.row C)
  have HW2 : Hid (w.heap.size ≤ w2.heap.size) := Lib.hid HB.out.size
  clear HX HB
  generalize (w2.alloc (.cells z16 84)).setRow w2.heap.size C = w3 at *
  generalize w2.heap.size = gc at *
  refine (kind_any C _ _ HN.out HG.out.all (by rw [nat_len]; exact HG.out.1)).mono ?_
  rintro e w4 ⟨rfl, hb4⟩
  have HB4 := Lib.hid (HB2.out.trans (hb4.mono HB2.out.size))
  have HX4 : Hid (Blk w4 gc 84 C) := Lib.hid (HX2.out.same (hb4.block _ HX2.out.lt))
  have hkn := HK.out
  clear hb4 HB2 HX2 HK
  generalize kindN (nat zs) = X at *
  go_wp2_with (first
    | (refine wpList_load_row rfl 84 _ rfl gc rfl 84 C (0, 0) _ HX4.out Try.underlying84 rfl HS.out ?_))
  clear hkn
  refine (firsts_any C _ _ HN.out HG.out.all (by rw [nat_len]; exact HG.out.1) HKR.out).mono ?_
  rintro e w5 ⟨⟨F, hF, rfl⟩, hb5⟩
  have HB5 := Lib.hid (HB4.out.trans (hb5.mono HB4.out.size))
  have HF := Lib.hid hF
  have HFS : Hid ((Try.prog.info? 88).map (·.size) = some F.size) := Lib.hid (by rw [hF.size]; exact info_wrd)
  have HFS2 : Hid (u16z.size = F.size) := Lib.hid (by rw [hF.size]; rfl)
  have HY : Hid (Blk (w5.alloc (.cells u16z 88)) w5.heap.size 88 u16z) := Lib.hid (Blk.new w5 _ _)
  clear hF hb5 HB4 HX4
  go_upto_region 7 with (first
    | (refine wpList_store_row rfl _ _ _ rfl w5.heap.size _ rfl rfl 88 u16z HY.out HFS.out HFS2.out HF.out.one ?_))
  have HB6 : Hid (Below w.heap.size w ((w5.alloc (.cells u16z 88)).setRow w5.heap.size F)) := Lib.hid (below_row (HB5.out.alloc HB5.out.size _) HB5.out.size F)
  have HY6 : Hid (Blk ((w5.alloc (.cells u16z 88)).setRow w5.heap.size F) w5.heap.size 88 F) := Lib.hid (HY.out.row F)
  have HN6 : Hid (w.heap.size ≤ w5.heap.size) := Lib.hid HB5.out.size
  clear HY HB5
  generalize (w5.alloc (.cells u16z 88)).setRow w5.heap.size F = w6 at *
  generalize w5.heap.size = gn at *
  go_wp2_with (at_make; refine wpList_make_row _ rfl (.tmp 23) (.tmp 23) 50 rfl w.heap.size 37 (.int .u32 0) 4 Try.underlying50 info_u32 rfl .i64 .i64 len rfl rfl (by omega) (by omega) HB6.out.size ?_)
  intro w7 hown hg7
  have HL7 : Hid (CodeAt (nat zs) len w w7 gn w6.heap.size 0 F) := Lib.hid ⟨HF.out.same (fun i _ => nf_zero _ i), HY6.out.grown hg7 (by simp), by rw [words_zero, HLS.out]; exact hown, grown_none_below HB6.out hg7 HB6.out.size⟩
  have HNE : Hid (gn ≠ w6.heap.size ∧ w.heap.size ≤ w6.heap.size) := Lib.hid ⟨by have := HY6.out.lt; omega, HB6.out.size⟩
  clear hown hg7 HB6 HY6
  generalize w6.heap.size = gw at *
  go_wp2_with fail
  go_loopw [8, 9, 27] (fun _ _ i wr => ∃ (k : Nat) (F : Array Value), k ≤ len ∧ i = .int .i64 (k : Int) ∧ Hid (CodeAt (nat zs) len w wr gn gw k F)) (fun _ _ i _ => len - (intOf i).toNat)
  case atStart => exact ⟨0, F, Nat.zero_le _, rfl, HL7⟩
  case round =>
    clear HL7 HN HF HFS HFS2
    obtain ⟨k, F, hk, rfl, HL⟩ := hrel
    by_cases hlt : k < len
    · obtain ⟨b, off, rfl⟩ := HR.out.some_ (by omega)
      have hkz : k < zs.length := by rw [HZ.out]; exact hlt
      have hkl : k < (nat zs).length := by rw [HLS.out]; exact hlt
      obtain ⟨n, hn⟩ : ∃ n : Nat, zs[k] = (n : Int) := ⟨zs[k].toNat, by have := HG.out.2 _ (List.getElem_mem hkz); omega⟩
      have hn2 : (nat zs)[k] = n := by rw [nat_get zs k hkz, hn]; rfl
      have hn15 : n ≤ 15 := by rw [← hn2]; exact HG.out.all _ (List.getElem_mem hkl)
      have hcz : wr.cell? ⟨b, off + k, none⟩ = some (.int .i64 (n : Int)) := by
        rw [HL.out.below.cell (p := ⟨b, off + k, none⟩) (HR.out.lt (by omega)), HR.out.get k (by simpa using hkz)]
        simp [iv, hn]
      have HCW : Hid (codeW (nat zs) k = nf (nat zs) k n) := Lib.hid (by rw [codeW_eq _ k hkl, hn2]; rfl)
      have HNF : Hid (∀ i, nf (nat zs) (k + 1) i = nf (nat zs) k i + (if i = n ∧ 0 < i then 1 else 0)) := Lib.hid (fun i => by rw [nf_succ _ k i hkl, hn2])
      clear hn hn2
      by_cases h0 : 0 < n
      · have hc1 : wr.cell? ⟨gn, n, none⟩ = some (.int .u32 ((nf (nat zs) k n : Nat) : Int)) := by rw [HL.out.next.cell n]; exact HL.out.wrds.at_ n (by omega)
        have hf1 : wr.frozen? ⟨gn, n, none⟩ = false := HL.out.next.frozen n
        have hwl : ((words (nat zs) k).map uv).length = len := by rw [List.length_map, words_len, HLS.out]
        obtain ⟨old, hc2⟩ : ∃ old, wr.cell? ⟨gw, k, none⟩ = some old := ⟨_, HL.out.own.cell hwl k (by rw [hwl]; exact hlt)⟩
        have hf2 : wr.frozen? ⟨gw, k, none⟩ = false := HL.out.own.free hwl k
        have hle := nf_le (nat zs) HG.out.all HKR.out (by rw [HLS.out]; exact hlen) k n hn15
        have HO := HL.out.own.store hwl k (uv (codeW (nat zs) k))
        rw [words_set, HCW.out] at HO
        have HOW := Lib.hid HO
        have HW := Lib.hid (HL.out.wrds.set (g := nf (nat zs) (k + 1)) n ((nf (nat zs) k n : Nat) + 1) (by rw [HNF.out, if_pos ⟨rfl, h0⟩]; omega) (fun i hi => by rw [HNF.out, if_neg (fun e => hi e.1)]; rfl))
        have HNB : Hid (Blk (wr.setCell ⟨gw, k, none⟩ (uv (nf (nat zs) k n))) gn 88 F) := Lib.hid (HL.out.next.same (Below.heap_setCell _ _ _ _ (by simpa using HNE.out.1)))
        have HBB : Hid (Below w.heap.size w (wr.setCell ⟨gw, k, none⟩ (uv (nf (nat zs) k n)))) := Lib.hid (HL.out.below.setCell (p := ⟨gw, k, none⟩) (by simpa using HNE.out.2) _)
        have hc3 : (wr.setCell ⟨gw, k, none⟩ (uv (nf (nat zs) k n))).cell? ⟨gn, n, none⟩ = some (.int .u32 ((nf (nat zs) k n : Nat) : Int)) := by rw [HNB.out.cell n]; exact HL.out.wrds.at_ n (by omega)
        have hf3 : (wr.setCell ⟨gw, k, none⟩ (uv (nf (nat zs) k n))).frozen? ⟨gn, n, none⟩ = false := HNB.out.frozen n
        clear HO hwl HCW HNF
        unfold uv at hc3 hf3 HNB HBB HOW
        generalize nf (nat zs) k n = x at *
        clear HL
        go_wp2_with fail
        go_roundw
        case rel => exact ⟨k + 1, _, by omega, by go_num, Lib.hid ⟨HW.out, HNB.out.set_ n _, HOW.out.only (S := fun g => g = gn) (Only.setCell (S := fun g => g = gn) (Only.refl _ _) (p := ⟨gn, n, none⟩) (fun _ => rfl) _) (fun g hg e => by simp [Value.ownBlock] at hg; exact HNE.out.1 (by omega)), HBB.out.setCell (p := ⟨gn, n, none⟩) HN6.out _⟩⟩
        case measure => simp [intOf]; omega
      · obtain rfl : n = 0 := by omega
        have HL2 : Hid (CodeAt (nat zs) len w wr gn gw (k + 1) F) := Lib.hid ⟨HL.out.wrds.same (fun i _ => by rw [HNF.out, if_neg (by omega)]; rfl), HL.out.next, by rw [← words_skip _ k (by rw [HCW.out]; rfl)]; exact HL.out.own, HL.out.below⟩
        clear HCW HNF
        go_wp2_with fail
        go_roundw
        case rel => exact ⟨k + 1, F, by omega, by go_num, HL2⟩
        case measure => simp [intOf]; omega
    · obtain rfl : k = len := by omega
      go_wp2_with fail
      go_ret2
      exact ⟨gw, by rw [HZ.out]; rfl, HNE.out.2, by have := HL.out.own; unfold allWords; rwa [HZ.out, HLS.out], HL.out.below⟩
end Go.Proofs.Ytaeoedapaiapdaa.CanC
