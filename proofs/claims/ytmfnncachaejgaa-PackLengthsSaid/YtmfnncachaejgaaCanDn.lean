/-
  canon.Kind alone (for seats that call it and not Kraft).
-/
import Derived.Test.YtmfnncachaejgaaCanB
namespace Go.Proofs.Ytmfnncachaejgaa.CanC
open Go.RowKit Go.My BitMath CanMath

section
variable {a : Option Addr} {len cap : Nat} {zs : List Int} {w : World}
set_option maxRecDepth 100000 in
set_option maxHeartbeats 2000000 in
theorem kind_good (h : RowIn w a len cap (zs.map iv)) (hg : Good zs) :
    Calls Try.prog 11 #[.slice a len cap] w fun e w' => e = .returned (.int .i64 (kindN (nat zs))) ∧ Below w.heap.size w w' := by
  have HG := Lib.hid hg
  have HR := Lib.hid h
  clear hg h
  go_enter Try.func11, Try.ntmps11
  go_wp2_with fail
  refine (tally_any a len cap zs w HR.out).mono ?_
  rintro e w2 ⟨he, hb2⟩
  obtain ⟨C, hN, rfl⟩ := he.1 HG.out
  have HN := Lib.hid hN
  have HB := Lib.hid hb2
  have HS : Hid ((Try.prog.info? 40).map (·.size) = some C.size) := Lib.hid (by rw [hN.size]; exact info_cnt)
  have HS2 : Hid (z16.size = C.size) := Lib.hid (by rw [hN.size]; rfl)
  have HX : Hid (Blk (w2.alloc (.cells z16 40)) w2.heap.size 40 z16) := Lib.hid (Blk.new w2 _ _)
  clear he hN hb2
  go_wp2_with (first
    | (refine wpList_store_row rfl _ _ _ rfl w2.heap.size _ rfl rfl 40 z16 HX.out HS.out HS2.out HN.out.one ?_)
    | (refine wpList_load_row rfl 40 _ rfl w2.heap.size rfl 40 C (0, 0) _ (HX.out.row C) Try.underlying40 rfl HS.out ?_))
  have HB2 : Hid (Below w.heap.size w ((w2.alloc (.cells z16 40)).setRow w2.heap.size C)) := Lib.hid (below_row (HB.out.alloc HB.out.size _) HB.out.size C)
  refine (kind_any C _ _ HN.out HG.out.all (by rw [nat_len]; exact HG.out.1)).mono ?_
  rintro e w3 ⟨rfl, hb3⟩
  have HB3 := Lib.hid (HB2.out.trans (hb3.mono HB2.out.size))
  clear hb3
  go_wp2_with fail
  go_ret
  exact ⟨rfl, HB3.out⟩
set_option maxRecDepth 100000 in
set_option maxHeartbeats 2000000 in
theorem kind_bad (h : RowIn w a len cap (zs.map iv)) (hg : ¬ Good zs) :
    Calls Try.prog 11 #[.slice a len cap] w fun e w' => e = .returned (.int .i64 4) ∧ Below w.heap.size w w' := by
  have HG := Lib.hid hg
  have HR := Lib.hid h
  clear hg h
  go_enter Try.func11, Try.ntmps11
  go_wp2_with fail
  refine (tally_any a len cap zs w HR.out).mono ?_
  rintro e w2 ⟨he, hb2⟩
  obtain ⟨C, f, hN, rfl⟩ := he.2 HG.out
  have HN := Lib.hid hN
  have HB := Lib.hid hb2
  have HS : Hid ((Try.prog.info? 40).map (·.size) = some C.size) := Lib.hid (by rw [hN.size]; exact info_cnt)
  have HS2 : Hid (z16.size = C.size) := Lib.hid (by rw [hN.size]; rfl)
  have HX : Hid (Blk (w2.alloc (.cells z16 40)) w2.heap.size 40 z16) := Lib.hid (Blk.new w2 _ _)
  clear he hN hb2
  go_wp2_with (first
    | (refine wpList_store_row rfl _ _ _ rfl w2.heap.size _ rfl rfl 40 z16 HX.out HS.out HS2.out HN.out.one ?_))
  go_ret
  exact ⟨rfl, below_row (HB.out.alloc HB.out.size _) HB.out.size C⟩
end
end Go.Proofs.Ytmfnncachaejgaa.CanC
