/-
  table.New.
-/
import Derived.Test.YtgmdbcmfncapdaaTabN
namespace Go.Proofs.Ytgmdbcmfncapdaa.TabC
open Go.RowKit Go.My BitMath CanMath TabMath CanC

section
variable {a : Option Addr} {len cap : Nat} {zs : List Int} {w : World}
set_option maxRecDepth 100000 in
set_option maxHeartbeats 2000000 in
theorem new_bad (f : Int) (h : RowIn w a len cap (zs.map iv)) (hg : ¬ CanC.Good zs) :
    Calls Try.prog 7 #[.slice a len cap, .int .i64 f] w fun e w' => e = .returned (.tuple #[.pointer none, .int .i64 7]) ∧ Below w.heap.size w w' := by
  have HG := Lib.hid hg
  have HR := Lib.hid h
  clear hg h
  go_enter Try.func7, Try.ntmps7
  go_wp2_with fail
  refine (codes_bad HR.out HG.out).mono ?_
  rintro e w2 ⟨rfl, hb⟩
  have HB := Lib.hid hb
  clear hb
  go_wp2_with fail
  go_ret2
  exact ⟨rfl, HB.out⟩
set_option maxRecDepth 100000 in
set_option maxHeartbeats 2000000 in
theorem new_over (f : Int) (h : RowIn w a len cap (zs.map iv)) (hg : CanC.Good zs) (hk : 32768 < kr (nat zs)) :
    Calls Try.prog 7 #[.slice a len cap, .int .i64 f] w fun e w' => e = .returned (.tuple #[.pointer none, .int .i64 2]) ∧ Below w.heap.size w w' := by
  have HG := Lib.hid hg
  have HK := Lib.hid hk
  have HR := Lib.hid h
  clear hg h hk
  go_enter Try.func7, Try.ntmps7
  go_wp2_with fail
  refine (codes_over HR.out HG.out HK.out).mono ?_
  rintro e w2 ⟨rfl, hb⟩
  have HB := Lib.hid hb
  clear hb
  go_wp2_with fail
  go_ret2
  exact ⟨rfl, HB.out⟩
set_option maxRecDepth 100000 in
set_option maxHeartbeats 2000000 in
theorem new_arg (f : Int) (h : RowIn w a len cap (zs.map iv)) (hg : CanC.Good zs) (hk : kr (nat zs) ≤ 32768) (hf : f < 1 ∨ 15 < f) :
    Calls Try.prog 7 #[.slice a len cap, .int .i64 f] w fun e w' => e = .returned (.tuple #[.pointer none, .int .i64 1]) ∧ Below w.heap.size w w' := by
  have HG := Lib.hid hg
  have HK := Lib.hid hk
  have HR := Lib.hid h
  clear hg h hk
  by_cases hf1 : f < 1
  · go_enter Try.func7, Try.ntmps7
    go_wp2_with fail
    refine (codes_ok _ _ _ zs _ HR.out HG.out HK.out).mono ?_
    rintro e w2 ⟨gw, rfl, _, _, hb⟩
    have HB := Lib.hid hb
    clear hb
    go_wp2_with fail
    go_ret2
    exact ⟨rfl, HB.out⟩
  · have d1 : decide (f < 1) = false := by simp; omega
    have d2 : decide (f > 15) = true := by simp; omega
    go_enter Try.func7, Try.ntmps7
    go_wp2_with fail
    refine (codes_ok _ _ _ zs _ HR.out HG.out HK.out).mono ?_
    rintro e w2 ⟨gw, rfl, _, _, hb⟩
    have HB := Lib.hid hb
    clear hb
    go_wp2_with fail
    go_ret2
    exact ⟨rfl, HB.out⟩

/-- What New's loops keep. -/
structure NewAt (B : Nat) (w wr : World) (gw len : Nat) (vs : List Value) : Prop where
  base : B ≤ gw
  own : OwnV 34 B wr (.slice (some ⟨gw, 0, none⟩) len len) vs
  below : Below w.heap.size w wr

structure FillAt (w wr : World) (gw len g ge f : Nat) (ls : List Nat) (k : Nat) : Prop where
  tab : TabAt wr g ge f (S ls f (2 ^ f)) (TT ls f k)
  words : RowIn wr (some ⟨gw, 0, none⟩) len len (wds ls)
  below : Below w.heap.size w wr

set_option maxRecDepth 100000 in
set_option maxHeartbeats 8000000 in
theorem new_ok (f : Nat) (h : RowIn w a len cap (zs.map iv)) (hg : CanC.Good zs) (hk : kr (nat zs) ≤ 32768) (hf1 : 1 ≤ f) (hf : f ≤ 15) :
    Calls Try.prog 7 #[.slice a len cap, .int .i64 (f : Int)] w fun e w' => ∃ g, e = .returned (.tuple #[.pointer (some ⟨g, 0, none⟩), .int .i64 0]) ∧ IsTab w.heap.size w' g (nat zs) f ∧ Below w.heap.size w w' := by
  have hzl : zs.length = len := by have := h.len_eq; simpa using this
  have HZ := Lib.hid hzl
  have HLS : Hid ((nat zs).length = len) := Lib.hid (by rw [nat_len]; exact hzl)
  have hlen : len ≤ 65536 := by rw [← hzl]; exact hg.1
  have HG := Lib.hid hg
  have HK := Lib.hid hk
  have HR := Lib.hid h
  have d1 : decide ((f : Int) < 1) = false := by simp; omega
  have d2 : decide ((f : Int) > 15) = false := by simp; omega
  clear hg h hk hzl
  go_enter Try.func7, Try.ntmps7
  go_wp2_with fail
  refine (codes_ok _ _ _ zs _ HR.out HG.out HK.out).mono ?_
  rintro e w2 ⟨gw, rfl, hgw, hown, hb⟩
  rw [HZ.out] at hown ⊢
  have HN : Hid (NewAt w.heap.size w w2 gw len (wk (nat zs) 0)) := Lib.hid ⟨hgw, by rw [wk_zero]; exact hown, hb⟩
  clear hgw hown hb
  go_wp2_with fail
  clear d1 d2
  go_loopw [8, 9, 29] (fun _ _ x wr => ∃ k : Nat, k ≤ len ∧ x = .int .i64 (k : Int) ∧ Hid (NewAt w.heap.size w wr gw len (wk (nat zs) k))) (fun _ _ x _ => len - (intOf x).toNat)
  case atStart => exact ⟨0, Nat.zero_le _, rfl, HN⟩
  case round =>
    clear HN
    obtain ⟨k, hk, rfl, HN⟩ := hrel
    by_cases hlt : k < len
    · obtain ⟨b, off, rfl⟩ := HR.out.some_ (by omega)
      have hkz : k < zs.length := by rw [HZ.out]; exact hlt
      have hkn : k < (nat zs).length := by rw [HLS.out]; exact hlt
      obtain ⟨n, hn⟩ : ∃ n : Nat, zs[k] = (n : Int) := ⟨zs[k].toNat, by have := HG.out.2 _ (List.getElem_mem hkz); omega⟩
      have hn2 : ln (nat zs) k = n := by rw [ln_eq _ _ hkn, nat_get zs k hkz, hn]; rfl
      have hn15 : n ≤ 15 := by rw [← hn2]; exact ln_le HG.out.all k
      have hcz : wr.cell? ⟨b, off + k, none⟩ = some (.int .i64 (n : Int)) := by
        rw [HN.out.below.cell (p := ⟨b, off + k, none⟩) (HR.out.lt (by omega)), HR.out.get k (by simpa using hkz)]
        simp [iv, hn]
      have hwl : (wk (nat zs) k).length = len := by rw [wk_len, HLS.out]
      have hcw : wr.cell? ⟨gw, k, none⟩ = some (.int .u32 ((codeW (nat zs) k : Nat) : Int)) := by
        have h1 := HN.out.own.cell hwl k (by rw [hwl]; exact hlt)
        rw [wk_get _ _ _ hkn, if_neg (by omega)] at h1
        exact h1
      have hfw : wr.frozen? ⟨gw, k, none⟩ = false := HN.out.own.free hwl k
      obtain ⟨r1, r2⟩ := rc_code (nat zs) HG.out.all HK.out k hkn
      rw [hn2] at r1 r2
      have HN2 : Hid (NewAt w.heap.size w (wr.setCell ⟨gw, k, none⟩ (.int .u32 ((wd (nat zs) k : Nat) : Int))) gw len (wk (nat zs) (k + 1))) := Lib.hid ⟨HN.out.base, by
        have h1 := HN.out.own.store hwl k (CanC.uv (wd (nat zs) k))
        rw [wk_set] at h1
        exact h1, HN.out.below.setCell (p := ⟨gw, k, none⟩) HN.out.base _⟩
      have HQ := Lib.hid (turned_any (codeW (nat zs) k) n wr hn15 r1)
      rw [r2] at HQ
      clear hn hn2 r1 r2 hwl HN
      generalize codeW (nat zs) k = cv at *
      go_wp2_with fail
      refine HQ.out.mono ?_
      rintro e w3 ⟨rfl, rfl⟩
      clear HQ
      go_wp2_with fail
      go_roundw
      case rel => exact ⟨k + 1, by omega, by go_num, HN2⟩
      case measure => simp [intOf]; omega
    · obtain rfl : k = len := by omega
      have HW : Hid (RowIn wr (some ⟨gw, 0, none⟩) k k (wds (nat zs))) := Lib.hid (by
        have h1 := HN.out.own
        rw [← HLS.out, wk_end, HLS.out] at h1
        exact h1.rowIn (by rw [wds_len, HLS.out]))
      have HB := Lib.hid HN.out.below
      have HGW := Lib.hid HN.out.base
      have hp := pow_le15 hf
      have h0 := Nat.two_pow_pos f
      have hp2 : (2 : Int) ^ f = ((2 ^ f : Nat) : Int) := by push_cast; rfl
      obtain ⟨P, hPe⟩ : ∃ P, P = 2 ^ f := ⟨_, rfl⟩
      rw [← hPe] at hp h0 hp2
      have HP := Lib.hid hPe
      have HGL : Hid (gw < wr.heap.size) := Lib.hid (HN.out.own.lt gw rfl)
      clear hPe HN
      have g1 : IntKind.u64.wrap (f : Int) = (f : Int) := by rw [IntKind.wrap_u64]; omega
      have g3 : min f 64 = f := by omega
      have g4 : IntKind.i64.wrap (2 ^ f) = (P : Int) := by rw [hp2, IntWalk.i64_in _ (by omega)]
      have g5 : (1 : Int) * 2 ^ f = (P : Int) := by rw [hp2]; omega
      go_wp2_with (at_make; refine wpList_make_els _ rfl (.tmp 47) (.tmp 47) rfl .i64 .i64 P rfl rfl (by omega) ?_)
      intro C hE
      obtain ⟨w5, hw5⟩ : ∃ w5, w5 = wr.alloc (.cells C 54) := ⟨_, rfl⟩
      rw [← hw5]
      have HR5 : Hid (Row w5 wr.heap.size P (fun _ => El.z)) := Lib.hid (by rw [hw5]; exact ⟨C, Blk.new wr _ _, hE⟩)
      have HB5 : Hid (Below wr.heap.size wr w5) := Lib.hid (by rw [hw5]; exact (Below.refl _ _).alloc (Nat.le_refl _) _)
      have HL5 : Hid (wr.heap.size < w5.heap.size) := Lib.hid HR5.out.lt
      clear hw5 hE
      go_wp2_with fail
      obtain ⟨w6, hw6⟩ : ∃ w6, w6 = w5.alloc (.cells #[.int .u64 (f : Int), .slice (some ⟨wr.heap.size, 0, none⟩) P P] 48) := ⟨_, rfl⟩
      rw [← hw6]
      have HT6 : Hid (TabAt w6 w5.heap.size wr.heap.size f (2 ^ f) (fun _ => El.z)) := Lib.hid (by rw [hw6, ← HP.out]; exact ⟨Blk.new w5 _ _, HR5.out.same (Below.heap_alloc _ _ _ HR5.out.lt)⟩)
      have HB6 : Hid (Below wr.heap.size wr w6) := Lib.hid (by rw [hw6]; exact HB5.out.alloc (Nat.le_of_lt HL5.out) _)
      have HBW : Hid (Below w.heap.size w w6) := Lib.hid (HB.out.trans (HB6.out.mono HB.out.size))
      have HW6 : Hid (RowIn w6 (some ⟨gw, 0, none⟩) k k (wds (nat zs))) := Lib.hid (HW.out.below (Nat.le_refl _) HB6.out)
      have HR6 : Hid (RowIn w6 a k cap (zs.map iv)) := Lib.hid (HR.out.below (Nat.le_refl _) HBW.out)
      have HS6 : Hid (w.heap.size ≤ wr.heap.size ∧ gw < wr.heap.size ∧ wr.heap.size < w5.heap.size ∧ w5.heap.size < w6.heap.size) := Lib.hid ⟨HB.out.size, HGL.out, HL5.out, HT6.out.lt.1⟩
      clear hw6 HR5 HB5 HL5 HB6 HB HGL HW
      generalize w5.heap.size = g at *
      generalize wr.heap.size = ge at *
      refine (link_any g ge f gw k cap a zs w6 HT6.out hf1 hf HW6.out HR6.out HG.out ⟨by have := HS6.out; omega, by have := HS6.out; omega⟩ (fun hk0 b off hab => by
        have h1 := HR.out
        rw [hab] at h1
        have h2 := h1.lt hk0
        have h3 := HS6.out
        exact ⟨by omega, by omega⟩)).mono ?_
      rintro e w7 ⟨rfl, ge2, ht7, hge2, ho7⟩
      have HBW7 : Hid (Below w.heap.size w w7) := Lib.hid (HBW.out.trans (ho7.below (by have := HS6.out; omega) (fun k hk => by have := HS6.out; omega)))
      have HW7 : Hid (RowIn w7 (some ⟨gw, 0, none⟩) k k (wds (nat zs))) := Lib.hid (RowIn.only HW6.out ho7 (fun b off hab h => by
        injection hab with hab
        injection hab with hab
        have := HS6.out
        omega))
      have HT7 : Hid (TabAt w7 g ge2 f (S (nat zs) f (2 ^ f)) (TT (nat zs) f 0)) := Lib.hid ht7
      have HS7 : Hid (w.heap.size ≤ g ∧ w.heap.size ≤ ge2 ∧ gw ≠ ge2) := Lib.hid (by have := HS6.out; have := HBW.out.size; exact ⟨by omega, by omega, by omega⟩)
      clear ht7 hge2 ho7 HT6 HBW HW6 HR6 HS6
      have HF : Hid (FillAt w w7 gw k g ge2 f (nat zs) 0) := Lib.hid ⟨HT7.out, HW7.out, HBW7.out⟩
      clear HT7 HW7 HBW7 hp2 g1 g3 g4 g5
      go_wp2_with fail
      go_loopw [11, 12, 57] (fun _ _ x wr => ∃ q : Nat, q ≤ k ∧ x = .int .i64 (q : Int) ∧ Hid (FillAt w wr gw k g ge2 f (nat zs) q)) (fun _ _ x _ => k - (intOf x).toNat)
      case atStart => exact ⟨0, Nat.zero_le _, rfl, HF⟩
      case round =>
        clear HF
        obtain ⟨q, hq, rfl, HF⟩ := hrel
        by_cases hqk : q < k
        · obtain ⟨b, off, rfl⟩ := HR.out.some_ (by omega)
          have hkz : q < zs.length := by rw [HZ.out]; exact hqk
          have hkn : q < (nat zs).length := by rw [HLS.out]; exact hqk
          obtain ⟨n, hn⟩ : ∃ n : Nat, zs[q] = (n : Int) := ⟨zs[q].toNat, by have := HG.out.2 _ (List.getElem_mem hkz); omega⟩
          have hn2 : ln (nat zs) q = n := by rw [ln_eq _ _ hkn, nat_get zs q hkz, hn]; rfl
          have hn15 : n ≤ 15 := by rw [← hn2]; exact ln_le HG.out.all q
          have hcz : wr.cell? ⟨b, off + q, none⟩ = some (.int .i64 (n : Int)) := by
            rw [HF.out.below.cell (p := ⟨b, off + q, none⟩) (HR.out.lt (by omega)), HR.out.get q (by simpa using hkz)]
            simp [iv, hn]
          have hcw : wr.cell? ⟨gw, q, none⟩ = some (.int .u32 ((wd (nat zs) q : Nat) : Int)) := by
            have h1 := HF.out.words.get q (by rw [wds_len]; exact hkn)
            rw [wds_get _ q hkn, Nat.zero_add] at h1
            rw [h1]; rfl
          by_cases hn0 : 0 < n
          · have HQ : Hid (Calls Try.prog 16 #[.pointer (some ⟨g, 0, none⟩), .int .i64 (q : Int), .int .u32 ((wd (nat zs) q : Nat) : Int), .int .i64 (n : Int)] wr fun r w' =>
                r = .returned (.tuple #[]) ∧ TabAt w' g ge2 f (S (nat zs) f (2 ^ f)) (TT (nat zs) f (q + 1)) ∧ Only (fun k => k = ge2) wr w') := Lib.hid (by
              have h1 := place_tab HG.out.all HK.out (by rw [HLS.out]; exact hlen) f hf1 hf g ge2 q wr HF.out.tab (by rw [hn2]; exact hn0)
              rw [hn2] at h1
              exact h1)
            clear hn hn2
            generalize wd (nat zs) q = wv at *
            go_wp2_with fail
            refine HQ.out.mono ?_
            rintro e w8 ⟨rfl, ht8, ho8⟩
            have HF8 : Hid (FillAt w w8 gw k g ge2 f (nat zs) (q + 1)) := Lib.hid ⟨ht8, RowIn.only HF.out.words ho8 (fun b off hab h => by
              injection hab with hab
              injection hab with hab
              have := HS7.out
              omega), HF.out.below.trans (ho8.below HF.out.below.size (fun k hk => by rw [hk]; exact HS7.out.2.1))⟩
            clear HQ ht8 ho8 HF hcz hcw
            go_wp2_with fail
            go_roundw
            case rel => exact ⟨q + 1, by omega, by go_num, HF8⟩
            case measure => simp [intOf]; omega
          · have HF8 : Hid (FillAt w wr gw k g ge2 f (nat zs) (q + 1)) := Lib.hid ⟨by rw [TT, put, if_pos (by omega)]; exact HF.out.tab, HF.out.words, HF.out.below⟩
            clear hn hn2 hcw HF
            go_wp2_with fail
            go_roundw
            case rel => exact ⟨q + 1, by omega, by go_num, HF8⟩
            case measure => simp [intOf]; omega
        · obtain rfl : q = k := by omega
          go_wp2_with fail
          go_ret2
          exact ⟨g, rfl, ⟨HS7.out.1, ge2, HS7.out.2.1, by have h1 := HF.out.tab; rw [HLS.out]; exact h1⟩, HF.out.below⟩
end
end Go.Proofs.Ytgmdbcmfncapdaa.TabC
