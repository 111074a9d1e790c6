/-
  (*Table).link, walked.
-/
import Derived.Test.YtgmdbcmfncapdaaTabL
namespace Go.Proofs.Ytgmdbcmfncapdaa.TabC
open Go.RowKit Go.My BitMath CanMath TabMath CanC

/-- What link's loops keep. -/
structure LinkAt (w wr : World) (g ge f n : Nat) (T : Nat → El) : Prop where
  tab : TabAt wr g ge f n T
  only : Only (fun k => k = ge) w wr

set_option maxRecDepth 100000 in
set_option maxHeartbeats 8000000 in
theorem link_any (g ge f gw len cap : Nat) (a : Option Addr) (zs : List Int) (w : World) (h : TabAt w g ge f (2 ^ f) (fun _ => El.z)) (hf1 : 1 ≤ f) (hf : f ≤ 15)
    (hw : RowIn w (some ⟨gw, 0, none⟩) len len (wds (nat zs))) (hz : RowIn w a len cap (zs.map iv)) (hg : CanC.Good zs)
    (hgw : gw ≠ ge ∧ gw ≠ g) (ha : 0 < len → ∀ b off, a = some ⟨b, off, none⟩ → b ≠ ge ∧ b ≠ g) :
    Calls Try.prog 15 #[.pointer (some ⟨g, 0, none⟩), .slice (some ⟨gw, 0, none⟩) len len, .slice a len cap] w fun e w' =>
      e = .returned (.tuple #[]) ∧ ∃ ge', TabAt w' g ge' f (S (nat zs) f (2 ^ f)) (T0 (nat zs) f) ∧ w.heap.size ≤ ge' ∧ Only (fun k => k = ge ∨ k = g) w w' := by
  have hzl : zs.length = len := by have := hz.len_eq; simpa using this
  have HZ := Lib.hid hzl
  have HLS : Hid ((nat zs).length = len) := Lib.hid (by rw [nat_len]; exact hzl)
  have hlen : len ≤ 65536 := by rw [← hzl]; exact hg.1
  have HT := Lib.hid h
  have HW := Lib.hid hw
  have HR := Lib.hid hz
  have HG := Lib.hid hg
  have HA := Lib.hid ha
  have HGW := Lib.hid hgw
  have hp := pow_le15 hf
  have h0 := Nat.two_pow_pos f
  have hc3 : IntKind.i64.wrap (f : Int) = (f : Int) := by rw [IntWalk.i64_in _ (by omega)]
  clear h hw hz hg ha hgw hzl
  obtain ⟨P, hPe⟩ : ∃ P, P = 2 ^ f := ⟨_, rfl⟩
  rw [← hPe] at HT hp h0
  have HP := Lib.hid hPe
  clear hPe
  go_enter Try.func15, Try.ntmps15
  go_wp2_with fail
  go_loopw [6, 7, 8, 9, 16] (fun _ _ _ _ x wr => ∃ k : Nat, k ≤ len ∧ x = .int .i64 (k : Int) ∧ Hid (LinkAt w wr g ge f P (L1 (nat zs) f k))) (fun _ _ _ _ x _ => len - (intOf x).toNat)
  case atStart => exact ⟨0, Nat.zero_le _, rfl, Lib.hid ⟨HT.out, Only.refl _ _⟩⟩
  case round =>
    obtain ⟨k, hk, rfl, HL⟩ := hrel
    by_cases hlt : k < len
    · obtain ⟨b, off, rfl⟩ := HR.out.some_ (by omega)
      have hkz : k < zs.length := by rw [HZ.out]; exact hlt
      have hkn : k < (nat zs).length := by rw [HLS.out]; exact hlt
      obtain ⟨n, hn⟩ : ∃ n : Nat, zs[k] = (n : Int) := ⟨zs[k].toNat, by have := HG.out.2 _ (List.getElem_mem hkz); omega⟩
      have hn2 : ln (nat zs) k = n := by rw [ln_eq _ _ hkn, nat_get zs k hkz, hn]; rfl
      have hn15 : n ≤ 15 := by rw [← hn2]; exact ln_le HG.out.all k
      have hcz : wr.cell? ⟨b, off + k, none⟩ = some (.int .i64 (n : Int)) := by
        rw [HL.out.only.cell (p := ⟨b, off + k, none⟩) (HR.out.lt (by omega)) (HA.out (by omega) b off rfl).1, HR.out.get k (by simpa using hkz)]
        simp [iv, hn]
      have hcw : wr.cell? ⟨gw, k, none⟩ = some (.int .u32 ((wd (nat zs) k : Nat) : Int)) := by
        have h1 := HW.out.get k (by rw [wds_len]; exact hkn)
        rw [wds_get _ k hkn, Nat.zero_add] at h1
        rw [HL.out.only.cell (p := ⟨gw, k, none⟩) (HW.out.lt (by omega)) HGW.out.1, h1]; rfl
      have hwl : wd (nat zs) k < 32768 := by have h1 := wd_lt (nat zs) k; have h2 := pow_le15 hn15; rw [hn2] at h1; omega
      have ht0 : wr.cell? ⟨g, 0, none⟩ = some (.int .u64 (f : Int)) := by rw [HL.out.tab.tab.cell]; rfl
      have ht1 : wr.cell? ⟨g, 1, none⟩ = some (.slice (some ⟨ge, 0, none⟩) P P) := by rw [HL.out.tab.tab.cell]; rfl
      have hc4 : IntKind.i64.wrap ((n : Int) - (f : Int)) = (n : Int) - (f : Int) := by rw [IntWalk.i64_in _ (by omega)]
      by_cases hmore : f < n
      · go_wp2_with fail
        obtain ⟨p, hpe⟩ : ∃ p, p = wd (nat zs) k % 2 ^ f := ⟨_, rfl⟩
        have hpl : p < P := by rw [hpe, HP.out]; exact Nat.mod_lt _ (Nat.two_pow_pos f)
        have HQ : Hid (∀ nq, Calls Try.prog 26 #[.pointer (some ⟨g, 0, none⟩), .int .u32 ((wd (nat zs) k : Nat) : Int)] (wr.drewN nq) fun e w' => e = .returned (.int .u32 ((p : Nat) : Int)) ∧ ∃ m, w' = wr.drewN m) := Lib.hid (fun nq => by rw [hpe]; exact start_quiet g f _ nq _ wr HL.out.tab.tab hf (by omega))
        obtain ⟨mx, hmx⟩ : ∃ mx, mx = max (mo (nat zs) f k p) (n - f) := ⟨_, rfl⟩
        have HS : Hid (∀ j, L1 (nat zs) f (k + 1) j = if j = p then ⟨(L1 (nat zs) f k p).v, (L1 (nat zs) f k p).l, mx⟩ else L1 (nat zs) f k j) := Lib.hid (fun j => by
          rw [hmx, hpe, ← hn2]; exact L1_step (nat zs) f k j (by rw [hn2]; exact hmore))
        obtain ⟨⟨_, _, c2⟩, hfz⟩ := HL.out.tab.row'.el p hpl
        have f2 := hfz (p * 3 + 2)
        have hmol := mo_le (nat zs) f HG.out.all k p
        have c2 : wr.cell? ⟨ge, p * 3 + 2, none⟩ = some (.int .u8 ((mo (nat zs) f k p : Nat) : Int)) := c2
        clear hfz hpe
        generalize mo (nat zs) f k p = mv at *
        have e1 : IntKind.u8.wrap ((n : Int) - (f : Int)) = ((n - f : Nat) : Int) := by rw [IntKind.wrap_u8]; omega
        have e2 : (if mv < n - f then ((n - f : Nat) : Int) else (mv : Int)) = (mx : Int) := by split <;> omega
        have hpi : (p : Int) < (P : Int) := by omega
        clear hmx
        generalize wd (nat zs) k = wv at *
        go_quiet ((go_at_call 26; exact HQ.out _))
        have hb := quiet_below wr nq
        have HL2 : Hid (LinkAt w (wr.drewN nq) g ge f P (L1 (nat zs) f k)) := Lib.hid ⟨HL.out.tab.below hb, HL.out.only.then_below hb⟩
        have c3 : (wr.drewN nq).cell? ⟨ge, p * 3 + 2, none⟩ = some (.int .u8 (mv : Int)) := c2
        have f3 : (wr.drewN nq).frozen? ⟨ge, p * 3 + 2, none⟩ = false := f2
        clear hb HL c2 f2 ht0 ht1 hcz hcw HQ
        generalize wr.drewN nq = w2 at *
        have HR2 : Hid (Row (w2.setCell ⟨ge, p * 3 + 2, none⟩ (.int .u8 (mx : Int))) ge P (L1 (nat zs) f (k + 1))) := Lib.hid (HL2.out.tab.row'.set2 p mx hpl (fun j _ => HS.out j))
        have HB2 : Hid (Blk (w2.setCell ⟨ge, p * 3 + 2, none⟩ (.int .u8 (mx : Int))) g 48 #[.int .u64 (f : Int), .slice (some ⟨ge, 0, none⟩) P P]) := Lib.hid (HL2.out.tab.tab.same (Below.heap_setCell _ _ _ _ HL2.out.tab.ne))
        have HO2 : Hid (Only (fun k => k = ge) w (w2.setCell ⟨ge, p * 3 + 2, none⟩ (.int .u8 (mx : Int)))) := Lib.hid (HL2.out.only.setCell (p := ⟨ge, p * 3 + 2, none⟩) (fun _ => rfl) _)
        clear HL2 HS
        go_wp2_with fail
        go_roundw
        case rel => exact ⟨k + 1, by omega, by go_num, Lib.hid ⟨⟨HB2.out, HR2.out⟩, HO2.out⟩⟩
        case measure => simp [intOf]; omega
      · have HL2 : Hid (LinkAt w wr g ge f P (L1 (nat zs) f (k + 1))) := Lib.hid (by rw [L1_skip _ _ _ (by rw [hn2]; exact hmore)]; exact HL.out)
        go_wp2_with fail
        go_roundw
        case rel => exact ⟨k + 1, by omega, by go_num, HL2⟩
        case measure => simp [intOf]; omega
    · obtain rfl : k = len := by omega
      have HL2 : Hid (LinkAt w wr g ge f P (L2 (nat zs) f 0)) := Lib.hid (by have h1 := HL.out; rw [← HLS.out, L1_end] at h1; exact h1)
      have ht1 : wr.cell? ⟨g, 1, none⟩ = some (.slice (some ⟨ge, 0, none⟩) P P) := by rw [HL2.out.tab.tab.cell]; rfl
      clear HL
      go_wp2_with fail
      clear ht1
      go_loopw [10, 11, 12, 62] (fun sz _ _ x wr => ∃ k : Nat, k ≤ P ∧ x = .int .i64 (k : Int) ∧ sz = .int .i64 ((S (nat zs) f k : Nat) : Int) ∧ Hid (LinkAt w wr g ge f P (L2 (nat zs) f k))) (fun _ _ _ x _ => P - (intOf x).toNat)
      case atStart => exact ⟨0, Nat.zero_le _, rfl, by rw [S, ← HP.out], HL2⟩
      case round =>
        clear HL2
        obtain ⟨q, hq, rfl, rfl, HL⟩ := hrel
        have hSl : S (nat zs) f q ≤ 65536 := by
          have h1 := S_top (nat zs) f hf HG.out.all
          have h2 := S_mono (nat zs) f (show q ≤ 2 ^ f by rw [← HP.out]; exact hq)
          have h3 := HP.out
          omega
        by_cases hqP : q < P
        · obtain ⟨⟨d0, d1, d2⟩, hfz⟩ := HL.out.tab.row'.el q hqP
          have f0 := hfz (q * 3)
          have c0 : wr.cell? ⟨ge, q * 3, none⟩ = some (.int .u16 0) := by rw [d0]; simp [L2]
          have c1 : wr.cell? ⟨ge, q * 3 + 1, none⟩ = some (.int .u8 0) := by rw [d1]; simp [L2]
          have c2 : wr.cell? ⟨ge, q * 3 + 2, none⟩ = some (.int .u8 ((M (nat zs) f q : Nat) : Int)) := d2
          clear hfz d0 d1 d2
          have hMl := M_le (nat zs) f HG.out.all q
          by_cases hM : 0 < M (nat zs) f q
          · have HSN : Hid (S (nat zs) f q + 2 ^ M (nat zs) f q = S (nat zs) f (q + 1)) := Lib.hid (S_next _ _ _ hM)
            have hSs : S (nat zs) f q < 65536 := S_small (nat zs) f q hf HG.out.all (by rw [← HP.out]; exact hqP) hM
            have HSE : Hid (∀ j, L2 (nat zs) f (q + 1) j = if j = q then ⟨S (nat zs) f q, (L2 (nat zs) f q q).l, (L2 (nat zs) f q q).m⟩ else L2 (nat zs) f q j) := Lib.hid (fun j => L2_step _ _ _ j hM)
            generalize M (nat zs) f q = m at *
            generalize S (nat zs) f q = s at *
            have g1 : ((m : Int) == 0) = false := by simp; omega
            have g2 : IntKind.u16.wrap (s : Int) = (s : Int) := by rw [IntKind.wrap_u16]; omega
            have hm2 : 2 ^ m ≤ 2 ^ 14 := Nat.pow_le_pow_right (by omega) (by omega)
            have hp2 : (2 : Int) ^ m = ((2 ^ m : Nat) : Int) := by push_cast; rfl
            generalize 2 ^ m = d at *
            have g3 : min m 64 = m := by omega
            have g4 : IntKind.i64.wrap (2 ^ m) = (d : Int) := by rw [hp2, IntWalk.i64_in _ (by omega)]
            have g5 : (1 : Int) * 2 ^ m = (d : Int) := by rw [hp2]; omega
            go_upto_region 12 with (fail)
            obtain ⟨w4, hw4⟩ : ∃ w4, w4 = wr.alloc (.cells #[.int .u16 0, .int .u8 0, .int .u8 (m : Int)] 54) := ⟨_, rfl⟩
            rw [← hw4]
            have HL4 : Hid (LinkAt w w4 g ge f P (L2 (nat zs) f q)) := Lib.hid (by rw [hw4]; exact ⟨HL.out.tab.alloc _, HL.out.only.alloc _⟩)
            have hx : Blk w4 wr.heap.size 54 #[.int .u16 0, .int .u8 0, .int .u8 (m : Int)] := by rw [hw4]; exact Blk.new wr _ _
            have x0 : w4.cell? ⟨wr.heap.size, 0, none⟩ = some (.int .u16 0) := by rw [hx.cell]; rfl
            have x1 : w4.cell? ⟨wr.heap.size, 1, none⟩ = some (.int .u8 0) := by rw [hx.cell]; rfl
            have x2 : w4.cell? ⟨wr.heap.size, 2, none⟩ = some (.int .u8 (m : Int)) := by rw [hx.cell]; rfl
            have hne : wr.heap.size ≠ ge := by have := HL.out.tab.lt.2; omega
            have x3 : (w4.setCell ⟨ge, q * 3, none⟩ (.int .u16 (s : Int))).cell? ⟨wr.heap.size, 2, none⟩ = some (.int .u8 (m : Int)) := by
              rw [(hx.same (Below.heap_setCell _ _ _ _ hne)).cell]; rfl
            have ht1 : w4.cell? ⟨g, 1, none⟩ = some (.slice (some ⟨ge, 0, none⟩) P P) := by rw [HL4.out.tab.tab.cell]; rfl
            obtain ⟨⟨d0, _, _⟩, hfz⟩ := HL4.out.tab.row'.el q hqP
            have k0 : w4.cell? ⟨ge, q * 3, none⟩ = some (.int .u16 0) := by rw [d0]; simp [L2]
            have k1 := hfz (q * 3)
            clear hw4 HL c0 c1 c2 f0 hx hne d0 hfz
            generalize wr.heap.size = g6 at *
            have HR5 : Hid (Row (w4.setCell ⟨ge, q * 3, none⟩ (.int .u16 (s : Int))) ge P (L2 (nat zs) f (q + 1))) := Lib.hid (HL4.out.tab.row'.set0 q s hqP (fun j _ => HSE.out j))
            have HB5 : Hid (Blk (w4.setCell ⟨ge, q * 3, none⟩ (.int .u16 (s : Int))) g 48 #[.int .u64 (f : Int), .slice (some ⟨ge, 0, none⟩) P P]) := Lib.hid (HL4.out.tab.tab.same (Below.heap_setCell _ _ _ _ HL4.out.tab.ne))
            have HO5 : Hid (Only (fun k => k = ge) w (w4.setCell ⟨ge, q * 3, none⟩ (.int .u16 (s : Int)))) := Lib.hid (HL4.out.only.setCell (p := ⟨ge, q * 3, none⟩) (fun _ => rfl) _)
            have hqi : (q : Int) < (P : Int) := by omega
            clear HL4 HSE
            go_wp2_with fail
            go_roundw
            case rel => exact ⟨q + 1, by omega, by go_num, by rw [← HSN.out]; go_num, Lib.hid ⟨⟨HB5.out, HR5.out⟩, HO5.out⟩⟩
            case measure => simp [intOf]; omega
          · have HSN : Hid (S (nat zs) f q = S (nat zs) f (q + 1)) := Lib.hid (S_skip _ _ _ hM).symm
            have HLE : Hid (L2 (nat zs) f (q + 1) = L2 (nat zs) f q) := Lib.hid (L2_skip _ _ _ hM)
            have hM0 : M (nat zs) f q = 0 := by omega
            rw [hM0] at c2
            clear hM hM0 hMl
            have HL3 : Hid (LinkAt w (wr.alloc (.cells #[.int .u16 0, .int .u8 0, .int .u8 0] 54)) g ge f P (L2 (nat zs) f (q + 1))) := Lib.hid (by rw [HLE.out]; exact ⟨HL.out.tab.alloc _, HL.out.only.alloc _⟩)
            clear HL
            rw [HSN.out]
            clear HSN hSl
            go_wp2_with fail
            go_roundw
            case rel => exact ⟨q + 1, by omega, by go_num, rfl, HL3⟩
            case measure => simp [intOf]; omega
        · obtain rfl : q = P := by omega
          have HSP : Hid (S (nat zs) f q = S (nat zs) f (2 ^ f)) := Lib.hid (by rw [← HP.out])
          have HLE : Hid ((fun j => if j < q then L2 (nat zs) f q j else El.z) = T0 (nat zs) f) := Lib.hid (by rw [HP.out]; exact L2_end _ _)
          have hqS : q ≤ S (nat zs) f q := by have h1 := S_ge (nat zs) f q; have h2 := HP.out; omega
          obtain ⟨s, hse⟩ : ∃ s, s = S (nat zs) f q := ⟨_, rfl⟩
          rw [← hse] at HSP hqS hSl ⊢
          clear hse
          go_wp2_with (at_make; refine wpList_make_els _ rfl (.tmp 85) (.tmp 85) rfl .i64 .i64 s rfl rfl (by omega) ?_)
          intro C hE
          obtain ⟨w5, hw5⟩ : ∃ w5, w5 = wr.alloc (.cells C 54) := ⟨_, rfl⟩
          rw [← hw5]
          have HL5 : Hid (LinkAt w w5 g ge f q (L2 (nat zs) f q)) := Lib.hid (by rw [hw5]; exact ⟨HL.out.tab.alloc _, HL.out.only.alloc _⟩)
          have HR5 : Hid (Row w5 wr.heap.size s (fun _ => El.z)) := Lib.hid (by rw [hw5]; exact ⟨C, Blk.new wr _ _, hE⟩)
          have HN5 : Hid (w.heap.size ≤ wr.heap.size ∧ g ≠ wr.heap.size ∧ ge ≠ wr.heap.size) := Lib.hid (by
            have h1 := HL.out.tab.lt
            exact ⟨HL.out.only.size, by omega, by omega⟩)
          have ht1 : w5.cell? ⟨g, 1, none⟩ = some (.slice (some ⟨ge, 0, none⟩) q q) := by rw [HL5.out.tab.tab.cell]; rfl
          clear hw5 hE HL
          generalize wr.heap.size = gn at *
          go_wp2_with (refine wpList_copy_els _ rfl (.tmp 87) (.tmp 91) rfl gn ge s q s q (L2 (nat zs) f q) rfl rfl hqS HR5.out HL5.out.tab.row' ?_)
          intro w6 hr6 ho6
          have HR6 : Hid (Row w6 gn s (T0 (nat zs) f)) := Lib.hid (by rw [← HLE.out]; exact hr6)
          have HB6 : Hid (Blk w6 g 48 #[.int .u64 (f : Int), .slice (some ⟨ge, 0, none⟩) q q]) := Lib.hid (ho6.blk HL5.out.tab.tab HN5.out.2.1)
          have HO6 : Hid (Only (fun k => k = ge ∨ k = g) w w6) := Lib.hid ((HL5.out.only.mono (fun _ _ h => .inl h)).trans ho6 (fun k hk h => by have := HN5.out.1; omega))
          have t1 : w6.cell? ⟨g, 1, none⟩ = some (.slice (some ⟨ge, 0, none⟩) q q) := by rw [HB6.out.cell]; rfl
          have t2 : w6.frozen? ⟨g, 1, none⟩ = false := HB6.out.frozen 1
          have HB7 : Hid (Blk (w6.setCell ⟨g, 1, none⟩ (.slice (some ⟨gn, 0, none⟩) s s)) g 48 #[.int .u64 (f : Int), .slice (some ⟨gn, 0, none⟩) s s]) := Lib.hid (HB6.out.set_ 1 _)
          have HR7 : Hid (Row (w6.setCell ⟨g, 1, none⟩ (.slice (some ⟨gn, 0, none⟩) s s)) gn s (T0 (nat zs) f)) := Lib.hid (HR6.out.same (Below.heap_setCell _ _ _ _ (fun h => HN5.out.2.1 h.symm)))
          have HO7 : Hid (Only (fun k => k = ge ∨ k = g) w (w6.setCell ⟨g, 1, none⟩ (.slice (some ⟨gn, 0, none⟩) s s))) := Lib.hid (HO6.out.setCell (p := ⟨g, 1, none⟩) (fun _ => .inr rfl) _)
          clear hr6 ho6 HL5 HR5 ht1 HB6 HR6 HO6
          go_wp2_with fail
          go_end0
          exact ⟨rfl, gn, by rw [← HSP.out]; exact ⟨HB7.out, HR7.out⟩, HN5.out.1, HO7.out⟩
end Go.Proofs.Ytgmdbcmfncapdaa.TabC
