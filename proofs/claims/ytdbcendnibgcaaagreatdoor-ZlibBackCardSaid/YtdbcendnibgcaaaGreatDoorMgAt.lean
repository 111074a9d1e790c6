import Derived.Test.YtdbcendnibgcaaaGreatDoorMgAs
import Derived.Test.YtdbcendnibgcaaaGreatDoorMgAi
import Derived.WalkKit
import Derived.Test.YtdbcendnibgcaaaGreatDoorRows
import Derived.Laws.Pointers
import Derived.StillTailTactics
import Derived.Deep.RegionLaw

section
/-
  table.New.
-/
namespace Go.Proofs.YtdbcendnibgcaaaGreatDoor.TabC
open Go.RowKit Go.My BitMath CanMath TabMath CanC

section
variable {a : Option Addr} {len cap : Nat} {zs : List Int} {w : World}
set_option maxRecDepth 100000 in
set_option maxHeartbeats 2000000 in
theorem new_bad (f : Int) (h : RowIn w a len cap (zs.map iv)) (hg : ¬ CanC.Good zs) :
    Calls Tryz.prog 115 #[.slice a len cap, .int .i64 f] w fun e w' => e = .returned (.tuple #[.pointer none, .int .i64 7]) ∧ Below w.heap.size w w' := by
  have HG := Lib.hid hg
  have HR := Lib.hid h
  clear hg h
  go_enter Tryz.func115, Tryz.ntmps115
  go_wp2_with fail
  refine (codes_bad HR.out HG.out).mono ?_
  rintro e w2 ⟨rfl, hb⟩
  have HB := Lib.hid hb
  clear hb
  go_wp2_with fail
  go_ret2
  exact ⟨rfl, HB.out⟩
set_option maxRecDepth 100000 in
set_option maxHeartbeats 2000000 in
theorem new_over (f : Int) (h : RowIn w a len cap (zs.map iv)) (hg : CanC.Good zs) (hk : 32768 < kr (nat zs)) :
    Calls Tryz.prog 115 #[.slice a len cap, .int .i64 f] w fun e w' => e = .returned (.tuple #[.pointer none, .int .i64 2]) ∧ Below w.heap.size w w' := by
  have HG := Lib.hid hg
  have HK := Lib.hid hk
  have HR := Lib.hid h
  clear hg h hk
  go_enter Tryz.func115, Tryz.ntmps115
  go_wp2_with fail
  refine (codes_over HR.out HG.out HK.out).mono ?_
  rintro e w2 ⟨rfl, hb⟩
  have HB := Lib.hid hb
  clear hb
  go_wp2_with fail
  go_ret2
  exact ⟨rfl, HB.out⟩
set_option maxRecDepth 100000 in
set_option maxHeartbeats 2000000 in
theorem new_arg (f : Int) (h : RowIn w a len cap (zs.map iv)) (hg : CanC.Good zs) (hk : kr (nat zs) ≤ 32768) (hf : f < 1 ∨ 15 < f) :
    Calls Tryz.prog 115 #[.slice a len cap, .int .i64 f] w fun e w' => e = .returned (.tuple #[.pointer none, .int .i64 1]) ∧ Below w.heap.size w w' := by
  have HG := Lib.hid hg
  have HK := Lib.hid hk
  have HR := Lib.hid h
  clear hg h hk
  by_cases hf1 : f < 1
  · go_enter Tryz.func115, Tryz.ntmps115
    go_wp2_with fail
    refine (codes_ok _ _ _ zs _ HR.out HG.out HK.out).mono ?_
    rintro e w2 ⟨gw, rfl, _, _, hb⟩
    have HB := Lib.hid hb
    clear hb
    go_wp2_with fail
    go_ret2
    exact ⟨rfl, HB.out⟩
  · have d1 : decide (f < 1) = false := by simp; omega
    have d2 : decide (f > 15) = true := by simp; omega
    go_enter Tryz.func115, Tryz.ntmps115
    go_wp2_with fail
    refine (codes_ok _ _ _ zs _ HR.out HG.out HK.out).mono ?_
    rintro e w2 ⟨gw, rfl, _, _, hb⟩
    have HB := Lib.hid hb
    clear hb
    go_wp2_with fail
    go_ret2
    exact ⟨rfl, HB.out⟩

/-- What New's loops keep. -/
structure NewAt (B : Nat) (w wr : World) (gw len : Nat) (vs : List Value) : Prop where
  base : B ≤ gw
  own : OwnV 23 B wr (.slice (some ⟨gw, 0, none⟩) len len) vs
  below : Below w.heap.size w wr

structure FillAt (w wr : World) (gw len g ge f : Nat) (ls : List Nat) (k : Nat) : Prop where
  tab : TabAt wr g ge f (S ls f (2 ^ f)) (TT ls f k)
  words : RowIn wr (some ⟨gw, 0, none⟩) len len (wds ls)
  below : Below w.heap.size w wr

set_option maxRecDepth 100000 in
set_option maxHeartbeats 8000000 in
theorem new_ok (f : Nat) (h : RowIn w a len cap (zs.map iv)) (hg : CanC.Good zs) (hk : kr (nat zs) ≤ 32768) (hf1 : 1 ≤ f) (hf : f ≤ 15) :
    Calls Tryz.prog 115 #[.slice a len cap, .int .i64 (f : Int)] w fun e w' => ∃ g, e = .returned (.tuple #[.pointer (some ⟨g, 0, none⟩), .int .i64 0]) ∧ IsTab w.heap.size w' g (nat zs) f ∧ Below w.heap.size w w' := by
  have hzl : zs.length = len := by have := h.len_eq; simpa using this
  have HZ := Lib.hid hzl
  have HLS : Hid ((nat zs).length = len) := Lib.hid (by rw [nat_len]; exact hzl)
  have hlen : len ≤ 65536 := by rw [← hzl]; exact hg.1
  have HG := Lib.hid hg
  have HK := Lib.hid hk
  have HR := Lib.hid h
  have d1 : decide ((f : Int) < 1) = false := by simp; omega
  have d2 : decide ((f : Int) > 15) = false := by simp; omega
  clear hg h hk hzl
  go_enter Tryz.func115, Tryz.ntmps115
  go_wp2_with fail
  refine (codes_ok _ _ _ zs _ HR.out HG.out HK.out).mono ?_
  rintro e w2 ⟨gw, rfl, hgw, hown, hb⟩
  rw [HZ.out] at hown ⊢
  have HN : Hid (NewAt w.heap.size w w2 gw len (wk (nat zs) 0)) := Lib.hid ⟨hgw, by rw [wk_zero]; exact hown, hb⟩
  clear hgw hown hb
  go_wp2_with fail
  clear d1 d2
  go_loopw [8, 9, 29] (fun _ _ x wr => ∃ k : Nat, k ≤ len ∧ x = .int .i64 (k : Int) ∧ Hid (NewAt w.heap.size w wr gw len (wk (nat zs) k))) (fun _ _ x _ => len - (intOf x).toNat)
  case atStart => exact ⟨0, Nat.zero_le _, rfl, HN⟩
  case round =>
    clear HN
    obtain ⟨k, hk, rfl, HN⟩ := hrel
    by_cases hlt : k < len
    · obtain ⟨b, off, rfl⟩ := HR.out.some_ (by omega)
      have hkz : k < zs.length := by rw [HZ.out]; exact hlt
      have hkn : k < (nat zs).length := by rw [HLS.out]; exact hlt
      obtain ⟨n, hn⟩ : ∃ n : Nat, zs[k] = (n : Int) := ⟨zs[k].toNat, by have := HG.out.2 _ (List.getElem_mem hkz); omega⟩
      have hn2 : ln (nat zs) k = n := by rw [ln_eq _ _ hkn, nat_get zs k hkz, hn]; rfl
      have hn15 : n ≤ 15 := by rw [← hn2]; exact ln_le HG.out.all k
      have hcz : wr.cell? ⟨b, off + k, none⟩ = some (.int .i64 (n : Int)) := by
        rw [HN.out.below.cell (p := ⟨b, off + k, none⟩) (HR.out.lt (by omega)), HR.out.get k (by simpa using hkz)]
        simp [iv, hn]
      have hwl : (wk (nat zs) k).length = len := by rw [wk_len, HLS.out]
      have hcw : wr.cell? ⟨gw, k, none⟩ = some (.int .u32 ((codeW (nat zs) k : Nat) : Int)) := by
        have h1 := HN.out.own.cell hwl k (by rw [hwl]; exact hlt)
        rw [wk_get _ _ _ hkn, if_neg (by omega)] at h1
        exact h1
      have hfw : wr.frozen? ⟨gw, k, none⟩ = false := HN.out.own.free hwl k
      obtain ⟨r1, r2⟩ := rc_code (nat zs) HG.out.all HK.out k hkn
      rw [hn2] at r1 r2
      have HN2 : Hid (NewAt w.heap.size w (wr.setCell ⟨gw, k, none⟩ (.int .u32 ((wd (nat zs) k : Nat) : Int))) gw len (wk (nat zs) (k + 1))) := Lib.hid ⟨HN.out.base, by
        have h1 := HN.out.own.store hwl k (CanC.uv (wd (nat zs) k))
        rw [wk_set] at h1
        exact h1, HN.out.below.setCell (p := ⟨gw, k, none⟩) HN.out.base _⟩
      have HQ := Lib.hid (turned_any (codeW (nat zs) k) n wr hn15 r1)
      rw [r2] at HQ
      clear hn hn2 r1 r2 hwl HN
      generalize codeW (nat zs) k = cv at *
      go_wp2_with fail
      refine HQ.out.mono ?_
      rintro e w3 ⟨rfl, rfl⟩
      clear HQ
      go_wp2_with fail
      go_roundw
      case rel => exact ⟨k + 1, by omega, by go_num, HN2⟩
      case measure => simp [intOf]; omega
    · obtain rfl : k = len := by omega
      have HW : Hid (RowIn wr (some ⟨gw, 0, none⟩) k k (wds (nat zs))) := Lib.hid (by
        have h1 := HN.out.own
        rw [← HLS.out, wk_end, HLS.out] at h1
        exact h1.rowIn (by rw [wds_len, HLS.out]))
      have HB := Lib.hid HN.out.below
      have HGW := Lib.hid HN.out.base
      have hp := pow_le15 hf
      have h0 := Nat.two_pow_pos f
      have hp2 : (2 : Int) ^ f = ((2 ^ f : Nat) : Int) := by push_cast; rfl
      obtain ⟨P, hPe⟩ : ∃ P, P = 2 ^ f := ⟨_, rfl⟩
      rw [← hPe] at hp h0 hp2
      have HP := Lib.hid hPe
      have HGL : Hid (gw < wr.heap.size) := Lib.hid (HN.out.own.lt gw rfl)
      clear hPe HN
      have g1 : IntKind.u64.wrap (f : Int) = (f : Int) := by rw [IntKind.wrap_u64]; omega
      have g3 : min f 64 = f := by omega
      have g4 : IntKind.i64.wrap (2 ^ f) = (P : Int) := by rw [hp2, IntWalk.i64_in _ (by omega)]
      have g5 : (1 : Int) * 2 ^ f = (P : Int) := by rw [hp2]; omega
      go_wp2_with (at_make; refine wpList_make_els _ rfl (.tmp 47) (.tmp 47) rfl .i64 .i64 P rfl rfl (by omega) ?_)
      intro C hE
      obtain ⟨w5, hw5⟩ : ∃ w5, w5 = wr.alloc (.cells C 168) := ⟨_, rfl⟩
      rw [← hw5]
      have HR5 : Hid (Row w5 wr.heap.size P (fun _ => El.z)) := Lib.hid (by rw [hw5]; exact ⟨C, Blk.new wr _ _, hE⟩)
      have HB5 : Hid (Below wr.heap.size wr w5) := Lib.hid (by rw [hw5]; exact (Below.refl _ _).alloc (Nat.le_refl _) _)
      have HL5 : Hid (wr.heap.size < w5.heap.size) := Lib.hid HR5.out.lt
      clear hw5 hE
      go_wp2_with fail
      obtain ⟨w6, hw6⟩ : ∃ w6, w6 = w5.alloc (.cells #[.int .u64 (f : Int), .slice (some ⟨wr.heap.size, 0, none⟩) P P] 164) := ⟨_, rfl⟩
      rw [← hw6]
      have HT6 : Hid (TabAt w6 w5.heap.size wr.heap.size f (2 ^ f) (fun _ => El.z)) := Lib.hid (by rw [hw6, ← HP.out]; exact ⟨Blk.new w5 _ _, HR5.out.same (Below.heap_alloc _ _ _ HR5.out.lt)⟩)
      have HB6 : Hid (Below wr.heap.size wr w6) := Lib.hid (by rw [hw6]; exact HB5.out.alloc (Nat.le_of_lt HL5.out) _)
      have HBW : Hid (Below w.heap.size w w6) := Lib.hid (HB.out.trans (HB6.out.mono HB.out.size))
      have HW6 : Hid (RowIn w6 (some ⟨gw, 0, none⟩) k k (wds (nat zs))) := Lib.hid (HW.out.below (Nat.le_refl _) HB6.out)
      have HR6 : Hid (RowIn w6 a k cap (zs.map iv)) := Lib.hid (HR.out.below (Nat.le_refl _) HBW.out)
      have HS6 : Hid (w.heap.size ≤ wr.heap.size ∧ gw < wr.heap.size ∧ wr.heap.size < w5.heap.size ∧ w5.heap.size < w6.heap.size) := Lib.hid ⟨HB.out.size, HGL.out, HL5.out, HT6.out.lt.1⟩
      clear hw6 HR5 HB5 HL5 HB6 HB HGL HW
      generalize w5.heap.size = g at *
      generalize wr.heap.size = ge at *
      refine (link_any g ge f gw k cap a zs w6 HT6.out hf1 hf HW6.out HR6.out HG.out ⟨by have := HS6.out; omega, by have := HS6.out; omega⟩ (fun hk0 b off hab => by
        have h1 := HR.out
        rw [hab] at h1
        have h2 := h1.lt hk0
        have h3 := HS6.out
        exact ⟨by omega, by omega⟩)).mono ?_
      rintro e w7 ⟨rfl, ge2, ht7, hge2, ho7⟩
      have HBW7 : Hid (Below w.heap.size w w7) := Lib.hid (HBW.out.trans (ho7.below (by have := HS6.out; omega) (fun k hk => by have := HS6.out; omega)))
      have HW7 : Hid (RowIn w7 (some ⟨gw, 0, none⟩) k k (wds (nat zs))) := Lib.hid (RowIn.only HW6.out ho7 (fun b off hab h => by
        injection hab with hab
        injection hab with hab
        have := HS6.out
        omega))
      have HT7 : Hid (TabAt w7 g ge2 f (S (nat zs) f (2 ^ f)) (TT (nat zs) f 0)) := Lib.hid ht7
      have HS7 : Hid (w.heap.size ≤ g ∧ w.heap.size ≤ ge2 ∧ gw ≠ ge2) := Lib.hid (by have := HS6.out; have := HBW.out.size; exact ⟨by omega, by omega, by omega⟩)
      clear ht7 hge2 ho7 HT6 HBW HW6 HR6 HS6
      have HF : Hid (FillAt w w7 gw k g ge2 f (nat zs) 0) := Lib.hid ⟨HT7.out, HW7.out, HBW7.out⟩
      clear HT7 HW7 HBW7 hp2 g1 g3 g4 g5
      go_wp2_with fail
      go_loopw [11, 12, 57] (fun _ _ x wr => ∃ q : Nat, q ≤ k ∧ x = .int .i64 (q : Int) ∧ Hid (FillAt w wr gw k g ge2 f (nat zs) q)) (fun _ _ x _ => k - (intOf x).toNat)
      case atStart => exact ⟨0, Nat.zero_le _, rfl, HF⟩
      case round =>
        clear HF
        obtain ⟨q, hq, rfl, HF⟩ := hrel
        by_cases hqk : q < k
        · obtain ⟨b, off, rfl⟩ := HR.out.some_ (by omega)
          have hkz : q < zs.length := by rw [HZ.out]; exact hqk
          have hkn : q < (nat zs).length := by rw [HLS.out]; exact hqk
          obtain ⟨n, hn⟩ : ∃ n : Nat, zs[q] = (n : Int) := ⟨zs[q].toNat, by have := HG.out.2 _ (List.getElem_mem hkz); omega⟩
          have hn2 : ln (nat zs) q = n := by rw [ln_eq _ _ hkn, nat_get zs q hkz, hn]; rfl
          have hn15 : n ≤ 15 := by rw [← hn2]; exact ln_le HG.out.all q
          have hcz : wr.cell? ⟨b, off + q, none⟩ = some (.int .i64 (n : Int)) := by
            rw [HF.out.below.cell (p := ⟨b, off + q, none⟩) (HR.out.lt (by omega)), HR.out.get q (by simpa using hkz)]
            simp [iv, hn]
          have hcw : wr.cell? ⟨gw, q, none⟩ = some (.int .u32 ((wd (nat zs) q : Nat) : Int)) := by
            have h1 := HF.out.words.get q (by rw [wds_len]; exact hkn)
            rw [wds_get _ q hkn, Nat.zero_add] at h1
            rw [h1]; rfl
          by_cases hn0 : 0 < n
          · have HQ : Hid (Calls Tryz.prog 128 #[.pointer (some ⟨g, 0, none⟩), .int .i64 (q : Int), .int .u32 ((wd (nat zs) q : Nat) : Int), .int .i64 (n : Int)] wr fun r w' =>
                r = .returned (.tuple #[]) ∧ TabAt w' g ge2 f (S (nat zs) f (2 ^ f)) (TT (nat zs) f (q + 1)) ∧ Only (fun k => k = ge2) wr w') := Lib.hid (by
              have h1 := place_tab HG.out.all HK.out (by rw [HLS.out]; exact hlen) f hf1 hf g ge2 q wr HF.out.tab (by rw [hn2]; exact hn0)
              rw [hn2] at h1
              exact h1)
            clear hn hn2
            generalize wd (nat zs) q = wv at *
            go_wp2_with fail
            refine HQ.out.mono ?_
            rintro e w8 ⟨rfl, ht8, ho8⟩
            have HF8 : Hid (FillAt w w8 gw k g ge2 f (nat zs) (q + 1)) := Lib.hid ⟨ht8, RowIn.only HF.out.words ho8 (fun b off hab h => by
              injection hab with hab
              injection hab with hab
              have := HS7.out
              omega), HF.out.below.trans (ho8.below HF.out.below.size (fun k hk => by rw [hk]; exact HS7.out.2.1))⟩
            clear HQ ht8 ho8 HF hcz hcw
            go_wp2_with fail
            go_roundw
            case rel => exact ⟨q + 1, by omega, by go_num, HF8⟩
            case measure => simp [intOf]; omega
          · have HF8 : Hid (FillAt w wr gw k g ge2 f (nat zs) (q + 1)) := Lib.hid ⟨by rw [TT, put, if_pos (by omega)]; exact HF.out.tab, HF.out.words, HF.out.below⟩
            clear hn hn2 hcw HF
            go_wp2_with fail
            go_roundw
            case rel => exact ⟨q + 1, by omega, by go_num, HF8⟩
            case measure => simp [intOf]; omega
        · obtain rfl : q = k := by omega
          go_wp2_with fail
          go_ret2
          exact ⟨g, rfl, ⟨HS7.out.1, ge2, HS7.out.2.1, by have h1 := HF.out.tab; rw [HLS.out]; exact h1⟩, HF.out.below⟩
end
end Go.Proofs.YtdbcendnibgcaaaGreatDoor.TabC
end

section
/-
  Bytes written into, and read out of, a row of the call's own. No program, no dump. (XR5, XNumM have the same beside functions of the program: this text is for seats without them.)
-/
namespace Go.My
open Go.RowKit
theorem own_store {E : TypeId} {base : Nat} {w : World} {g n c : Nat} {l : List UInt8} (h : Own E base w (.slice (some ⟨g, 0, none⟩) n c) l) (hn : l.length = n) (i : Nat) (b : UInt8) :
    Own E base (w.setCell ⟨g, i, none⟩ (bv b)) (.slice (some ⟨g, 0, none⟩) n c) (l.set i b) := by
  subst hn
  have := (World.ownsRow.stored h i (bv b)).1
  unfold Own
  rw [List.length_set, List.map_set]
  exact this
theorem own_cell {E : TypeId} {base : Nat} {w : World} {g n c : Nat} {l : List UInt8} (h : Own E base w (.slice (some ⟨g, 0, none⟩) n c) l) (hn : l.length = n) (i : Nat) (hi : i < l.length) : w.cell? ⟨g, i, none⟩ = some (bv l[i]) := by
  subst hn
  have hl := h
  unfold Own at hl
  have hcell := World.ownsRow.cellAt hl i (by simpa using hi)
  rw [hcell, List.getElem?_map, List.getElem?_eq_getElem hi]
  rfl
theorem own_free {E : TypeId} {base : Nat} {w : World} {g n c : Nat} {l : List UInt8} (h : Own E base w (.slice (some ⟨g, 0, none⟩) n c) l) (hn : l.length = n) (i : Nat) : w.frozen? ⟨g, i, none⟩ = false := by
  subst hn
  exact World.ownsRow.frozenAt h i
end Go.My
end

section
/-
  A sliding window as a ring: what is in the ring, what a copy appends. Plain mathematics.
-/
namespace WinMath

/-- The ring of a window of S bytes behind all these; the place of the next one. -/
structure Ring (S : Nat) (all ring : List UInt8) (next : Nat) : Prop where
  len : ring.length = min all.length S
  next_ : next = all.length % S
  at_ : ∀ p, p < all.length → all.length ≤ p + S → ring[p % S]? = all[p]?

def after (S n : Nat) : Nat := if n + 1 = S then 0 else n + 1
theorem after_mod (S m : Nat) (hS : 0 < S) : after S (m % S) = (m + 1) % S := by
  unfold after
  have h := Nat.mod_lt m hS
  have e := Nat.div_add_mod m S
  by_cases h1 : m % S + 1 = S
  · rw [if_pos h1]
    have : m + 1 = S * (m / S + 1) := by rw [Nat.mul_add]; omega
    rw [this, Nat.mul_mod_right]
  · rw [if_neg h1]
    have : m + 1 = S * (m / S) + (m % S + 1) := by omega
    rw [this, Nat.mul_add_mod, Nat.mod_eq_of_lt (by omega : m % S + 1 < S)]

theorem Ring.nil (S : Nat) : Ring S [] [] 0 := ⟨by simp, by simp, fun p h => by simp at h⟩

section
variable {S : Nat} {all ring : List UInt8} {next : Nat}
theorem Ring.lt (h : Ring S all ring next) (hS : 0 < S) : next < S := by rw [h.next_]; exact Nat.mod_lt _ hS
theorem Ring.full (h : Ring S all ring next) : ring.length < S ↔ all.length < S := by rw [h.len]; omega
theorem Ring.le (h : Ring S all ring next) : ring.length ≤ S := by rw [h.len]; omega

theorem Ring.push (h : Ring S all ring next) (hS : 0 < S) (c : UInt8) (hl : ring.length < S) : Ring S (all ++ [c]) (ring ++ [c]) (after S next) := by
  have ha := h.full.1 hl
  have hr : ring.length = all.length := by rw [h.len]; omega
  refine ⟨by simp; omega, by rw [h.next_, after_mod _ _ hS]; simp, fun p hp _ => ?_⟩
  simp at hp
  rw [Nat.mod_eq_of_lt (by omega)]
  by_cases hpl : p < all.length
  · rw [List.getElem?_append_left (by omega), List.getElem?_append_left hpl, ← h.at_ p hpl (by omega), Nat.mod_eq_of_lt (by omega)]
  · obtain rfl : p = all.length := by omega
    rw [List.getElem?_append_right (by omega), List.getElem?_append_right (by omega), hr]
theorem Ring.put (h : Ring S all ring next) (hS : 0 < S) (c : UInt8) (hl : ¬ ring.length < S) : Ring S (all ++ [c]) (ring.set next c) (after S next) := by
  have ha : S ≤ all.length := by have := h.full; omega
  have hr : ring.length = S := by rw [h.len]; omega
  have hn := h.lt hS
  refine ⟨by simp; omega, by rw [h.next_, after_mod _ _ hS]; simp, fun p hp hp2 => ?_⟩
  simp at hp hp2
  by_cases hpl : p < all.length
  · rw [List.getElem?_append_left hpl, ← h.at_ p hpl (by omega), List.getElem?_set_ne]
    rw [h.next_]
    intro e
    have h1 := Nat.div_add_mod p S
    have h2 := Nat.div_add_mod all.length S
    have h3 := Nat.sub_mod_eq_zero_of_mod_eq e
    have h4 : all.length - p < S := by omega
    rw [Nat.mod_eq_of_lt h4] at h3
    omega
  · obtain rfl : p = all.length := by omega
    rw [List.getElem?_append_right (by omega), ← h.next_, List.getElem?_set_self (by omega)]
    simp
/-- What lies dist places ahead. -/
theorem Ring.get (h : Ring S all ring next) (d : Nat) (h1 : 1 ≤ d) (h2 : d ≤ ring.length) : (all.length - d) % S < ring.length ∧ ring[(all.length - d) % S]? = all[all.length - d]? := by
  have hl := h.len
  have e := h.at_ (all.length - d) (by omega) (by omega)
  refine ⟨?_, e⟩
  have hd : all.length - d < all.length := by omega
  rw [List.getElem?_eq_getElem hd] at e
  exact (List.getElem?_eq_some_iff.1 e).1
/-- next - dist, and S more if that is below 0. -/
theorem Ring.from_ (h : Ring S all ring next) (hS : 0 < S) (d : Nat) (h1 : 1 ≤ d) (h2 : d ≤ ring.length) : (if (next : Int) - (d : Int) < 0 then (next : Int) - (d : Int) + (S : Int) else (next : Int) - (d : Int)) = (((all.length - d) % S : Nat) : Int) := by
  have hl := h.len
  have hn := h.lt hS
  have e := h.next_
  have e1 := Nat.div_add_mod all.length S
  have e2 := Nat.div_add_mod (all.length - d) S
  have e3 := Nat.mod_lt (all.length - d) hS
  rw [← e] at e1
  split
  · have : all.length - d = S * (all.length / S - 1) + (next + S - d) := by
      have : 0 < all.length / S := by
        rcases Nat.eq_zero_or_pos (all.length / S) with h0 | h0
        · rw [h0] at e1; omega
        · exact h0
      have e4 : S * (all.length / S) = S * (all.length / S - 1) + S := by
        rw [← Nat.mul_succ]; congr 1; omega
      omega
    rw [this, Nat.mul_add_mod, Nat.mod_eq_of_lt (by omega)]
    omega
  · have : all.length - d = S * (all.length / S) + (next - d) := by omega
    rw [this, Nat.mul_add_mod, Nat.mod_eq_of_lt (by omega)]
    omega
end

/-- n bytes more, each as the one d places ahead of it. -/
def grow (all : List UInt8) (d : Nat) : Nat → List UInt8
  | 0 => all
  | n + 1 => grow all d n ++ [(grow all d n).getD ((grow all d n).length - d) 0]
theorem grow_zero (all : List UInt8) (d : Nat) : grow all d 0 = all := rfl
theorem grow_succ (all : List UInt8) (d n : Nat) : grow all d (n + 1) = grow all d n ++ [(grow all d n).getD ((grow all d n).length - d) 0] := rfl
theorem grow_len (all : List UInt8) (d n : Nat) : (grow all d n).length = all.length + n := by
  induction n with
  | zero => rfl
  | succ n ih => rw [grow_succ, List.length_append, ih]; simp; omega
theorem grow_pre (all : List UInt8) (d n : Nat) : ∃ t, grow all d n = all ++ t := by
  induction n with
  | zero => exact ⟨[], by simp [grow]⟩
  | succ n ih =>
    obtain ⟨t, ht⟩ := ih
    exact ⟨t ++ [(grow all d n).getD ((grow all d n).length - d) 0], by rw [grow_succ, ← List.append_assoc, ← ht]⟩
theorem grow_drop (all : List UInt8) (d n : Nat) : grow all d n = all ++ (grow all d n).drop all.length := by
  obtain ⟨t, ht⟩ := grow_pre all d n
  rw [ht]; simp
/-- What a copy hands back. -/
def copy (all : List UInt8) (d n : Nat) : List UInt8 := (grow all d n).drop all.length
theorem copy_len (all : List UInt8) (d n : Nat) : (copy all d n).length = n := by unfold copy; rw [List.length_drop, grow_len]; omega
theorem copy_zero (all : List UInt8) (d : Nat) : copy all d 0 = [] := by unfold copy; simp [grow]
theorem copy_succ (all : List UInt8) (d n : Nat) : copy all d (n + 1) = copy all d n ++ [(grow all d n).getD ((grow all d n).length - d) 0] := by
  unfold copy
  rw [grow_succ, List.drop_append_of_le_length (by rw [grow_len]; omega)]
theorem grow_copy (all : List UInt8) (d n : Nat) : grow all d n = all ++ copy all d n := grow_drop all d n
/-- It repeats the last d bytes. -/
theorem copy_get (all : List UInt8) (d n : Nat) (h1 : 1 ≤ d) (h2 : d ≤ all.length) (i : Nat) (hi : i < n) : (copy all d n)[i]? = all[all.length - d + i % d]? := by
  induction n generalizing i with
  | zero => omega
  | succ n ih =>
    rw [copy_succ]
    by_cases h : i < n
    · rw [List.getElem?_append_left (by rw [copy_len]; exact h)]
      exact ih i h
    · obtain rfl : i = n := by omega
      rw [List.getElem?_append_right (by rw [copy_len]; omega), copy_len, Nat.sub_self, List.getElem?_cons_zero, List.getD_eq_getElem?_getD, grow_len]
      have hlt : all.length - d + i % d < all.length := by have := Nat.mod_lt i (show 0 < d by omega); omega
      have key : (grow all d i)[all.length + i - d]? = all[all.length - d + i % d]? := by
        rw [grow_copy]
        by_cases hid : i < d
        · rw [List.getElem?_append_left (by omega), Nat.mod_eq_of_lt hid]
          congr 1
          omega
        · rw [List.getElem?_append_right (by omega), ih _ (by omega), Nat.mod_eq_sub_mod (show i ≥ d by omega)]
          congr 3
          omega
      rw [key, List.getElem?_eq_getElem hlt]
      rfl
end WinMath
end

section
/-
  A window behind a pointer: New, after, Have, Total, Put.
-/
namespace Go.Proofs.YtdbcendnibgcaaaGreatDoor.WinC
open Go.RowKit Go.My WinMath

theorem info5 : (Tryz.prog.info? 5).map (fun i => (i.zero, i.size, i.bytes)) = some (some (.int .u8 0), 1, 1) := by kernel_rfl

/-- A Window's block: its size S, its ring l (the slice v), the next place, how many there were. -/
structure WnAt (B : Nat) (w : World) (g S : Nat) (v : Value) (l : List UInt8) (next total : Nat) : Prop where
  blk : Blk w g 117 #[.int .i64 (S : Int), v, .int .i64 (next : Int), .int .i64 (total : Int)]
  own : Own 5 B w v l
  base : B ≤ g
/-- A window of S bytes behind all these bytes; its ring lies in block r. -/
def Wn (B : Nat) (w : World) (g S : Nat) (r : Option Nat) (all : List UInt8) : Prop :=
  ∃ v l next, WnAt B w g S v l next all.length ∧ v.ownBlock = r ∧ Ring S all l next ∧ 0 < S ∧ S ≤ 65536

section
variable {B g S : Nat} {w w' : World} {v : Value} {l all : List UInt8} {next total : Nat} {r : Option Nat} {T : Nat → Prop}
theorem WnAt.far (h : WnAt B w g S v l next total) : v.ownBlock ≠ some g := own_len_ne h.own h.blk (by decide)
theorem WnAt.only (h : WnAt B w g S v l next total) (hk : Only T w w') (hg : ¬ T g) (hr : ∀ k, v.ownBlock = some k → ¬ T k) : WnAt B w' g S v l next total :=
  ⟨hk.blk h.blk hg, hk.own h.own hr, h.base⟩
theorem Wn.only (h : Wn B w g S r all) (hk : Only T w w') (hg : ¬ T g) (hr : ∀ k, r = some k → ¬ T k) : Wn B w' g S r all := by
  obtain ⟨v, l, next, h1, rfl, h2⟩ := h
  exact ⟨v, l, next, h1.only hk hg hr, rfl, h2⟩
theorem Wn.below (h : Wn B w g S r all) (hk : Below w.heap.size w w') : Wn B w' g S r all := h.only (Only.of_below hk (fun _ => False)) (fun h => h) (fun _ _ h => h)
theorem Wn.lt (h : Wn B w g S r all) : g < w.heap.size := by
  obtain ⟨v, l, next, h1, _⟩ := h
  exact h1.blk.lt
theorem Wn.rlt (h : Wn B w g S r all) : ∀ k, r = some k → B ≤ k ∧ k < w.heap.size := by
  obtain ⟨v, l, next, h1, rfl, _⟩ := h
  exact fun k hk => World.ownsRow.lt h1.own k hk
theorem Wn.base (h : Wn B w g S r all) : B ≤ g := by
  obtain ⟨v, l, next, h1, _⟩ := h
  exact h1.base
theorem Wn.fp (h : Wn B w g S r all) : ∀ k, Fp g r k → B ≤ k := by
  rintro k (rfl | hk)
  · exact h.base
  · exact (h.rlt k hk).1
theorem Wn.flt (h : Wn B w g S r all) : ∀ k, Fp g r k → k < w.heap.size := by
  rintro k (rfl | hk)
  · exact h.lt
  · exact (h.rlt k hk).2
end

theorem wn_new (w : World) (S : Nat) (h1 : 0 < S) (h2 : S ≤ 65536) : Wn w.heap.size (w.alloc (.cells #[.int .i64 (S : Int), .slice none 0 0, .int .i64 0, .int .i64 0] 117)) w.heap.size S none [] :=
  ⟨.slice none 0 0, [], 0, ⟨Blk.new w _ _, Own.nil _ _ _, Nat.le_refl _⟩, rfl, Ring.nil S, h1, h2⟩

theorem new_bad (n : Int) (w : World) (h : n < 1 ∨ 65536 < n) : Calls Tryz.prog 49 #[.int .i64 n] w fun e w' => e = .returned (.tuple #[.pointer none, .int .i64 7]) ∧ w = w' := by
  by_cases h1 : n < 1
  · go_enter Tryz.func49, Tryz.ntmps49
    go_wp2_with fail
    go_ret2
    exact ⟨rfl, rfl⟩
  · have h2 : 65536 < n := by omega
    go_enter Tryz.func49, Tryz.ntmps49
    go_wp2_with fail
    go_ret2
    exact ⟨rfl, rfl⟩
theorem new_ok (S : Nat) (w : World) (h1 : 0 < S) (h2 : S ≤ 65536) : Calls Tryz.prog 49 #[.int .i64 (S : Int)] w fun e w' =>
    e = .returned (.tuple #[.pointer (some ⟨w.heap.size, 0, none⟩), .int .i64 0]) ∧ Wn w.heap.size w' w.heap.size S none [] ∧ Below w.heap.size w w' := by
  have hn := wn_new w S h1 h2
  have H := Lib.hid (And.intro hn ((Below.refl w.heap.size w).alloc (Nat.le_refl _) (.cells #[.int .i64 (S : Int), .slice none 0 0, .int .i64 0, .int .i64 0] 117)))
  clear hn
  have h3 : ¬ (S : Int) < 1 := by omega
  have h4 : ¬ 65536 < (S : Int) := by omega
  go_enter Tryz.func49, Tryz.ntmps49
  go_wp2_with fail
  go_ret2
  exact ⟨rfl, H.out.1, H.out.2⟩

theorem after_any (B g S n : Nat) (v : Value) (l : List UInt8) (next total : Nat) (w : World) (h : WnAt B w g S v l next total) (hS : S ≤ 65536) (hn : n < S) :
    Calls Tryz.prog 120 #[.pointer (some ⟨g, 0, none⟩), .int .i64 (n : Int)] w fun e w' => e = .returned (.int .i64 ((after S n : Nat) : Int)) ∧ w = w' := by
  have hc := h.blk.cell 0
  simp only [List.getElem?_toArray, List.getElem?_cons_zero] at hc
  clear h
  by_cases he : n + 1 = S
  · have HC : Hid (after S n = 0) := Lib.hid (by unfold after; rw [if_pos he])
    have h1 : (n : Int) + 1 = (S : Int) := by omega
    go_enter Tryz.func120, Tryz.ntmps120
    go_wp2_with fail
    go_ret
    exact ⟨by rw [HC.out]; rfl, rfl⟩
  · have HC : Hid (after S n = n + 1) := Lib.hid (by unfold after; rw [if_neg he])
    have h1 : ¬ (n : Int) + 1 = (S : Int) := by omega
    go_enter Tryz.func120, Tryz.ntmps120
    go_wp2_with fail
    go_ret
    exact ⟨by rw [HC.out]; rfl, rfl⟩

theorem have_any (B g S : Nat) (r : Option Nat) (all : List UInt8) (w : World) (h : Wn B w g S r all) :
    Calls Tryz.prog 119 #[.pointer (some ⟨g, 0, none⟩)] w fun e w' => e = .returned (.int .i64 ((min all.length S : Nat) : Int)) ∧ w = w' := by
  obtain ⟨v, l, next, h1, h2, h3, h4⟩ := h
  have hc := h1.blk.cell 1
  simp only [List.getElem?_toArray, List.getElem?_cons_zero, List.getElem?_cons_succ] at hc
  obtain ⟨a0, c0, rfl, -⟩ := h1.own.bytes
  have HL := Lib.hid h3.len
  clear h1 h2 h3 h4
  go_enter Tryz.func119, Tryz.ntmps119
  go_wp2_with fail
  go_ret
  exact ⟨by rw [HL.out]; rfl, rfl⟩
end Go.Proofs.YtdbcendnibgcaaaGreatDoor.WinC
end
