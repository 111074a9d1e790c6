import Derived.Test.YtilfmmjjiiabgaaGreatDoorMgAd
import Derived.Test.YtilfmmjjiiabgaaGreatDoorMgAf
import Derived.Test.YtilfmmjjiiabgaaGreatDoorMgCk
import Derived.Deep.DeepCutAuto
import Derived.Deep.CutBlock
import Derived.Lib.SlBytesConst
import Derived.Deep.RegionLaw
import Derived.Test.YtilfmmjjiiabgaaGreatDoorMgAc

section
/-
  gzip's reader: a whole header.
-/
namespace Go.Proofs.YtilfmmjjiiabgaaGreatDoor.GzC
open Go.RowKit Go.My GzMath CrcMath
open Go.My.NumMath (num_lt)

theorem flag_224 (f : Nat) (h : f < 256) : bits .and .i64 (f : Int) 224 = ((f / 32 * 32 : Nat) : Int) := (by decide +kernel : ∀ f : Fin 256, bits .and .i64 ((f.val : Nat) : Int) 224 = ((f.val / 32 * 32 : Nat) : Int)) ⟨f, h⟩
theorem flag_4 (f : Nat) (h : f < 256) : bits .and .i64 (f : Int) 4 = ((f / 4 % 2 * 4 : Nat) : Int) := (by decide +kernel : ∀ f : Fin 256, bits .and .i64 ((f.val : Nat) : Int) 4 = ((f.val / 4 % 2 * 4 : Nat) : Int)) ⟨f, h⟩
theorem flag_8 (f : Nat) (h : f < 256) : bits .and .i64 (f : Int) 8 = ((f / 8 % 2 * 8 : Nat) : Int) := (by decide +kernel : ∀ f : Fin 256, bits .and .i64 ((f.val : Nat) : Int) 8 = ((f.val / 8 % 2 * 8 : Nat) : Int)) ⟨f, h⟩
theorem flag_16 (f : Nat) (h : f < 256) : bits .and .i64 (f : Int) 16 = ((f / 16 % 2 * 16 : Nat) : Int) := (by decide +kernel : ∀ f : Fin 256, bits .and .i64 ((f.val : Nat) : Int) 16 = ((f.val / 16 % 2 * 16 : Nat) : Int)) ⟨f, h⟩
theorem flag_2 (f : Nat) (h : f < 256) : bits .and .i64 (f : Int) 2 = ((f / 2 % 2 * 2 : Nat) : Int) := (by decide +kernel : ∀ f : Fin 256, bits .and .i64 ((f.val : Nat) : Int) 2 = ((f.val / 2 % 2 * 2 : Nat) : Int)) ⟨f, h⟩
/-- A flag, as the code asks for it. -/
theorem flag_is (f k : Nat) (K z : Int) (hK : K = (k : Int)) (h : z = ((f / k % 2 * k : Nat) : Int)) : (z = K ∧ f / k % 2 = 1) ∨ (z = 0 ∧ ¬ f / k % 2 = 1) := by
  subst hK
  have : f / k % 2 = 0 ∨ f / k % 2 = 1 := by omega
  rcases this with e | e
  · rw [e] at h; exact .inr ⟨by simpa using h, by omega⟩
  · rw [e] at h; exact .inl ⟨by simpa using h, e⟩

theorem wp_throws {P : Program} {Q : Exit → Act → World → Prop} {o : Oper} {a : Act} {w : World} {K : Act → World → Prop} {f : FuncId} {args : Array Value} {R : Ending → World → Prop}
    (hr : (execOp a.eval o).run P w = .ok (.enter f args) w) (hc : Calls P f args w R) (h : ∀ e w', R e w' → ∃ c, e = .panicked c ∧ Q (.panic c) a w') : o.wp P a w K Q := by
  unfold Oper.wp
  rw [hr]
  simp only [Oper.upon]
  exact hc.mono fun e w' hR => by obtain ⟨c, rfl, hQ⟩ := h e w' hR; exact hQ
theorem info_head : (Tryz.prog.info? 27).map (·.size) = some 3 := by kernel_rfl
theorem head_ret {a : Act} {w : World} {g : Nat} {C : Array Value} {R : Ending → World → Prop} (hd : a.defers = []) (hp : a.tmps.getD 2 undef = .pointer (some ⟨g, 0, none⟩)) (hg : Blk w g 27 C) (hs : C.size = 3) (h : R (.returned (.agg C)) w) :
    bodyPost Tryz.prog Tryz.f28 R .ret a w :=
  bodyPost_ret (results_cell_row rfl _ _ g _ C _ _ hp hg Tryz.underlying27 rfl (by rw [hs]; exact info_head)) hd h
/-- A header as a value. -/
noncomputable def headV (named : Bool) (name : List UInt8) (t : Nat) : Value := .agg #[.bool named, .string ⟨name.toArray⟩, .float .f64 t]
/-- What reading a header comes to. -/
def HeadTo (w0 : World) (x : Nat) (a : Option Addr) (len cap : Nat) (l : List UInt8) (e : Ending) (w' : World) : Prop :=
  (∃ c, rd l = .bad c ∧ c ≠ 0 ∧ Thrown c e ∧ Only (fun k => k = x) w0 w') ∨
  (∃ h, rd l = .ok h ∧ e = .returned (headV h.named h.name (ClkC.fromU (h.time : Int))) ∧ Hid (Rdr w0 x a len cap l h.n w'))
section
variable {w0 w w' : World} {x : Nat} {a : Option Addr} {len cap at_ : Nat} {l : List UInt8}
theorem Rdr.anew (h : Rdr w0 x a len cap l at_ w) : Rdr w x a len cap l at_ w := ⟨h.blk, h.row, h.ne, Only.refl _ _, h.le, h.top⟩
theorem Rdr.since {w1 : World} (h : Rdr w1 x a len cap l at_ w) (ho : Only (fun k => k = x) w0 w1) : Rdr w0 x a len cap l at_ w := ⟨h.blk, h.row, h.ne, ho.trans h.only (fun _ _ h => h), h.le, h.top⟩
theorem HeadTo.bad {c : Nat} {e : Ending} (hr : rd l = .bad c) (hc : c ≠ 0) (ht : Thrown c e) (ho : Only (fun k => k = x) w0 w') : HeadTo w0 x a len cap l e w' := .inl ⟨c, hr, hc, ht, ho⟩

theorem only_row (w : World) (g : Nat) (C : Array Value) : Only (fun k => k = g) w (w.setRow g C) := by
  refine ⟨rfl, rfl, rfl, by simp [World.setRow], fun k hk hs => ?_⟩
  simp [World.setRow, Array.getElem?_modify, Ne.symm hs]
/-- Behind the first ten bytes: the header's own block, and what is left to be told. -/
structure Mid (w1 : World) (x : Nat) (a : Option Addr) (len cap : Nat) (l : List UInt8) (g : Nat) (at_ : Nat) (named : Bool) (name : List UInt8) (t : Nat) (w : World) : Prop where
  rdr : Rdr w1 x a len cap l at_ w
  blk : Blk w g 27 #[.bool named, .string ⟨name.toArray⟩, .float .f64 t]
  ne : g ≠ x
  na : ∀ b off, a = some ⟨b, off, none⟩ → b ≠ g
  low : w1.heap.size ≤ g
theorem Mid.on {w1 w2 : World} {g : Nat} {named : Bool} {name : List UInt8} {t k : Nat} (h : Mid w1 x a len cap l g at_ named name t w) (hr : Rdr w x a len cap l k w2) : Mid w1 x a len cap l g k named name t w2 :=
  ⟨hr.since h.rdr.only, hr.only.blk h.blk h.ne, h.ne, h.na, h.low⟩

/-- The walk has no law for a store of a float. -/
theorem store_float (p : Addr) (y : Nat) (W : World) (v : Value) (hc : W.cell? p = some v) (hz : W.frozen? p = false) : (store p (.float .f64 y)).run Tryz.prog W = .ok () (W.setCell p (.float .f64 y)) := by
  rw [run_store _ _ _ _ _ rfl]
  simp [hc, hz]
theorem mg_cell (k : Nat) (hk : k < 3) : (#[.int .u8 31, .int .u8 139, .int .u8 8] : Array Value)[k]? = some (.int .u8 ((mg k : Nat) : Int)) := by
  have : k = 0 ∨ k = 1 ∨ k = 2 := by omega
  rcases this with rfl | rfl | rfl <;> rfl
set_option maxRecDepth 100000 in
set_option maxHeartbeats 8000000 in
theorem head_any (h : Hid (Rdr w0 x a len cap l 0 w)) :
    Calls Tryz.prog 28 #[.pointer (some ⟨x, 0, none⟩)] w (HeadTo w0 x a len cap l) := by
  obtain ⟨g2, hg2⟩ : ∃ g2, g2 = w.heap.size := ⟨_, rfl⟩
  obtain ⟨wa, hwa⟩ : ∃ wa, wa = w.alloc (.cells #[.bool false, .string ⟨#[]⟩, .float .f64 0] 27) := ⟨_, rfl⟩
  obtain ⟨w1, hw1⟩ : ∃ w1, w1 = wa.alloc (.cells #[.int .u8 31, .int .u8 139, .int .u8 8] 5 (3, 4)) := ⟨_, rfl⟩
  have hsz : wa.heap.size = w.heap.size + 1 := by rw [hwa]; simp
  have hcv := Go.Lib.run_convert_bytes_const (P := Tryz.prog) wa 25 5 #[.int .u8 31, .int .u8 139, .int .u8 8] 3 3 Tryz.underlying25 Tryz.underlying5
  simp only [show (#[Value.int .u8 31, .int .u8 139, .int .u8 8] : Array Value).size = 3 from rfl] at hcv
  rw [← hw1, hsz] at hcv
  have hba : Below w.heap.size w wa := by rw [hwa]; exact (Below.refl _ _).alloc (Nat.le_refl _) _
  have hb1 : Below wa.heap.size wa w1 := by rw [hw1]; exact (Below.refl _ _).alloc (Nat.le_refl _) _
  have hxw := h.out.blk.lt
  have H1 : Hid (Rdr w1 x a len cap l 0 w1) := Lib.hid ((h.out.below hba).below hb1).anew
  have HO1 : Hid (Only (fun k => k = x) w0 w1) := Lib.hid ((h.out.below hba).below hb1).only
  have HG2 : Hid (Blk w1 g2 27 #[.bool false, .string ⟨#[]⟩, .float .f64 0] ∧ g2 ≠ x) := Lib.hid ⟨by
    have h2 : Blk wa g2 27 #[.bool false, .string ⟨#[]⟩, .float .f64 0] := by rw [hwa, hg2]; exact Blk.new _ _ _
    exact h2.same (hb1.block g2 h2.lt), by omega⟩
  have hrow : w1.heap[w.heap.size + 1]? = some (.cells #[.int .u8 31, .int .u8 139, .int .u8 8] 5 (3, 4)) := by
    rw [hw1, ← hsz]; exact heap_alloc_new wa _
  obtain ⟨g1, hg1⟩ : ∃ g1, g1 = w.heap.size + 1 := ⟨_, rfl⟩
  rw [← hg1] at hrow
  have HG1 : Hid (∀ k, k < 3 → w1.cell? ⟨g1, k, none⟩ = some (.int .u8 ((mg k : Nat) : Int))) := Lib.hid fun k hk => by
    rw [World.cell?]
    simp only [hrow]
    exact mg_cell k hk
  have HW0 : Hid (w0.heap.size ≤ g2 ∧ (0 < len → ∀ b off, a = some ⟨b, off, none⟩ → b ≠ g2)) := Lib.hid ⟨by have := h.out.only.size; omega, fun h0 b off e => by
    rcases h.out.row.at_ with h1 | ⟨b', off', e', hlt', -⟩
    · omega
    · rw [e] at e'; cases e'; omega⟩
  have HX1 : Hid (g1 < w1.heap.size ∧ g1 ≠ x) := Lib.hid ⟨(Array.getElem?_eq_some_iff.1 hrow).1, by omega⟩
  rw [hwa] at hcv
  clear hw1 hba hb1 hxw h hrow hsz
  go_enter Tryz.func28, Tryz.ntmps28
  go_upto_region 2 with (fail)
  rw [← hg1, ← hg2]
  clear hcv hg1 hg2 hwa
  go_loopw [11] (fun i wr => ∃ k : Nat, k ≤ 3 ∧ i = .int .i64 (k : Int) ∧ Hid (Mag l k) ∧ Hid (Rdr w1 x a len cap l k wr)) (fun i _ => 3 - (intOf i).toNat)
  case atStart => exact ⟨0, by omega, rfl, Lib.hid (Mag.zero l), H1⟩
  case round =>
    clear H1
    obtain ⟨k, hk3, rfl, HM, HR⟩ := hrel
    have hlen := HR.out.len_eq
    by_cases hlt : k < 3
    · have hc : wr.cell? ⟨g1, k, none⟩ = some (.int .u8 ((mg k : Nat) : Int)) := by
        rw [HR.out.only.cell (p := ⟨g1, k, none⟩) HX1.out.1 HX1.out.2]; exact HG1.out k hlt
      have hmg : mg k < 256 := by unfold mg; split <;> (try split) <;> omega
      obtain ⟨mk, hmk⟩ : ∃ mk, mk = mg k := ⟨_, rfl⟩
      rw [← hmk] at hc hmg
      have HMK := Lib.hid hmk
      have HLE := Lib.hid hlen
      clear hmk hlen
      go_wp2_with fail
      refine (number_any 1 HR (by omega) (by omega)).mono ?_
      rintro e w2 (⟨hs, ⟨q, rfl⟩, ho⟩ | ⟨hs, rfl, HR2⟩)
      · go_wp2_with fail
        have hkl : l.length = k := by have := HM.out.1; omega
        exact ⟨rfl, HeadTo.bad (rd_short HM.out (by omega) hkl) (by decide) ⟨_, rfl⟩ (HO1.out.trans ho (fun _ _ h => h))⟩
      · rw [num_one l k (by omega)]
        obtain ⟨c, hcc⟩ : ∃ c, c = (l.getD k 0).toNat := ⟨_, rfl⟩
        rw [← hcc]
        have HC := Lib.hid (And.intro hcc hs)
        have hc256 : c < 256 := by rw [hcc]; exact UInt8.toNat_lt _
        clear hcc hs hc
        by_cases he : c = mk
        · have e1 : ((c : Int) == (mk : Int)) = true := by simp [he]
          go_wp2_with fail
          refine (demand_yes x _).mono ?_
          rintro e w3 ⟨rfl, rfl⟩
          go_wp2_with fail
          go_roundw
          case rel => exact ⟨k + 1, by omega, by go_num, Lib.hid (HM.out.succ (by have := HC.out.2; omega) (by rw [← HC.out.1, he, HMK.out])), HR2⟩
          case measure => simp [intOf]; omega
        · have e1 : ((c : Int) == (mk : Int)) = false := by simp; omega
          go_wp2_with fail
          refine (demand_no HR2).mono ?_
          rintro e w3 ⟨⟨q, rfl⟩, rfl⟩
          go_wp2_with fail
          exact ⟨rfl, HeadTo.bad (rd_wrong HM.out (by omega) (by have := HC.out.2; omega) (by rw [← HC.out.1, ← HMK.out]; exact he)) (by decide) ⟨_, rfl⟩ (HO1.out.trans HR2.out.only (fun _ _ h => h))⟩
    · obtain rfl : k = 3 := by omega
      have HGo := Lib.hid (rd_goes HM.out)
      clear HG1 HX1 HM
      have htop := HR.out.top
      have HLE := Lib.hid hlen
      clear hlen
      go_wp2_with fail
      refine (number_any 1 HR (by omega) (by omega)).mono ?_
      rintro e w2 (⟨hs, ⟨q, rfl⟩, ho⟩ | ⟨hs, rfl, HR2⟩)
      · go_wp2_with fail
        exact ⟨rfl, HeadTo.bad (by rw [HGo.out, if_pos (by omega)]) (by decide) ⟨_, rfl⟩ (HO1.out.trans ho (fun _ _ h => h))⟩
      rw [num_one l 3 (by omega)]
      have HGo2 : Hid (rd l = if 32 ≤ (l.getD 3 0).toNat then .bad 2 else if l.length < 8 then .bad 5 else if l.length < 10 then .bad 5 else gext l (l.getD 3 0).toNat 10 ⟨false, [], Go.My.NumMath.num false ((l.drop 4).take 4), 0⟩) := Lib.hid (by rw [HGo.out, if_neg (by omega)])
      obtain ⟨f, hf⟩ : ∃ f, f = (l.getD 3 0).toNat := ⟨_, rfl⟩
      have hf256 : f < 256 := by rw [hf]; exact UInt8.toNat_lt _
      rw [← hf] at HGo2 ⊢
      clear HGo hf hs HR hlt hk3
      have b224 := flag_224 f hf256
      obtain ⟨z, hz⟩ : ∃ z, z = f / 32 * 32 := ⟨_, rfl⟩
      rw [← hz] at b224
      by_cases hf32 : 32 ≤ f
      · have e1 : (((z : Nat) : Int) == 0) = false := by simp; omega
        clear hz
        go_wp2_with fail
        refine (demand_no HR2).mono ?_
        rintro e w3 ⟨⟨q, rfl⟩, rfl⟩
        go_wp2_with fail
        exact ⟨rfl, HeadTo.bad (by rw [HGo2.out, if_pos hf32]) (by decide) ⟨_, rfl⟩ (HO1.out.trans HR2.out.only (fun _ _ h => h))⟩
      have e1 : z = 0 := by omega
      subst e1
      clear hz
      have HGo3 : Hid (rd l = if l.length < 8 then .bad 5 else if l.length < 10 then .bad 5 else gext l f 10 ⟨false, [], Go.My.NumMath.num false ((l.drop 4).take 4), 0⟩) := Lib.hid (by rw [HGo2.out, if_neg hf32])
      clear HGo2 hf32
      go_wp2_with fail
      refine (demand_yes x _).mono ?_
      rintro e w3 ⟨rfl, rfl⟩
      go_wp2_with fail
      refine (number_any 4 HR2 (by omega) (by omega)).mono ?_
      rintro e w4 (⟨hs, ⟨q, rfl⟩, ho⟩ | ⟨hs, rfl, HR4⟩)
      · go_wp2_with fail
        exact ⟨rfl, HeadTo.bad (by rw [HGo3.out, if_pos (by omega)]) (by decide) ⟨_, rfl⟩ (HO1.out.trans ho (fun _ _ h => h))⟩
      have HGo4 : Hid (rd l = if l.length < 10 then .bad 5 else gext l f 10 ⟨false, [], Go.My.NumMath.num false ((l.drop 4).take 4), 0⟩) := Lib.hid (by rw [HGo3.out, if_neg (by omega)])
      clear HGo3 hs HR2 b224
      obtain ⟨tm, htm⟩ : ∃ tm, tm = Go.My.NumMath.num false ((l.drop 4).take 4) := ⟨_, rfl⟩
      rw [show 3 + 1 = 4 from rfl] at HR4 ⊢
      rw [← htm] at HGo4 ⊢
      clear htm
      go_wp2_with fail
      refine (ClkC.fromunix_any (tm : Int) w4).mono ?_
      rintro e w5 ⟨rfl, rfl⟩
      have HT : Hid (ClkC.fromU (tm : Int) = ClkC.fromU (tm : Int)) := Lib.hid rfl
      obtain ⟨tf, htf⟩ : ∃ tf, tf = ClkC.fromU (tm : Int) := ⟨_, rfl⟩
      rw [← htf]
      have HTF := Lib.hid htf
      clear htf HT
      have hc2 : (w4.alloc (.cells #[.bool false, .string ⟨#[]⟩, .float .f64 0] 27)).cell? ⟨w4.heap.size, 2, none⟩ = some (.float .f64 0) := by simp [go_sem]
      have hz2 : (w4.alloc (.cells #[.bool false, .string ⟨#[]⟩, .float .f64 0] 27)).frozen? ⟨w4.heap.size, 2, none⟩ = false := by simp [go_sem]
      have hst := store_float _ tf _ _ hc2 hz2
      go_upto_region 9 with (fail)
      obtain ⟨g6, hg6⟩ : ∃ g6, g6 = w4.heap.size := ⟨_, rfl⟩
      obtain ⟨w5, hw5⟩ : ∃ w5, w5 = w4.alloc (.cells #[.bool false, .string ⟨#[]⟩, .float .f64 tf] 27) := ⟨_, rfl⟩
      have hb5 : Below w4.heap.size w4 w5 := by rw [hw5]; exact (Below.refl _ _).alloc (Nat.le_refl _) _
      have M5 : Hid (Mid w1 x a len cap l g6 8 false [] tf w5) := Lib.hid ⟨HR4.out.below hb5, by rw [hw5, hg6]; exact Blk.new _ _ _, by have := HR4.out.blk.lt; omega, fun b off e => by
        rcases HR4.out.row.at_ with h0 | ⟨b', off', e', hlt', -⟩
        · have := HR4.out.le; omega
        · rw [e] at e'; cases e'; omega, by have := HR4.out.only.size; omega⟩
      rw [← hg6, ← hw5]
      clear hg6 hw5 hb5 hc2 hz2 hst HR4 HLE
      go_wp2_with fail
      refine (skip_any 2 (Lib.hid M5.out.rdr.anew) (by omega)).mono ?_
      rintro e w6 (⟨hs, ⟨q, rfl⟩, ho⟩ | ⟨hs, rfl, HR6⟩)
      · go_wp2_with fail
        exact ⟨rfl, HeadTo.bad (by rw [HGo4.out, if_pos (by omega)]) (by decide) ⟨_, rfl⟩ (HO1.out.trans (M5.out.rdr.only.trans ho (fun _ _ h => h)) (fun _ _ h => h))⟩
      have M6 : Hid (Mid w1 x a len cap l g6 10 false [] tf w6) := Lib.hid (M5.out.on HR6.out)
      have HL10 : Hid (10 ≤ len) := Lib.hid (by have := M5.out.rdr.len_eq; omega)
      have HG6 : Hid (rd l = gext l f 10 ⟨false, [], tm, 0⟩) := Lib.hid (by rw [HGo4.out, if_neg (by omega)])
      clear HGo4 hs M5 HR6
      obtain ⟨z4, hz4⟩ : ∃ z4, z4 = bits .and .i64 (f : Int) 4 := ⟨_, rfl⟩
      have H4 := Lib.hid (flag_is f 4 4 z4 rfl (by rw [hz4]; exact flag_4 f hf256))
      have b4 := hz4.symm
      clear hz4
      go_upto_if 38 with (fail)
      go_cut [5] (fun v wc => v = .int .i64 (f : Int) ∧ ∃ k, Hid (Mid w1 x a len cap l g6 k false [] tf wc) ∧ Hid (rd l = gnam l f k ⟨false, [], tm, 0⟩))
      case first =>
        rcases H4.out with ⟨rfl, hb⟩ | ⟨rfl, hb⟩
        · go_wp2_with fail
          refine (number_any 2 (Lib.hid M6.out.rdr.anew) (by omega) (by omega)).mono ?_
          rintro e w7 (⟨hs, ⟨q, rfl⟩, ho⟩ | ⟨hs, rfl, HR7⟩)
          · go_wp2_with fail
            exact ⟨rfl, HeadTo.bad (by rw [HG6.out]; unfold gext; rw [if_pos hb, if_pos hs]) (by decide) ⟨_, rfl⟩ (HO1.out.trans (M6.out.rdr.only.trans ho (fun _ _ h => h)) (fun _ _ h => h))⟩
          have hn16 : Go.My.NumMath.num false ((l.drop 10).take 2) < 65536 := by
            have := num_lt false ((l.drop 10).take 2)
            have hl2 : ((l.drop 10).take 2).length = 2 := by simp; omega
            rw [hl2] at this; exact this
          obtain ⟨n, hn⟩ : ∃ n, n = Go.My.NumMath.num false ((l.drop 10).take 2) := ⟨_, rfl⟩
          rw [← hn] at hn16 ⊢
          have HN := Lib.hid (And.intro hn hs)
          have M7 : Hid (Mid w1 x a len cap l g6 12 false [] tf w7) := Lib.hid (M6.out.on HR7.out)
          clear hn hs HR7
          go_wp2_with fail
          refine (skip_any n (Lib.hid M7.out.rdr.anew) (by omega)).mono ?_
          rintro e w8 (⟨hs, ⟨q, rfl⟩, ho⟩ | ⟨hs, rfl, HR8⟩)
          · go_wp2_with fail
            exact ⟨rfl, HeadTo.bad (by rw [HG6.out]; unfold gext; rw [if_pos hb, if_neg (by have := HN.out.2; omega), ← HN.out.1, if_pos (by omega)]) (by decide) ⟨_, rfl⟩ (HO1.out.trans (M7.out.rdr.only.trans ho (fun _ _ h => h)) (fun _ _ h => h))⟩
          go_wp2_with fail
          go_meet
          case rel => exact ⟨rfl, 12 + n, Lib.hid (M7.out.on HR8.out), Lib.hid (by rw [HG6.out]; unfold gext; rw [if_pos hb, if_neg (by have := HN.out.2; omega), ← HN.out.1, if_neg (by omega)])⟩
        · go_wp2_with fail
          go_meet
          case rel => exact ⟨rfl, 10, M6, Lib.hid (by rw [HG6.out]; unfold gext; rw [if_neg hb])⟩
      obtain ⟨rfl, k, M7, HG7⟩ := hcut
      clear M6 HG6 H4 b4
      obtain ⟨z8, hz8⟩ : ∃ z8, z8 = bits .and .i64 (f : Int) 8 := ⟨_, rfl⟩
      have H8 := Lib.hid (flag_is f 8 8 z8 rfl (by rw [hz8]; exact flag_8 f hf256))
      have b8 := hz8.symm
      clear hz8
      go_upto_if 45 with (fail)
      go_cut [5] (fun v wd => v = .int .i64 (f : Int) ∧ ∃ k named name, Hid (Mid w1 x a len cap l g6 k named name tf wd) ∧ Hid (rd l = grem l f k ⟨named, name, tm, 0⟩))
      case first =>
        rcases H8.out with ⟨rfl, hb⟩ | ⟨rfl, hb⟩
        · go_upto_region 13 with (fail)
          have hdr : Below wc.heap.size wc wc.drew := (Below.refl _ _).drew
          have HT := Lib.hid (text_any (Lib.hid (M7.out.rdr.anew.below hdr).anew))
          by_cases ht : tx (l.drop k) = 0
          · have HTO : Hid (Calls Tryz.prog 42 #[.pointer (some ⟨x, 0, none⟩)] wc.drew fun e w9 => ∃ a' c', e = .returned (.slice a' (zer (l.drop k)) c') ∧
                (convert 25 9 (.slice a' (zer (l.drop k)) c')).run Tryz.prog w9 = .ok (.string ⟨((l.drop k).take (zer (l.drop k))).toArray⟩) w9 ∧
                (convert 25 9 (.slice a' (zer (l.drop k)) c')).run Tryz.prog (w9.setCell ⟨g6, 0, none⟩ (.bool true)) = .ok (.string ⟨((l.drop k).take (zer (l.drop k))).toArray⟩) (w9.setCell ⟨g6, 0, none⟩ (.bool true)) ∧
                w9.cell? ⟨g6, 0, none⟩ = some (.bool false) ∧ w9.frozen? ⟨g6, 0, none⟩ = false ∧ (w9.setCell ⟨g6, 0, none⟩ (.bool true)).cell? ⟨g6, 1, none⟩ = some (.string ⟨#[]⟩) ∧ (w9.setCell ⟨g6, 0, none⟩ (.bool true)).frozen? ⟨g6, 1, none⟩ = false ∧
                Hid (Mid w1 x a len cap l g6 (k + zer (l.drop k) + 1) true ((l.drop k).take (zer (l.drop k))) tf ((w9.setCell ⟨g6, 0, none⟩ (.bool true)).setCell ⟨g6, 1, none⟩ (.string ⟨((l.drop k).take (zer (l.drop k))).toArray⟩)))) := Lib.hid (HT.out.mono fun e w9 hh => by
              rcases hh with ⟨h0, -⟩ | ⟨-, -, a', c', rfl, hby, hap, hr9⟩
              · exact absurd ht h0
              have hm9 : Mid w1 x a len cap l g6 (k + zer (l.drop k) + 1) false [] tf w9 := M7.out.on (hr9.out.since (Only.of_below hdr _))
              have hs0 : Only (fun k => k = g6) w9 (w9.setCell ⟨g6, 0, none⟩ (.bool true)) := ((Only.refl (fun k => g6 = k) w9).setCell (p := ⟨g6, 0, none⟩) (fun _ => rfl) _).mono (fun _ _ h => h.symm)
              have hs1 : Only (fun k => k = g6) (w9.setCell ⟨g6, 0, none⟩ (.bool true)) ((w9.setCell ⟨g6, 0, none⟩ (.bool true)).setCell ⟨g6, 1, none⟩ (.string ⟨((l.drop k).take (zer (l.drop k))).toArray⟩)) := ((Only.refl (fun k => g6 = k) _).setCell (p := ⟨g6, 1, none⟩) (fun _ => rfl) _).mono (fun _ _ h => h.symm)
              have hb0 := hm9.blk.set_ 0 (.bool true)
              have hb1 := hb0.set_ 1 (.string ⟨((l.drop k).take (zer (l.drop k))).toArray⟩)
              have hby0 := hs0.bytes hby.out (fun b off e hs => by obtain ⟨o', e'⟩ := hap b off e; exact hm9.na b o' e' hs)
              refine ⟨a', c', rfl, ?_, ?_, hm9.blk.cell 0, hm9.blk.frozen 0, hb0.cell 1, hb0.frozen 1, Lib.hid ⟨?_, hb1, hm9.ne, hm9.na, hm9.low⟩⟩
              · exact run_string_bytes _ 25 9 5 Tryz.underlying25 Tryz.underlying5 Tryz.underlying9 hby.out
              · exact run_string_bytes _ 25 9 5 Tryz.underlying25 Tryz.underlying5 Tryz.underlying9 hby0
              · have hs := hs0.trans hs1 (fun _ _ h => h)
                have hr := hm9.rdr
                refine ⟨hs.blk hr.blk (fun e => hm9.ne e.symm), hs.bytes hr.row (fun b off e hh => hm9.na b off e hh), hr.ne, ?_, hr.le, hr.top⟩
                exact (hr.only.setCell (p := ⟨g6, 0, none⟩) (fun hh => absurd hh (by have := hm9.low; simp only; omega)) _).setCell (p := ⟨g6, 1, none⟩) (fun hh => absurd hh (by have := hm9.low; simp only; omega)) _)
            have HG8 : Hid (rd l = grem l f (k + zer (l.drop k) + 1) ⟨true, (l.drop k).take (zer (l.drop k)), tm, 0⟩) := Lib.hid (by rw [HG7.out]; unfold gnam; rw [if_pos hb, if_neg (by rw [ht]; decide)])
            clear HT ht hdr
            generalize (l.drop k).take (zer (l.drop k)) = nm at *
            generalize k + zer (l.drop k) + 1 = k9 at *
            generalize zer (l.drop k) = zk at *
            go_region_law (go_simp; go_at_call 42; refine HTO.out.mono ?_; rintro e w9 ⟨a', c', rfl, kv1, kv2, kc0, kf0, kc1, kf1, HM9⟩)
            all_goals
              go_wp2_with fail
              go_meet
              case rel => exact ⟨rfl, k9, true, nm, HM9, HG8⟩
          · refine wp_region_held (S := fun _ => True) (by kernel_rfl) ?_
            change wpAnyH _ _ _ _ _ 7 _ _ wc.drew
            refine ord_take (i := 0) (d := some 46) (.pointer (some ⟨x, 0, none⟩)) rfl (by kernel_rfl) (by kernel_rfl) (by kernel_rfl) (by kernel_rfl) (fun _ _ _ h => h) (by kernel_rfl) (fun w _ => by kernel_rfl) trivial ?_
            refine ord_take (i := 3) (d := some 49) (.pointer (some ⟨g6, 0, none⟩)) rfl (by kernel_rfl) (by kernel_rfl) (by kernel_rfl) (by kernel_rfl) (fun _ _ _ h => h) (by kernel_rfl) (fun w _ => by kernel_rfl) trivial ?_
            refine ord_alone (i := 1) rfl (by kernel_rfl) (by kernel_rfl) ?_
            refine wp_throws (by kernel_rfl) HT.out ?_
            rintro e w2 (⟨-, ⟨q, rfl⟩, ho⟩ | ⟨h0, -⟩)
            · exact ⟨_, rfl, And.intro rfl (HeadTo.bad (by rw [HG7.out]; unfold gnam; rw [if_pos hb, if_pos ht]) ht ⟨_, rfl⟩ (HO1.out.trans (M7.out.rdr.only.trans ((Only.of_below hdr _).trans ho (fun _ _ h => h)) (fun _ _ h => h)) (fun _ _ h => h)))⟩
            · exact absurd h0 ht
        · go_wp2_with fail
          go_meet
          case rel => exact ⟨rfl, k, false, [], M7, Lib.hid (by rw [HG7.out]; unfold gnam; rw [if_neg hb])⟩
      obtain ⟨rfl, k2, named, name, M8, HG8⟩ := hcut
      clear M7 HG7 H8 b8
      obtain ⟨z16, hz16⟩ : ∃ z16, z16 = bits .and .i64 (f : Int) 16 := ⟨_, rfl⟩
      have H16 := Lib.hid (flag_is f 16 16 z16 rfl (by rw [hz16]; exact flag_16 f hf256))
      have b16 := hz16.symm
      clear hz16
      go_upto_if 53 with (fail)
      go_cut [5] (fun v wd => v = .int .i64 (f : Int) ∧ ∃ k, Hid (Mid w1 x a len cap l g6 k named name tf wd) ∧ Hid (rd l = gsum l f k ⟨named, name, tm, 0⟩))
      case first =>
        rcases H16.out with ⟨rfl, hb⟩ | ⟨rfl, hb⟩
        · go_wp2_with fail
          refine (text_any (Lib.hid M8.out.rdr.anew)).mono ?_
          rintro e w9 (⟨ht, ⟨q, rfl⟩, ho⟩ | ⟨ht, hz, a', c', rfl, hbt, -, HR9⟩)
          · go_wp2_with fail
            exact ⟨rfl, HeadTo.bad (by rw [HG8.out]; unfold grem; rw [if_pos hb, if_pos ht]) ht ⟨_, rfl⟩ (HO1.out.trans (M8.out.rdr.only.trans ho (fun _ _ h => h)) (fun _ _ h => h))⟩
          have M9 := Lib.hid (M8.out.on HR9.out)
          have HG9 : Hid (rd l = gsum l f (k2 + zer (l.drop k2) + 1) ⟨named, name, tm, 0⟩) := Lib.hid (by rw [HG8.out]; unfold grem; rw [if_pos hb, if_neg (by rw [ht]; decide)])
          clear ht hz hbt HR9 M8 HG8
          generalize zer (l.drop k2) = zk at *
          go_wp2_with fail
          go_meet
          case rel => exact ⟨rfl, _, M9, HG9⟩
        · go_wp2_with fail
          go_meet
          case rel => exact ⟨rfl, k2, M8, Lib.hid (by rw [HG8.out]; unfold grem; rw [if_neg hb])⟩
      obtain ⟨rfl, k3, M9, HG9⟩ := hcut
      clear M8 HG8 H16 b16
      obtain ⟨z2, hz2⟩ : ∃ z2, z2 = bits .and .i64 (f : Int) 2 := ⟨_, rfl⟩
      have H2 := Lib.hid (flag_is f 2 2 z2 rfl (by rw [hz2]; exact flag_2 f hf256))
      have b2 := hz2.symm
      clear hz2
      go_upto_if 58 with (fail)
      go_cut [5] (fun v wd => v = .int .i64 (f : Int) ∧ ∃ k n, Hid (Mid w1 x a len cap l g6 k named name tf wd) ∧ Hid (rd l = .ok ⟨named, name, tm, k⟩) ∧ Hid (10 ≤ len))
      case first =>
        rcases H2.out with ⟨rfl, hb⟩ | ⟨rfl, hb⟩
        · have hle3 := M9.out.rdr.le
          have hlen3 := M9.out.rdr.len_eq
          have c0 : ∀ p : Later wc, p.at'.cell? ⟨x, 0, none⟩ = some (.slice a len cap) := fun p => (M9.out.rdr.below p.kept).c0
          have c1 : ∀ p : Later wc, p.at'.cell? ⟨x, 1, none⟩ = some (.int .i64 (k3 : Int)) := fun p => (M9.out.rdr.below p.kept).c1
          have hcap : len ≤ cap := M9.out.rdr.row.le_cap
          have hcapt : cap ≤ 9223372036854775807 := M9.out.rdr.row.cap_le
          have HS : Hid (∀ p : Later wc, Calls Tryz.prog 33 #[.slice a k3 cap] p.at' fun e w' => e = .returned (.int .u32 ((crc 0#32 (l.take k3)).toNat : Int)) ∧ ∃ q : Later wc, w' = q.at') := Lib.hid fun p => later_of (CrcC.sum_bv a k3 cap (l.take k3) p.at' ((M9.out.rdr.row.below (Nat.le_refl _) p.kept).take k3 hle3))
          obtain ⟨sm, hsm⟩ : ∃ sm, sm = (crc 0#32 (l.take k3)).toNat := ⟨_, rfl⟩
          have hsm32 : sm < 4294967296 := by rw [hsm]; exact BitVec.isLt _
          rw [← hsm] at HS
          have HSM := Lib.hid hsm
          clear hsm
          go_wp2_with (refine wp_region_later (by kernel_rfl) (by kernel_rfl) ?_)
          repeat (go_big_quiet_step (first | (go_at_call 33; exact HS.out _)))
          refine wpQuiet_nil ?_
          rintro _ ⟨p, rfl⟩
          have MB : Hid (Mid w1 x a len cap l g6 k3 named name tf p.at') := Lib.hid ⟨M9.out.rdr.below p.kept, M9.out.blk.same (p.kept.block g6 M9.out.blk.lt), M9.out.ne, M9.out.na, M9.out.low⟩
          clear c0 c1 HS
          generalize p.at' = W at *
          go_wp2_with fail
          refine (number_any 2 (Lib.hid MB.out.rdr.anew) (by omega) (by omega)).mono ?_
          rintro e w7 (⟨hs, ⟨q, rfl⟩, ho⟩ | ⟨hs, rfl, HR7⟩)
          · go_wp2_with fail
            exact ⟨rfl, HeadTo.bad (by rw [HG9.out]; unfold gsum; rw [if_pos hb, if_pos (by omega)]) (by decide) ⟨_, rfl⟩ (HO1.out.trans (MB.out.rdr.only.trans ho (fun _ _ h => h)) (fun _ _ h => h))⟩
          have hn16 : Go.My.NumMath.num false ((l.drop k3).take 2) < 65536 := by
            have := num_lt false ((l.drop k3).take 2)
            have hl2 : ((l.drop k3).take 2).length = 2 := by simp; omega
            rw [hl2] at this; exact this
          obtain ⟨n, hn⟩ : ∃ n, n = Go.My.NumMath.num false ((l.drop k3).take 2) := ⟨_, rfl⟩
          rw [← hn] at hn16 ⊢
          have MC : Hid (Mid w1 x a len cap l g6 (k3 + 2) named name tf w7) := Lib.hid (MB.out.on HR7.out)
          have HGB : Hid (rd l = if n ≠ sm % 65536 then .bad 2 else .ok ⟨named, name, tm, k3 + 2⟩) := Lib.hid (by rw [HG9.out]; unfold gsum; rw [if_pos hb, if_neg (by omega), ← hn, ← HSM.out])
          clear hn hs HR7
          obtain ⟨sl, hsl⟩ : ∃ sl, sl = sm % 65536 := ⟨_, rfl⟩
          have u1 : IntKind.u16.wrap (sm : Int) = (sl : Int) := by rw [hsl]; simp [IntKind.wrap, IntKind.bits, IntKind.signed]
          have u2 : IntKind.i64.wrap (sl : Int) = (sl : Int) := IntWalk.i64_in _ (by omega)
          rw [← hsl] at HGB
          clear hsl
          by_cases he : n = sl
          · have e1 : ((n : Int) == (sl : Int)) = true := by simp [he]
            go_wp2_with fail
            refine (demand_yes x _).mono ?_
            rintro e w8 ⟨rfl, rfl⟩
            go_wp2_with fail
            go_meet
            case rel => exact ⟨rfl, k3 + 2, 0, MC, Lib.hid (by rw [HGB.out, if_neg (by simp [he])]), HL10⟩
          · have e1 : ((n : Int) == (sl : Int)) = false := by simp; omega
            go_wp2_with fail
            refine (demand_no (Lib.hid MC.out.rdr)).mono ?_
            rintro e w8 ⟨⟨q, rfl⟩, rfl⟩
            go_wp2_with fail
            exact ⟨rfl, HeadTo.bad (by rw [HGB.out, if_pos he]) (by decide) ⟨_, rfl⟩ (HO1.out.trans MC.out.rdr.only (fun _ _ h => h))⟩
        · go_wp2_with fail
          go_meet
          case rel => exact ⟨rfl, k3, 0, M9, Lib.hid (by rw [HG9.out]; unfold gsum; rw [if_neg hb]), HL10⟩
      obtain ⟨rfl, k4, -, MA, HGA, HLA⟩ := hcut
      clear M9 HG9 H2 b2
      have HB6 := Lib.hid MA.out.blk
      have HB2 := Lib.hid (MA.out.rdr.only.blk HG2.out.1 HG2.out.2)
      have HWA := Lib.hid (And.intro HW0.out.1 (HW0.out.2 (by have := HLA.out; omega)))
      go_wp2_with (first
        | (refine wpList_load_row rfl 27 _ rfl g6 rfl 27 #[.bool named, .string ⟨name.toArray⟩, .float .f64 tf] (0, 0) _ HB6.out Tryz.underlying27 rfl (by kernel_rfl) ?_)
        | (refine wpList_store_row rfl _ _ _ rfl g2 _ rfl rfl 27 #[.bool false, .string ⟨#[]⟩, .float .f64 0] HB2.out (by kernel_rfl) rfl (by simp [Value.oneCell']) ?_))
      have hro : Only (fun k => k = g2) wc (wc.setRow g2 #[.bool named, .string ⟨name.toArray⟩, .float .f64 tf]) := only_row _ _ _
      have hr := MA.out.rdr.since HO1.out
      refine head_ret (C := #[.bool named, .string ⟨name.toArray⟩, .float .f64 tf]) rfl rfl (setRow_heap _ _ _ _ _ _ HB2.out) rfl (.inr ⟨_, HGA.out, by unfold headV; simp only; rw [← HTF.out], Lib.hid ⟨hro.blk hr.blk (fun e => HG2.out.2 e.symm), hro.bytes hr.row (fun b off e hh => HWA.out.2 b off e hh), hr.ne, ?_, hr.le, hr.top⟩⟩)
      exact hr.only.trans hro (fun i hi hh => absurd hi (by have := HWA.out.1; omega))
end
end Go.Proofs.YtilfmmjjiiabgaaGreatDoor.GzC
end

section
namespace Go.Proofs.YtilfmmjjiiabgaaGreatDoor.NumC
open Go.RowKit Go.My NumMath

theorem info5 : (Tryz.prog.info? 5).map (fun i => (i.zero, i.size, i.bytes)) = some (some (.int .u8 0), 1, 1) := by kernel_rfl

set_option maxRecDepth 100000 in
theorem apart_any (a : Option Addr) (len cap : Nat) (l : List UInt8) (w : World) (hb : Bytes w a len cap l) (hl : l.length ≤ 1000) :
    Calls Tryz.prog 36 #[.slice a len cap] w fun e w' => OwnRet 5 w l e w' := by
  have H := Lib.hid hb
  obtain rfl : len = l.length := hb.len_eq.symm
  clear hb
  go_enter Tryz.func36, Tryz.ntmps36
  go_wp2_with (at_make; refine wpList_make_cap _ rfl (.const (.int .i64 0)) (.tmp 5) 25 rfl w.heap.size 5 Tryz.underlying25 info5 .i64 .i64 _ (l.length + 8) rfl rfl (by omega) (by omega) (Nat.le_refl _) ?_)
  intro w1 hown hg
  have hb1 := grown_none_below (Below.refl w.heap.size w) hg (Nat.le_refl _)
  have H1 := Lib.hid (H.out.below (Nat.le_refl _) hb1)
  have HB := Lib.hid hb1
  have HO := Lib.hid hown
  clear hg hb1 hown
  go_wp2_with (at_builtin; refine wpList_append_bytes rfl (.tmp 6) (.tmp 7) 25 rfl w.heap.size 5 Tryz.underlying25 info5 _ [] rfl HO.out a l.length cap l rfl H1.out (by simp; omega) HB.out.size ?_)
  intro v' w2 hown hg
  have hb2 := grown_below HO.out HB.out hg HB.out.size
  clear hg
  go_wp2_with fail
  go_ret
  exact ⟨v', rfl, by simpa using hown, hb2⟩

theorem u8_of (v k : Nat) : IntKind.u8.wrap ((v / 2 ^ (8 * k) : Nat) : Int) = ((byteAt v k).toNat : Int) := by
  rw [byteAt_toNat, show (256 : Nat) = 2 ^ 8 from rfl, ← Nat.pow_mul]
  simp [IntKind.wrap, IntKind.bits, IntKind.signed]
theorem byte_val (v k : Nat) : IntKind.u8.wrap ((v : Int) / 2 ^ (8 * k)) = ((byteAt v k).toNat : Int) := by
  have h := u8_of v k
  rw [Int.natCast_ediv, Int.natCast_pow] at h
  rw [← h]
  rfl

set_option maxRecDepth 100000 in
set_option maxHeartbeats 1000000 in
theorem putlittle_any (a : Option Addr) (len cap : Nat) (l : List UInt8) (v n : Nat) (w : World) (hb : Bytes w a len cap l) (hl : l.length ≤ 1000) (h1 : 1 ≤ n) (h2 : n ≤ 8) :
    Calls Tryz.prog 24 #[.slice a len cap, .int .u64 (v : Int), .int .i64 (n : Int)] w fun e w' => OwnRet 5 w (l ++ bytesOf false n v) e w' := by
  go_enter Tryz.func24, Tryz.ntmps24
  go_wp2_with fail
  refine (apart_any a len cap l w hb hl).mono ?_
  rintro e w1 ⟨v1, rfl, ho, hw⟩
  have HO := Lib.hid ho
  have HW := Lib.hid hw
  clear ho hw hb
  go_wp2_with fail
  refine (fits_yes n _ (by omega) (by omega)).mono ?_
  rintro e w2 ⟨rfl, rfl⟩
  go_wp2_with fail
  go_loopw [0, 15] (fun b i wr => ∃ j : Nat, j ≤ n ∧ i = .int .i64 j ∧ Hid (Own 5 w.heap.size wr b (l ++ bytesTo false n v j)) ∧ Hid (Below w.heap.size w wr)) (fun _ i _ => n - (intOf i).toNat)
  case atStart => exact ⟨0, by omega, rfl, Lib.hid (by rw [bytesTo_zero, List.append_nil]; exact HO.out), HW⟩
  case round =>
    obtain ⟨j, hj, rfl, HO1, HB1⟩ := hrel
    by_cases hlt : j < n
    · have e := byte_val v j
      go_wp2_with (at_builtin; refine wpList_append_bytes rfl (.tmp 18) (.tmp 24) 25 rfl w.heap.size 5 Tryz.underlying25 info5 _ (l ++ bytesTo false n v j) rfl (HO1.out.below (Nat.le_refl _) ((Below.refl _ _).alloc (Nat.le_refl _) _)) (some ⟨wr.heap.size, 0, none⟩) 1 1 [byteAt v j] rfl (one_bytes _ _ _) (by simp [bytesTo_len]; omega) (by have := HB1.out.size; simp; omega) ?_)
      intro v' w2 hown hg
      have HO2 : Hid (Own 5 w.heap.size w2 v' (l ++ bytesTo false n v (j + 1))) := Lib.hid (by rw [bytesTo_succ]; simpa [List.append_assoc] using hown)
      have HB2 := Lib.hid (grown_below (HO1.out.below (Nat.le_refl _) ((Below.refl _ _).alloc (Nat.le_refl _) (.cells #[.int .u8 ((byteAt v j).toNat : Int)] 5))) (HB1.out.alloc HB1.out.size _) hg (by have := HB1.out.size; simp; omega))
      clear hown hg
      go_wp2_with fail
      go_roundw
      case rel => exact ⟨j + 1, by omega, by go_num, HO2, HB2⟩
      case measure => simp [intOf]; omega
    · obtain rfl : j = n := by omega
      go_wp2_with fail
      go_ret
      exact ⟨_, rfl, HO1.out, HB1.out⟩
end Go.Proofs.YtilfmmjjiiabgaaGreatDoor.NumC
end
