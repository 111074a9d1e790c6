import Derived.Test.YtilfmmjjiiabgaaGreatDoorMgXa
import Derived.Test.YtilfmmjjiiabgaaGreatDoorMgXd
import Derived.Deep.RegionHeld3

section
/-
  GzipBack's law.
-/
namespace Go.Proofs.YtilfmmjjiiabgaaGreatDoor.GzC
open Go.RowKit Go.My GzMath CrcMath Flt BitMath InfC
open Go.My.NumMath (bytesOf)

/-- The members: the first one has the name. -/
noncomputable def itB (nm : List UInt8) (t : Nat) (f : Nat → List UInt8) (i : Nat) : It := itS (i == 0) (if i = 0 then nm else []) t (f i)
noncomputable def itsB (nm : List UInt8) (t : Nat) (f : Nat → List UInt8) (i : Nat) : List It := (List.range i).map (itB nm t f)
theorem str_app (l m : List UInt8) : (⟨l.toArray⟩ : ByteArray) ++ ⟨m.toArray⟩ = ⟨(l ++ m).toArray⟩ := by
  apply ByteArray.ext
  simp
variable {nm : List UInt8} {t : Nat} {f : Nat → List UInt8}
theorem itsB_succ (i : Nat) : itsB nm t f (i + 1) = itsB nm t f i ++ [itB nm t f i] := by unfold itsB; rw [List.range_succ, List.map_append]; rfl
theorem allB_snoc (L : List It) (i : It) : allB (L ++ [i]) = allB L ++ i.bytes := by simp [allB]
theorem allD_snoc (L : List It) (i : It) : allD (L ++ [i]) = allD L ++ i.d := by simp [allD]
theorem itB_fine {i : Nat} (hz : ∀ c ∈ nm, c ≠ 0) (hn : nm.length ≤ 100) (hf : (f i).length ≤ 100) : (itB nm t f i).Fine := by
  unfold itB itS
  refine fine_sto ?_ ?_ ?_ (uT_le t) (by omega)
  · intro c hc; split at hc
    · exact hz c hc
    · cases hc
  · split
    · omega
    · simp
  · intro h
    rw [if_neg (by simpa using h)]
theorem itB_good {i : Nat} {ratio : Nat} (hz : ∀ c ∈ nm, c ≠ 0) (hn : nm.length ≤ 100) (hf : (f i).length ≤ 100) (ho : ∀ n, n ≤ 100 → ovr n (5 + n) ratio = false) : (itB nm t f i).Good ratio :=
  good_sto (itB_fine hz hn hf) (ho _ hf)
theorem badB (hz : ∀ c ∈ nm, c ≠ 0) (hn : nm.length ≤ 100) (i : Nat) : badH (i == 0) (if i = 0 then nm else []) = false := by
  unfold badH hasZ
  by_cases h : i = 0
  · subst h
    have : zer nm = nm.length := zer_none fun j hj => by
      rw [List.getD_eq_getElem?_getD, List.getElem?_eq_getElem hj]
      exact hz _ (List.getElem_mem hj)
    simp [this]; omega
  · have h2 : (i == 0) = false := by simpa using h
    rw [h2, if_neg h]; decide
theorem itB_len {i : Nat} (hn : nm.length ≤ 100) (hf : (f i).length ≤ 100) : (itB nm t f i).bytes.length ≤ 230 := by
  rw [It.len_eq]
  have h1 := (putH_len (itB nm t f i).named (itB nm t f i).name (itB nm t f i).u).2
  have h2 : (itB nm t f i).S.length = 5 + (f i).length := InfMath.stored_len _ _
  have h3 : (itB nm t f i).name.length ≤ 100 := by
    show (if i = 0 then nm else []).length ≤ 100
    split
    · omega
    · simp
  unfold It.hd
  omega
theorem itsB_head {i : Nat} (h : 0 < i) : ∃ R, itsB nm t f i = itB nm t f 0 :: R := by
  obtain ⟨j, rfl⟩ : ∃ j, i = j + 1 := ⟨i - 1, by omega⟩
  unfold itsB
  rw [List.range_succ_eq_map]
  exact ⟨_, rfl⟩
theorem first_cells (R : List It) : (mbl (mbs 0 (itB nm t f 0 :: R)))[0]? = some (.bool true) ∧ (mbl (mbs 0 (itB nm t f 0 :: R)))[1]? = some (.string ⟨nm.toArray⟩) ∧ (mbl (mbs 0 (itB nm t f 0 :: R)))[2]? = some (.float .f64 (ClkC.fromU (uT t : Int))) := ⟨rfl, rfl, rfl⟩
set_option maxRecDepth 100000 in
set_option maxHeartbeats 8000000 in
theorem back_law (a : Option Addr) (len cap : Nat) (f : Nat → List UInt8) (N : ByteArray) (t : Nat) (w : World) (hl : RowsIn w a len cap f) (hN : N.size ≤ maxLen) (hO : Ordr w.heap.size w) :
    Calls Tryz.prog 3 #[.slice a len cap, .string N, .float .f64 t] w fun e w' => e = .returned (.bool true) ∧ Below w.heap.size w w' := by
  have HT := Lib.hid (fun w => told_any w)
  unfold maxLen at hN
  have y0 : ¬ 9223372036854775807 < N.size := by omega
  by_cases c1 : len = 0
  · subst c1
    clear hl
    go_enter Tryz.func3, Tryz.ntmps3
    go_wp2_with fail
    refine (HT.out _).mono ?_
    rintro e w' ⟨rfl, hB⟩
    have HB := Lib.hid hB
    clear hB
    go_wp2_with fail
    go_ret
    exact ⟨rfl, HB.out⟩
  have q1 : ((len : Int) == 0) = false := beq_eq_false_iff_ne.2 (by omega)
  by_cases c2 : (5 : Int) < (len : Int)
  · clear hl c1
    go_enter Tryz.func3, Tryz.ntmps3
    go_wp2_with fail
    refine (HT.out _).mono ?_
    rintro e w' ⟨rfl, hB⟩
    have HB := Lib.hid hB
    clear hB
    go_wp2_with fail
    go_ret
    exact ⟨rfl, HB.out⟩
  by_cases c3 : (100 : Int) < (N.size : Int)
  · clear hl c1
    go_enter Tryz.func3, Tryz.ntmps3
    go_wp2_with fail
    refine (HT.out _).mono ?_
    rintro e w' ⟨rfl, hB⟩
    have HB := Lib.hid hB
    clear hB
    go_wp2_with fail
    go_ret
    exact ⟨rfl, HB.out⟩
  have HI := Lib.hid (And.intro hl hO)
  have hlen0 : 0 < len := by omega
  have HL := Lib.hid (And.intro hlen0 (show len ≤ 5 by omega))
  have hnl : N.data.toList.length = N.size := by rw [Array.length_toList]; rfl
  clear hl hO c1 hlen0
  go_enter Tryz.func3, Tryz.ntmps3
  go_wp2_with fail
  go_loop [7] (fun i => ∃ k : Nat, k ≤ N.size ∧ i = .int .i64 (k : Int) ∧ Hid (k ≤ zer N.data.toList)) (fun i => N.size - (intOf i).toNat)
  case atStart => exact ⟨0, Nat.zero_le _, rfl, Lib.hid (Nat.zero_le _)⟩
  case round =>
    obtain ⟨k, hk, rfl, HZ⟩ := hrel
    by_cases hlt : k < N.size
    · have hd : (k : Int) < (N.size : Int) := by omega
      have hbx : (N[k]'hlt) = N.data.toList.getD k 0 := by
        rw [List.getD, List.getElem?_eq_getElem (by rw [hnl]; exact hlt)]
        rfl
      by_cases hz : N.data.toList.getD k 0 = 0
      · have e1 : (((N[k]'hlt).toNat : Int) == 0) = true := by rw [hbx, hz]; rfl
        clear hbx hz hnl
        go_wp2_with fail
        refine (HT.out _).mono ?_
        rintro e w1 ⟨rfl, hb⟩
        have HB := Lib.hid hb
        clear hb
        go_wp2_with fail
        go_ret
        exact ⟨rfl, HB.out⟩
      · have e1 : (((N[k]'hlt).toNat : Int) == 0) = false := by
          rw [hbx]
          have : (N.data.toList.getD k 0).toNat ≠ 0 := fun h => hz (UInt8.toNat_inj.1 (by rw [h]; rfl))
          simp only [beq_eq_false_iff_ne, ne_eq]
          omega
        have hzz : k + 1 ≤ zer N.data.toList := by
          have := HZ.out
          by_cases h : k = zer N.data.toList
          · exact absurd (by rw [h]; exact zer_zero _ (by omega)) hz
          · omega
        have HZZ := Lib.hid hzz
        clear hbx hz hzz hnl
        go_wp2_with fail
        go_round
        case rel => exact ⟨k + 1, by omega, by go_num, HZZ⟩
        case measure => simp [intOf]; omega
    · obtain rfl : k = N.size := by omega
      have hge : ¬ (N.size : Int) < (N.size : Int) := by omega
      have hnz : ∀ c ∈ N.data.toList, c ≠ 0 := fun c hc => by
        obtain ⟨i, hi, rfl⟩ := List.mem_iff_getElem.1 hc
        have := zer_at N.data.toList i (by have := HZ.out; omega)
        rwa [List.getD_eq_getElem?_getD, List.getElem?_eq_getElem hi] at this
      have HN := Lib.hid (And.intro hnz (show N.data.toList.length ≤ 100 by omega))
      clear hk hlt HZ hnz hnl
      go_wp2_with fail
      obtain ⟨nm, hnm⟩ : ∃ nm, nm = N.data.toList := ⟨_, rfl⟩
      rw [← hnm] at HN
      have HNM := Lib.hid hnm
      clear hge hnm
      go_loopw [8, 9, 10] (fun sv av iv wr => ∃ i : Nat, iv = .int .i64 (i : Int) ∧ i ≤ len ∧ sv = .string ⟨(allB (itsB nm t f i)).toArray⟩ ∧ av = .string ⟨(allD (itsB nm t f i)).toArray⟩ ∧ Hid (∀ j, j < i → (f j).length ≤ 100) ∧ Hid ((allB (itsB nm t f i)).length ≤ 230 * i ∧ (allD (itsB nm t f i)).length ≤ 100 * i) ∧ Hid (Below w.heap.size w wr)) (fun _ _ iv _ => len - (intOf iv).toNat)
      case atStart => exact ⟨0, rfl, by omega, rfl, rfl, Lib.hid (fun j hj => by omega), Lib.hid ⟨Nat.le_refl _, Nat.le_refl _⟩, Lib.hid (Below.refl _ _)⟩
      case round =>
        obtain ⟨i, rfl, hi, rfl, rfl, HF, HLN, HB⟩ := hrel
        by_cases hlt : i < len
        · have hRI := HI.out.1.below HB.out
          obtain ⟨bb, off, rfl, hbb, hcells⟩ : ∃ b off, a = some ⟨b, off, none⟩ ∧ b < wr.heap.size ∧ ∀ i, i < len → ∃ a' n c, wr.cell? ⟨b, off + i, none⟩ = some (.slice a' n c) ∧ Bytes wr a' n c (f i) := by
            rcases hRI.at_ with h | h
            · omega
            · exact h
          obtain ⟨a', n', c', hcell, hby⟩ := hcells i hlt
          have hltI : (i : Int) < (len : Int) := by omega
          have HBY := Lib.hid hby
          have hn' := hby.len_eq
          clear hRI hcells hby
          by_cases hbig : (100 : Int) < (n' : Int)
          · clear hn' HBY
            go_wp2_with fail
            refine (HT.out _).mono ?_
            rintro e w1 ⟨rfl, hb⟩
            have HB1 := Lib.hid (HB.out.trans (hb.mono HB.out.size))
            clear hb
            go_wp2_with fail
            go_ret
            exact ⟨rfl, HB1.out⟩
          have hn100 : n' ≤ 100 := by omega
          have HC := Lib.hid (And.intro hcell hbb)
          go_upto_region 15 with (first
            | (refine wpList_store_row rfl _ _ _ rfl wr.heap.size _ rfl rfl 27 #[.bool false, .string ⟨#[]⟩, .float .f64 0] (heap_alloc_new wr _) (by kernel_rfl) rfl (by simp [Value.oneCell']) ?_))
          obtain ⟨g, hg⟩ : ∃ g, g = wr.heap.size := ⟨_, rfl⟩
          obtain ⟨wh, hwh⟩ : ∃ wh, wh = (wr.alloc (.cells #[.bool false, .string ⟨#[]⟩, .float .f64 0] 27)).setRow wr.heap.size #[.bool false, .string ⟨#[]⟩, .float .f64 t] := ⟨_, rfl⟩
          have hbh : Below wr.heap.size wr wh := by rw [hwh]; exact below_setRow ((Below.refl _ _).alloc (Nat.le_refl _) _) (Nat.le_refl _) _
          have HHD : Hid (Blk wh g 27 #[.bool false, .string ⟨#[]⟩, .float .f64 t]) := Lib.hid (by rw [hwh, hg]; exact setRow_heap _ _ _ _ _ _ (heap_alloc_new wr _))
          have HBH := Lib.hid hbh
          have HGE : Hid (wr.heap.size ≤ g) := Lib.hid (by rw [hg]; exact Nat.le_refl _)
          rw [← hwh, ← hg]
          clear hwh hg hbh hcell hbb hbig
          obtain ⟨NS, hNS⟩ : ∃ NS : List UInt8, NS = if i = 0 then nm else [] := ⟨_, rfl⟩
          have HNS := Lib.hid hNS
          clear hNS
          go_upto_if 67 with (fail)
          go_cut [11] (fun hv wc => hv = .pointer (some ⟨g, 0, none⟩) ∧ Hid (Blk wc g 27 #[.bool (i == 0), .string ⟨NS.toArray⟩, .float .f64 t]) ∧ Hid (Below wr.heap.size wr wc))
          case first =>
            by_cases h0 : i = 0
            · subst h0
              have z0 := HHD.out.cell 0
              have z1 := HHD.out.cell 1
              have v0 := HHD.out.frozen 0
              have v1 := HHD.out.frozen 1
              simp only [List.getElem?_toArray, List.getElem?_cons_zero, List.getElem?_cons_succ] at z0 z1
              go_wp2_with fail
              go_meet
              case rel =>
                refine ⟨rfl, Lib.hid ?_, Lib.hid ((HBH.out.setCell HGE.out _).setCell HGE.out _)⟩
                have hb := (HHD.out.set_ 0 (.bool true)).set_ 1 (.string N)
                have eN : (⟨N.data.toList.toArray⟩ : ByteArray) = N := by cases N; simp
                rw [HNS.out, if_pos trivial, HNM.out, eN]
                exact hb
            · have e0 : ((i : Int) == 0) = false := beq_eq_false_iff_ne.2 (by omega)
              go_wp2_with fail
              go_meet
              case rel =>
                refine ⟨rfl, Lib.hid ?_, HBH⟩
                rw [HNS.out, if_neg h0, show (i == 0) = false from by simpa using h0]
                exact HHD.out
          obtain ⟨rfl, HH, HBc⟩ := hcut
          obtain ⟨wm, rfl⟩ : ∃ wm, wm = wc := ⟨_, rfl⟩
          have HBYc := Lib.hid (HBY.out.below (Nat.le_refl _) HBc.out)
          have HCc : Hid (wm.cell? ⟨bb, off + i, none⟩ = some (.slice a' n' c') ∧ bb < wm.heap.size) := Lib.hid ⟨(HBc.out.cell (p := ⟨bb, off + i, none⟩) HC.out.2).trans HC.out.1, Nat.lt_of_lt_of_le HC.out.2 HBc.out.size⟩
          have HBw := Lib.hid (HB.out.trans (HBc.out.mono HB.out.size))
          have HK : Hid (∀ W, Below wm.heap.size wm W → Hid (Blk W g 27 #[.bool (i == 0), .string ⟨NS.toArray⟩, .float .f64 t] ∧ Bytes W a' n' c' (f i) ∧ Below wm.heap.size wm W) ∧ W.cell? ⟨g, 0, none⟩ = some (.bool (i == 0)) ∧ W.cell? ⟨g, 1, none⟩ = some (.string ⟨NS.toArray⟩) ∧ W.cell? ⟨g, 2, none⟩ = some (.float .f64 t) ∧ W.cell? ⟨bb, off + i, none⟩ = some (.slice a' n' c')) := Lib.hid (by
            intro W hW
            have hk := HH.out.same (hW.block g HH.out.lt)
            have k0 := hk.cell 0
            have k1 := hk.cell 1
            have k2 := hk.cell 2
            simp only [List.getElem?_toArray, List.getElem?_cons_zero, List.getElem?_cons_succ] at k0 k1 k2
            exact ⟨Lib.hid ⟨hk, HBYc.out.below (Nat.le_refl _) hW, hW⟩, k0, k1, k2, (hW.cell (p := ⟨bb, off + i, none⟩) HCc.out.2).trans HCc.out.1⟩)
          have HK0 : Hid (Hid (Blk wm.drew g 27 #[.bool (i == 0), .string ⟨NS.toArray⟩, .float .f64 t] ∧ Bytes wm.drew a' n' c' (f i) ∧ Below wm.heap.size wm wm.drew) ∧ wm.drew.cell? ⟨g, 0, none⟩ = some (.bool (i == 0)) ∧ wm.drew.cell? ⟨g, 1, none⟩ = some (.string ⟨NS.toArray⟩) ∧ wm.drew.cell? ⟨g, 2, none⟩ = some (.float .f64 t) ∧ wm.drew.cell? ⟨bb, off + i, none⟩ = some (.slice a' n' c')) := Lib.hid (HK.out _ (Below.refl _ _).drew)
          obtain ⟨IB, hIB⟩ : ∃ IB, IB = (itB nm t f i).bytes := ⟨_, rfl⟩
          have HIB := Lib.hid hIB
          have HSt : Hid (∀ W, (Hid (Blk W g 27 #[.bool (i == 0), .string ⟨NS.toArray⟩, .float .f64 t] ∧ Bytes W a' n' c' (f i) ∧ Below wm.heap.size wm W) ∧ W.cell? ⟨g, 0, none⟩ = some (.bool (i == 0)) ∧ W.cell? ⟨g, 1, none⟩ = some (.string ⟨NS.toArray⟩) ∧ W.cell? ⟨g, 2, none⟩ = some (.float .f64 t) ∧ W.cell? ⟨bb, off + i, none⟩ = some (.slice a' n' c')) → Calls Tryz.prog 8 #[.slice a' n' c', .bool true] W fun e w' => ∃ a7 c7, e = .returned (.slice a7 (5 + n') c7) ∧ Hid (Own 5 W.heap.size w' (.slice a7 (5 + n') c7) (InfMath.stored (f i) true)) ∧ Hid (Blk w' g 27 #[.bool (i == 0), .string ⟨NS.toArray⟩, .float .f64 t] ∧ Bytes w' a' n' c' (f i) ∧ Below wm.heap.size wm w') ∧ w'.cell? ⟨g, 0, none⟩ = some (.bool (i == 0)) ∧ w'.cell? ⟨g, 1, none⟩ = some (.string ⟨NS.toArray⟩) ∧ w'.cell? ⟨g, 2, none⟩ = some (.float .f64 t) ∧ w'.cell? ⟨bb, off + i, none⟩ = some (.slice a' n' c')) := Lib.hid (by
            intro W hW
            refine (InfC.store_any true a' n' c' (f i) W hW.1.out.2.1 (by omega)).mono ?_
            rintro e w' ⟨a7, c7, rfl, h1, h2⟩
            exact ⟨a7, c7, rfl, h1, HK.out _ (hW.1.out.2.2.trans (h2.out.mono hW.1.out.2.2.size))⟩)
          have HCr : Hid (∀ W, (Hid (Blk W g 27 #[.bool (i == 0), .string ⟨NS.toArray⟩, .float .f64 t] ∧ Bytes W a' n' c' (f i) ∧ Below wm.heap.size wm W) ∧ W.cell? ⟨g, 0, none⟩ = some (.bool (i == 0)) ∧ W.cell? ⟨g, 1, none⟩ = some (.string ⟨NS.toArray⟩) ∧ W.cell? ⟨g, 2, none⟩ = some (.float .f64 t) ∧ W.cell? ⟨bb, off + i, none⟩ = some (.slice a' n' c')) → Calls Tryz.prog 9 #[.int .u32 0, .slice a' n' c'] W fun e w' => e = .returned (.int .u32 ((crc 0#32 (f i)).toNat : Int)) ∧ W = w') := Lib.hid (fun W hW => CrcC.ref_bv 0#32 a' n' c' (f i) W hW.1.out.2.1)
          have HWr : Hid (∀ W a7 c7 B, (Hid (Blk W g 27 #[.bool (i == 0), .string ⟨NS.toArray⟩, .float .f64 t] ∧ Bytes W a' n' c' (f i) ∧ Below wm.heap.size wm W) ∧ W.cell? ⟨g, 0, none⟩ = some (.bool (i == 0)) ∧ W.cell? ⟨g, 1, none⟩ = some (.string ⟨NS.toArray⟩) ∧ W.cell? ⟨g, 2, none⟩ = some (.float .f64 t) ∧ W.cell? ⟨bb, off + i, none⟩ = some (.slice a' n' c')) → Own 5 B W (.slice a7 (5 + n') c7) (InfMath.stored (f i) true) → Calls Tryz.prog 7 #[.agg #[.bool (i == 0), .string ⟨NS.toArray⟩, .float .f64 t], .slice a7 (5 + n') c7, .int .u32 ((crc 0#32 (f i)).toNat : Int), .int .i64 (n' : Int)] W fun e w' => ∃ a9 c9, e = .returned (.tuple #[.slice a9 IB.length c9, .int .i64 0]) ∧ Hid (Own 5 W.heap.size w' (.slice a9 IB.length c9) IB) ∧ Hid (Blk w' g 27 #[.bool (i == 0), .string ⟨NS.toArray⟩, .float .f64 t] ∧ Bytes w' a' n' c' (f i) ∧ Below wm.heap.size wm w') ∧ w'.cell? ⟨g, 0, none⟩ = some (.bool (i == 0)) ∧ w'.cell? ⟨g, 1, none⟩ = some (.string ⟨NS.toArray⟩) ∧ w'.cell? ⟨g, 2, none⟩ = some (.float .f64 t) ∧ w'.cell? ⟨bb, off + i, none⟩ = some (.slice a' n' c')) := Lib.hid (by
            intro W a7 c7 B hW ho
            have hw := wrap_ok (i == 0) NS t a7 (5 + n') c7 (InfMath.stored (f i) true) (crc 0#32 (f i)).toNat n' W (by rw [HNS.out]; exact badB HN.out.1 HN.out.2 i) (own_by ho).2 (by omega) (crc 0#32 (f i)).isLt (by omega)
            have ew : wrapB (i == 0) NS t (InfMath.stored (f i) true) (crc 0#32 (f i)).toNat n' = IB := by
              rw [hIB, ← hn', wrap_it, HNS.out]; rfl
            rw [ew] at hw
            refine hw.mono ?_
            rintro e w' ⟨v, rfl, h1, h2⟩
            obtain ⟨a9, c9, rfl, -⟩ := h1.bytes
            exact ⟨a9, c9, rfl, Lib.hid h1, HK.out _ (hW.1.out.2.2.trans (h2.mono hW.1.out.2.2.size))⟩)
          clear hIB HH HBY HC HBc HB
          go_upto_region 17 with (fail)
          go_cut [12, 13] (fun wv ev wd => ev = .int .i64 0 ∧ ∃ a9 c9, wv = .slice a9 IB.length c9 ∧ Hid (Own 5 wm.heap.size wd (.slice a9 IB.length c9) IB) ∧ Hid (Below wm.heap.size wm wd))
          case first =>
            go_region_held3 (fun w' => Hid (Blk w' g 27 #[.bool (i == 0), .string ⟨NS.toArray⟩, .float .f64 t] ∧ Bytes w' a' n' c' (f i) ∧ Below wm.heap.size wm w') ∧ w'.cell? ⟨g, 0, none⟩ = some (.bool (i == 0)) ∧ w'.cell? ⟨g, 1, none⟩ = some (.string ⟨NS.toArray⟩) ∧ w'.cell? ⟨g, 2, none⟩ = some (.float .f64 t) ∧ w'.cell? ⟨bb, off + i, none⟩ = some (.slice a' n' c')) (first | exact ⟨by assumption, by assumption, by assumption, by assumption, by assumption⟩ | exact HK0.out) (first
              | (go_at_call 8; refine (HSt.out _ (by first | exact ⟨by assumption, by assumption, by assumption, by assumption, by assumption⟩ | exact HK0.out)).mono ?_; rintro e w7 ⟨a7, c7, rfl, ho7, k1, k2, k3, k4, k5⟩)
              | (go_at_call 9; refine (HCr.out _ (by first | exact ⟨by assumption, by assumption, by assumption, by assumption, by assumption⟩ | exact HK0.out)).mono ?_; rintro e w8 ⟨rfl, rfl⟩)
              | (go_at_call 7; refine (HWr.out _ _ _ _ (by first | exact ⟨by assumption, by assumption, by assumption, by assumption, by assumption⟩ | exact HK0.out) ho7.out).mono ?_; rintro e w9 ⟨a9, c9, rfl, ho9, j1, j2, j3, j4, j5⟩))
            all_goals (go_wp2_with fail; go_meet)
            all_goals exact ⟨rfl, a9, c9, rfl, Lib.hid (own_low ho9.out k1.out.2.2.size), Lib.hid j1.out.2.2⟩
          obtain ⟨rfl, a9, c9, rfl, HO9, HB9⟩ := hcut
          have hcv1 := conv_own HO9.out
          have hby9 := HBYc.out.below (Nat.le_refl _) HB9.out
          have hcv2 := run_string_bytes _ 25 9 5 Tryz.underlying25 Tryz.underlying5 Tryz.underlying9 hby9
          have hcl9 := (HB9.out.cell (p := ⟨bb, off + i, none⟩) HCc.out.2).trans HCc.out.1
          have HBn := Lib.hid (HBw.out.trans (HB9.out.mono HBw.out.size))
          have HFn : Hid (∀ j, j < i + 1 → (f j).length ≤ 100) := Lib.hid (fun j hj => by
            by_cases h : j = i
            · rw [h, hn']; exact hn100
            · exact HF.out j (by omega))
          have e1 : IntKind.i64.wrap ((i : Int) + 1) = (i : Int) + 1 := IntWalk.i64_in _ (by omega)
          have hIl : IB.length ≤ 230 := by rw [HIB.out]; exact itB_len HN.out.2 (by omega)
          have HLn : Hid ((allB (itsB nm t f (i + 1))).length ≤ 230 * (i + 1) ∧ (allD (itsB nm t f (i + 1))).length ≤ 100 * (i + 1)) := Lib.hid (by
            have h1 := HLN.out
            rw [itsB_succ, allB_snoc, allD_snoc, List.length_append, List.length_append, ← HIB.out]
            have h2 : (itB nm t f i).d.length ≤ 100 := by show (f i).length ≤ 100; omega
            omega)
          obtain ⟨S1, hS1⟩ : ∃ S1 : ByteArray, S1 = ⟨(allB (itsB nm t f i)).toArray⟩ := ⟨_, rfl⟩
          obtain ⟨S2, hS2⟩ : ∃ S2 : ByteArray, S2 = ⟨(allD (itsB nm t f i)).toArray⟩ := ⟨_, rfl⟩
          obtain ⟨S3, hS3⟩ : ∃ S3 : ByteArray, S3 = ⟨IB.toArray⟩ := ⟨_, rfl⟩
          obtain ⟨S4, hS4⟩ : ∃ S4 : ByteArray, S4 = ⟨(f i).toArray⟩ := ⟨_, rfl⟩
          have hz1 : ¬ 9223372036854775807 < S1.size + S3.size := by
            have := HLN.out.1
            rw [hS1, hS3]; simp only [ByteArray.size, List.size_toArray]; omega
          have hz2 : ¬ 9223372036854775807 < S2.size + S4.size := by
            have := HLN.out.2
            rw [hS2, hS4]; simp only [ByteArray.size, List.size_toArray]; omega
          rw [← hS3] at hcv1
          rw [← hS4] at hcv2
          rw [← hS1, ← hS2]
          have HSS := Lib.hid (And.intro hS1 (And.intro hS2 (And.intro hS3 hS4)))
          clear hS1 hS2 hS3 hS4 hIl HLN
          clear hby9 HO9 HB9 HBYc HCc HBw HK HK0 HSt HCr HWr HHD HBH HGE hn'
          go_wp2_with fail
          go_roundw
          case rel => exact ⟨i + 1, by simp, by omega, by rw [HSS.out.1, HSS.out.2.2.1, str_app, HIB.out, itsB_succ, allB_snoc], by rw [HSS.out.2.1, HSS.out.2.2.2, str_app, itsB_succ, allD_snoc]; rfl, HFn, HLn, HBn⟩
          case measure => simp [intOf]; omega
        · obtain rfl : i = len := by omega
          obtain ⟨L, hL⟩ : ∃ L, L = itsB nm t f i := ⟨_, rfl⟩
          rw [← hL] at HLN ⊢
          obtain ⟨SB, hSB⟩ : ∃ SB : ByteArray, SB = ⟨(allB L).toArray⟩ := ⟨_, rfl⟩
          obtain ⟨SD, hSD⟩ : ∃ SD : ByteArray, SD = ⟨(allD L).toArray⟩ := ⟨_, rfl⟩
          rw [← hSB, ← hSD]
          have hSBl : SB.data.toList = allB L := by rw [hSB]
          have hSBs : SB.size = (allB L).length := by rw [hSB]; simp [ByteArray.size]
          have hSDs : SD.size = (allD L).length := by rw [hSD]; simp [ByteArray.size]
          have hLl : L.length = i := by rw [hL]; unfold itsB; simp
          have hgood : ∀ ratio, (∀ n, n ≤ 100 → ovr n (5 + n) ratio = false) → ∀ y ∈ L, y.Good ratio := fun ratio ho y hy => by
            rw [hL] at hy
            unfold itsB at hy
            obtain ⟨j, hj, rfl⟩ := List.mem_map.1 hy
            exact itB_good HN.out.1 HN.out.2 (HF.out j (by simpa using hj)) ho
          have HGd := Lib.hid hgood
          have hne : L ≠ [] := fun h => by have := HL.out.1; rw [h] at hLl; simp at hLl; omega
          have HLL := Lib.hid (And.intro hL (And.intro hLl (And.intro hne (And.intro hSBl hSD))))
          have hD : (allD L).length ≤ 500 := by have := HLN.out.2; omega
          have hB : SB.size ≤ 1150 := by have := HLN.out.1; omega
          have HDs := Lib.hid (And.intro hSDs (And.intro hD hSBs))
          obtain ⟨c1, W1, hcv1, hby1, hbl1⟩ := str_bytes wr SB (by omega)
          have HBY1 := Lib.hid hby1
          have HB1 := Lib.hid (HB.out.trans (hbl1.mono HB.out.size))
          have HBL1 := Lib.hid hbl1
          clear hgood hL hSBl hSBs hSDs hSB hSD hLl hne hby1 hbl1 hlt hi hB hD
          go_upto_region 22 with (fail)
          go_wp2_with (refine wpList_convert rfl 9 25 _ rfl (.string SB) _ rfl hcv1 ?_; clear hcv1)
          refine (ClkC.none_any _).mono ?_
          rintro e w2 ⟨⟨r, rfl, hnan⟩, hb2⟩
          have HB2 := Lib.hid (HB1.out.trans (hb2.mono HB1.out.size))
          have HBL2 := Lib.hid hb2
          have HG1 : Hid (Goes (allB L) SD.size r true 0 0 (mbs 0 L) none) := Lib.hid (by
            rw [HDs.out.1]
            exact goes_whole (by have := HDs.out.2.1; omega) L HLL.out.2.2.1 (HGd.out r (fun n _ => ovr_nan _ _ hnan)) (Nat.le_refl _))
          have hbb := HBY1.out
          rw [HLL.out.2.2.2.1] at hbb
          have HBB1 := Lib.hid hbb
          have HA1 := Lib.hid (gall_any (some ⟨wr.heap.size, 0, none⟩) SB.size c1 (allB L) SD.size r _ none w2 (hbb.below (Nat.le_refl _) hb2) (by have := HDs.out; have := HLN.out; omega) (by have := HDs.out; omega) (HI.out.2.up HB2.out) HG1.out)
          clear hbb hb2 HG1 hnan
          go_wp2_with fail
          refine HA1.out.mono ?_
          rintro e w3 ⟨⟨-, pv, ov, oc, rfl, hm, ho⟩ | ⟨c, h, -⟩, hb3⟩
          case inr => cases h
          obtain ⟨R, hR⟩ := itsB_head (nm := nm) (t := t) (f := f) HL.out.1
          obtain ⟨pa, pc, rfl, hget⟩ := hm.get
          obtain ⟨gp, rfl, hgp, hcl⟩ := hget (by rw [HLL.out.1, hR]; intro h; cases h)
          have hml : (mbs 0 L).length = i := by rw [mbs_len, HLL.out.2.1]
          have hdt : dat (mbs 0 L) = allD L := mbs_data 0 L
          rw [hdt] at ho ⊢
          rw [← HDs.out.1] at ho ⊢
          rw [hml] at hcl ⊢
          obtain ⟨f0, f1, f2⟩ := first_cells (nm := nm) (t := t) (f := f) R
          rw [← hR, ← HLL.out.1] at f0 f1 f2
          obtain ⟨X, hX⟩ : ∃ X, X = ClkC.fromU (uT t : Int) := ⟨_, rfl⟩
          have eN : (⟨nm.toArray⟩ : ByteArray) = N := by rw [HNM.out, Array.toArray_toList]
          rw [eN] at f1
          rw [← hX] at f2
          have hpos := HL.out.1
          have k0 := (hcl 0 (by omega)).trans f0
          have k1 := (hcl 1 (by omega)).trans f1
          have k2 := (hcl 2 (by omega)).trans f2
          have HKC := Lib.hid (And.intro k0 (And.intro k1 (And.intro k2 (And.intro hgp (And.intro ho hX)))))
          have HB3 := Lib.hid (HB2.out.trans (hb3.mono HB2.out.size))
          have HBL3 := Lib.hid (HBL2.out.trans (hb3.mono HBL2.out.size))
          have HK : Hid (∀ W, Below w3.heap.size w3 W → Hid (Below w3.heap.size w3 W) ∧ W.cell? ⟨gp, 0, none⟩ = some (.bool true) ∧ W.cell? ⟨gp, 1, none⟩ = some (.string N) ∧ W.cell? ⟨gp, 2, none⟩ = some (.float .f64 X) ∧ (convert 25 9 (.slice ov SD.size oc)).run Tryz.prog W = .ok (.string SD) W) := Lib.hid (by
            intro W hW
            refine ⟨Lib.hid hW, (hW.cell (p := ⟨gp, 0, none⟩) HKC.out.2.2.2.1).trans HKC.out.1, (hW.cell (p := ⟨gp, 1, none⟩) HKC.out.2.2.2.1).trans HKC.out.2.1, (hW.cell (p := ⟨gp, 2, none⟩) HKC.out.2.2.2.1).trans HKC.out.2.2.1, ?_⟩
            have := conv_own (HKC.out.2.2.2.2.1.below (Nat.le_refl _) hW)
            rw [this, HLL.out.2.2.2.2])
          have HK0 : Hid (Hid (Below w3.heap.size w3 w3.drew) ∧ w3.drew.cell? ⟨gp, 0, none⟩ = some (.bool true) ∧ w3.drew.cell? ⟨gp, 1, none⟩ = some (.string N) ∧ w3.drew.cell? ⟨gp, 2, none⟩ = some (.float .f64 X) ∧ (convert 25 9 (.slice ov SD.size oc)).run Tryz.prog w3.drew = .ok (.string SD) w3.drew) := Lib.hid (HK.out _ (Below.refl _ _).drew)
          have HUn : Hid (∀ W, Calls Tryz.prog 14 #[.float .f64 t] W fun e w' => e = .returned (.int .i64 (uT t : Int)) ∧ W = w') := Lib.hid (fun W => by
            have := ClkC.refunix_any t W
            rw [uT_eq] at this
            exact this)
          have HFr : Hid (∀ W, (Hid (Below w3.heap.size w3 W) ∧ W.cell? ⟨gp, 0, none⟩ = some (.bool true) ∧ W.cell? ⟨gp, 1, none⟩ = some (.string N) ∧ W.cell? ⟨gp, 2, none⟩ = some (.float .f64 X) ∧ (convert 25 9 (.slice ov SD.size oc)).run Tryz.prog W = .ok (.string SD) W) → Calls Tryz.prog 13 #[.int .i64 (uT t : Int)] W fun e w' => (∃ r8, e = .returned (.float .f64 r8) ∧ Hid (ClkC.Like X r8)) ∧ Hid (Below w3.heap.size w3 w') ∧ w'.cell? ⟨gp, 0, none⟩ = some (.bool true) ∧ w'.cell? ⟨gp, 1, none⟩ = some (.string N) ∧ w'.cell? ⟨gp, 2, none⟩ = some (.float .f64 X) ∧ (convert 25 9 (.slice ov SD.size oc)).run Tryz.prog w' = .ok (.string SD) w') := Lib.hid (by
            intro W hW
            refine (ClkC.reffromunix_any (uT t : Int) W).mono ?_
            rintro e w' ⟨⟨r8, rfl, hk⟩, hb⟩
            exact ⟨⟨r8, rfl, Lib.hid (by rw [hX]; exact hk)⟩, HK.out _ (hW.1.out.trans (hb.mono hW.1.out.size))⟩)
          have HSm : Hid (∀ W r8, ClkC.Like X r8 → Calls Tryz.prog 12 #[.float .f64 X, .float .f64 r8] W fun e w' => e = .returned (.bool true) ∧ W = w') := Lib.hid (by
            intro W r8 hk
            have := ClkC.refsame_any X r8 W
            rw [like_same hk] at this
            exact this)
          have hii : ((i : Int) != (i : Int)) = false := by simp
          clear hcl f0 f1 f2 hX k0 k1 k2 hm ho hb3 hget hml hdt hR HA1 eN hgp
          go_upto_region 23 with (fail)
          go_cut [157] (fun v wz => v = .bool false ∧ Hid (Below w3.heap.size w3 wz))
          case first =>
            go_region_held3 (fun w' => Hid (Below w3.heap.size w3 w') ∧ w'.cell? ⟨gp, 0, none⟩ = some (.bool true) ∧ w'.cell? ⟨gp, 1, none⟩ = some (.string N) ∧ w'.cell? ⟨gp, 2, none⟩ = some (.float .f64 X) ∧ (convert 25 9 (.slice ov SD.size oc)).run Tryz.prog w' = .ok (.string SD) w') (first | exact ⟨by assumption, by assumption, by assumption, by assumption, by assumption⟩ | exact HK0.out) (first
              | (go_at_call 14; refine (HUn.out _).mono ?_; rintro e w7 ⟨rfl, rfl⟩)
              | (go_at_call 13; refine (HFr.out _ (by first | exact ⟨by assumption, by assumption, by assumption, by assumption, by assumption⟩ | exact HK0.out)).mono ?_; rintro e w8 ⟨⟨r8, rfl, hlk⟩, j1, j2, j3, j4, j5⟩)
              | (go_at_call 12; refine (HSm.out _ _ hlk.out).mono ?_; rintro e w9 ⟨rfl, rfl⟩))
            all_goals (go_wp2_with fail; go_meet)
            all_goals exact ⟨rfl, Lib.hid j1.out⟩
          obtain ⟨rfl, HB4⟩ := hcut
          obtain ⟨w4, rfl⟩ : ∃ w4, w4 = wc := ⟨_, rfl⟩
          have HB5 := Lib.hid (HB3.out.trans (HB4.out.mono HB3.out.size))
          clear HK HK0 HUn HFr HSm HKC HB3 HB4 hii HBL3 HBB1 HBY1 HBL1 HBL2
          -- a byte 0 behind
          obtain ⟨SZ, hSZ⟩ : ∃ SZ : ByteArray, SZ = SB ++ ⟨#[0]⟩ := ⟨_, rfl⟩
          have hSZl : SZ.data.toList = allB L ++ [0] := by
            rw [hSZ, ← HLL.out.2.2.2.1]; simp
          have hSZs : SZ.size = SB.size + 1 := by rw [hSZ]; simp only [ByteArray.size_append]; rfl
          have hzz : ¬ 9223372036854775807 < SB.size + 1 := by have := HDs.out; have := HLN.out; omega
          obtain ⟨c5, W5, hcv5, hby5, hbl5⟩ := str_bytes w4 SZ (by have := HDs.out; have := HLN.out; omega)
          have HG5 : Hid (Goes (allB L ++ [0]) SD.size f1000 true 0 0 (mbs 0 L) (some 2)) := Lib.hid (by
            rw [HDs.out.1]
            exact goes_zero (by have := HDs.out.2.1; omega) L (HGd.out f1000 (fun n hn => ovr_1000 ⟨n, by omega⟩)) (Nat.le_refl _))
          rw [hSZl] at hby5
          have HB6 := Lib.hid (HB5.out.trans (hbl5.mono HB5.out.size))
          have HA5 := Lib.hid (gall_any (some ⟨w4.heap.size, 0, none⟩) SZ.size c5 (allB L ++ [0]) SD.size f1000 _ (some 2) W5 hby5 (by have := HDs.out; have := HLN.out; omega) (by have := HDs.out; omega) (HI.out.2.up HB6.out) HG5.out)
          have hcv6 : (convert 9 25 (.string (SB ++ ⟨#[0]⟩))).run Tryz.prog w4 = .ok (.slice (some ⟨w4.heap.size, 0, none⟩) SZ.size c5) W5 := by rw [← hSZ]; exact hcv5
          clear hSZl hSZs hby5 hbl5 HG5 hSZ hcv5
          go_upto_region 25 with (fail)
          go_wp2_with fail
          refine HA5.out.mono ?_
          rintro e w6 ⟨⟨h, -⟩ | ⟨c, h, -, rfl⟩, hb6⟩
          · cases h
          cases h
          have HB7 := Lib.hid (HB6.out.trans (hb6.mono HB6.out.size))
          clear HA5 hb6 HB6 HB5 hzz
          -- the last byte lacks
          obtain ⟨KK, hKK⟩ : ∃ KK, KK = SB.size - 1 := ⟨_, rfl⟩
          have hSBp : 1 ≤ SB.size := by
            have hdl := HLL.out.2.2.1
            obtain ⟨y, R, hy⟩ := List.exists_cons_of_ne_nil hdl
            have hbl := y.len_eq
            have h2 := HDs.out.2.2
            rw [hy, allB_cons, List.length_append] at h2
            omega
          have hsb : SB.size ≤ 1150 := by have := HDs.out; have := HLN.out; omega
          have eK : IntKind.i64.wrap ((SB.size : Int) - 1) = (KK : Int) := by rw [IntWalk.i64_in _ (by omega)]; omega
          have eK2 : (SB.size : Int) - 1 = (KK : Int) := by omega
          have hkI : (KK : Int) ≤ (SB.size : Int) := by omega
          have eK3 : wrap64 (KK : Int) = (KK : Int) := IntWalk.wrap64_in _ (by omega)
          have eK4 : IntKind.i64.wrap (KK : Int) = (KK : Int) := IntWalk.i64_in _ (by omega)
          obtain ⟨SX, hSX⟩ : ∃ SX : ByteArray, SX = SB.extract 0 KK := ⟨_, rfl⟩
          have hXs : SX.size = KK := by rw [hSX]; simp [ByteArray.size_extract]; omega
          have hXl : SX.data.toList = (allB L).dropLast := by
            rw [← HLL.out.2.2.2.1, hSX, List.dropLast_eq_take, Array.length_toList, hKK]
            simp
            rw [List.dropLast_eq_take, Array.length_toList]
            rfl
          obtain ⟨c7, W7, hcv7, hby7, hbl7⟩ := str_bytes w6 SX (by omega)
          obtain ⟨P7, HG7⟩ : ∃ P7, Hid (Goes ((allB L).dropLast) SD.size f1000 true 0 0 P7 (some 2)) := by
            obtain ⟨L0, y, hy⟩ : ∃ L0 y, L = L0 ++ [y] := ⟨L.dropLast, L.getLast HLL.out.2.2.1, (List.dropLast_concat_getLast HLL.out.2.2.1).symm⟩
            have hgd := HGd.out f1000 (fun n hn => ovr_1000 ⟨n, by omega⟩)
            have hdl : SD.size = (allD L0).length + y.d.length := by rw [HDs.out.1, hy, allD_snoc, List.length_append]
            refine ⟨mbs 0 L0, Lib.hid ?_⟩
            have h := goes_cut (most := SD.size) (ratio := f1000) (by have := HDs.out; omega) L0 y (fun z hz => hgd z (by rw [hy]; exact List.mem_append_left _ hz)) (hgd y (by rw [hy]; simp)) (by omega)
            rw [hy, allB_snoc]
            exact h
          rw [hXl] at hby7
          have HB8 := Lib.hid (HB7.out.trans (hbl7.mono HB7.out.size))
          have HA7 := Lib.hid (gall_any (some ⟨w6.heap.size, 0, none⟩) SX.size c7 ((allB L).dropLast) SD.size f1000 _ (some 2) W7 hby7 (by omega) (by have := HDs.out; omega) (HI.out.2.up HB8.out) HG7.out)
          have hcv8 : (convert 9 25 (.string (SB.extract 0 KK))).run Tryz.prog w6 = .ok (.slice (some ⟨w6.heap.size, 0, none⟩) SX.size c7) W7 := by rw [← hSX]; exact hcv7
          clear hcv6 hcv7 hby7 hbl7 hXl hXs hSX HG7 HB7 hKK hSBp hsb
          go_upto_region 26 with (fail)
          go_wp2_with fail
          refine HA7.out.mono ?_
          rintro e w8 ⟨⟨h, -⟩ | ⟨c, h, -, rfl⟩, hb8⟩
          · cases h
          cases h
          have HB9 := Lib.hid (HB8.out.trans (hb8.mono HB8.out.size))
          clear HA7 hb8 HB8 hcv8 eK eK2 eK3 eK4 hkI
          by_cases hd0 : SD.size = 0
          · have hdI : ¬ (0 : Int) < (SD.size : Int) := by omega
            go_wp2_with fail
            refine (HT.out _).mono ?_
            rintro e w9 ⟨rfl, hb9⟩
            have HBz := Lib.hid (HB9.out.trans (hb9.mono HB9.out.size))
            clear hb9 HB9
            go_wp2_with fail
            go_ret
            exact ⟨rfl, HBz.out⟩
          · have hdI : (0 : Int) < (SD.size : Int) := by omega
            obtain ⟨KD, hKD⟩ : ∃ KD, KD = SD.size - 1 := ⟨_, rfl⟩
            have eD : IntKind.i64.wrap ((SD.size : Int) - 1) = (KD : Int) := by rw [IntWalk.i64_in _ (by have := HDs.out; omega)]; omega
            have eD2 : (SD.size : Int) - 1 = (KD : Int) := by omega
            have eD3 : wrap64 (KD : Int) = (KD : Int) := IntWalk.wrap64_in _ (by have := HDs.out; omega)
            have eD4 : IntKind.i64.wrap (KD : Int) = (KD : Int) := IntWalk.i64_in _ (by have := HDs.out; omega)
            obtain ⟨c9, W9, hcv9, hby9, hbl9⟩ := str_bytes w8 SB (by have := HDs.out; have := HLN.out; omega)
            rw [HLL.out.2.2.2.1] at hby9
            obtain ⟨P9, hP9⟩ := goes_wide (most := KD) (ratio := f1000) (by have := HDs.out; omega) L (HGd.out f1000 (fun n hn => ovr_1000 ⟨n, by omega⟩)) (by have := HDs.out; omega)
            have HBa := Lib.hid (HB9.out.trans (hbl9.mono HB9.out.size))
            have HA9 := Lib.hid (gall_any (some ⟨w8.heap.size, 0, none⟩) SB.size c9 (allB L) KD f1000 _ (some 3) W9 hby9 (by have := HDs.out; have := HLN.out; omega) (by have := HDs.out; omega) (HI.out.2.up HBa.out) hP9)
            clear hP9 hby9 hbl9 HB9 hKD hd0
            go_wp2_with fail
            refine HA9.out.mono ?_
            rintro e wa ⟨⟨h, -⟩ | ⟨c, h, -, rfl⟩, hba⟩
            · cases h
            cases h
            have HBb := Lib.hid (HBa.out.trans (hba.mono HBa.out.size))
            clear HA9 hba HBa hcv9 eD eD2 eD3 eD4
            go_wp2_with fail
            refine (HT.out _).mono ?_
            rintro e w9 ⟨rfl, hb9⟩
            have HBz := Lib.hid (HBb.out.trans (hb9.mono HBb.out.size))
            clear hb9 HBb
            go_wp2_with fail
            go_ret
            exact ⟨rfl, HBz.out⟩
end Go.Proofs.YtilfmmjjiiabgaaGreatDoor.GzC
end
