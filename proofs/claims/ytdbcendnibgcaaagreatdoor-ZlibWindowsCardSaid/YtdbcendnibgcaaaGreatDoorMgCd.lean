import Derived.Test.YtdbcendnibgcaaaGreatDoorMgBk
import Derived.Test.YtdbcendnibgcaaaGreatDoorMgBm
import Derived.Test.YtdbcendnibgcaaaGreatDoorMgBz
import Derived.Test.YtdbcendnibgcaaaGreatDoorMgCb
import Derived.Test.YtdbcendnibgcaaaGreatDoorMgBq
import Derived.Deep.DeepCutAuto
import Derived.Deep.CutBlock
import Derived.Test.YtdbcendnibgcaaaGreatDoorMgBa
import Derived.Test.YtdbcendnibgcaaaGreatDoorMgBu

section
/-
  ZlibWindows' law.
-/
namespace Go.Proofs.YtdbcendnibgcaaaGreatDoor.ZlC
open Go.RowKit Go.My ZlMath InfC BitMath
open Go.My.NumMath (bytesOf)
open Go.My.AdlerMath (adler adler_lt)

/-- The second byte of a head that says a window. -/
def hb (k : Nat) : Nat := (31 - (8 + 16 * k) * 256 % 31) % 31
theorem hb_ok : ∀ k : Fin 8, zbad (8 + 16 * k.val) (hb k.val) = false ∧ hb k.val < 31 ∧ ((8 + 16 * k.val) * 256 + hb k.val) % 31 = 0 := by decide +kernel
theorem hb_no : ∀ k : Fin 8, ∀ b : Fin 31, b.val < hb k.val → ((8 + 16 * k.val) * 256 + b.val) % 31 ≠ 0 := by decide +kernel
theorem lit_row (E : TypeId) (w : World) (C : Array Value) (l : List UInt8) (hC : C.toList = l.map bv) (hl : l.length ≤ 1000) : Bytes (w.alloc (.cells C E)) (some ⟨w.heap.size, 0, none⟩) l.length l.length l := by
  refine ⟨rfl, Nat.le_refl _, by omega, (fun h => by cases h), .inr ⟨w.heap.size, 0, rfl, by simp, ?_⟩⟩
  intro i hi
  rw [cell_of_row _ _ _ _ _ _ (heap_alloc_new w _), ← Array.getElem?_toList, hC]
  simp [hi, bv]
theorem vrun_value {w : World} {x : Sem Value} {v : Value} {n : Sem Next} (h1 : n = (do let v ← x; pure (Next.value v))) (h2 : x.run Tryz.prog w = .ok v w) : n.run Tryz.prog w = .ok (.value v) w := by
  subst h1
  simp only [Sem.run_bind, h2, Result.andThen_ok, Sem.run_pure]
theorem vstr_add {s t r : ByteArray} (X Y : Operand) (h : ¬ 9223372036854775807 < s.size + t.size) (hr : s ++ t = r) (w : World) : (do eqGuard BinOp.add 9 X Y (.string s) (.string t); binOp BinOp.add 9 (.string s) (.string t)).run Tryz.prog w = .ok (.string r) w := by
  subst hr
  go_simp
/-- Two operations that may come up. -/
theorem ord_two {P : Program} {ops : Array Oper} {Q : Exit → Act → World → Prop} {md : Region.Mode} {S : World → Prop} {i j : Nat} {o p : Oper} {fuel : Nat} {listed : Array Bool} {a : Act} {w : World} (hi : ops[i]? = some o) (hj : ops[j]? = some p) (hr : Region.ready md ops listed = [i, j])
    (hw : Region.wanted o (yielded ops a.tmps) = true) (hv : Region.wanted p (yielded ops a.tmps) = true)
    (h : o.wp P a w (fun a' w' => S w' ∧ wpAnyH P md ops Q S fuel (listed.setIfInBounds i true) a' w') Q)
    (k : p.wp P a w (fun a' w' => S w' ∧ wpAnyH P md ops Q S fuel (listed.setIfInBounds j true) a' w') Q) : wpAnyH P md ops Q S (fuel + 1) listed a w := by
  refine wpAnyH_all hr (by simp) fun q hq => ?_
  have hq2 : q = i ∨ q = j := by simpa using hq
  rcases hq2 with rfl | rfl
  · unfold wpOp
    simp only [hi, hw, if_true]
    exact .inl h
  · unfold wpOp
    simp only [hj, hv, if_true]
    exact .inl k
theorem shl_256 (q : Nat) (h : q ≤ 7) : wrap64 ((256 : Int) * 2 ^ q) = 2 ^ (q + 8) := by
  have : q = 0 ∨ q = 1 ∨ q = 2 ∨ q = 3 ∨ q = 4 ∨ q = 5 ∨ q = 6 ∨ q = 7 := by omega
  rcases this with rfl | rfl | rfl | rfl | rfl | rfl | rfl | rfl <;> decide +kernel
theorem pad_zeros (L : List Bool) : ∃ zs : List Bool, zs.length < 8 ∧ bitsOf (pack L) = L ++ zs := ⟨List.replicate ((8 - L.length % 8) % 8) false, by rw [List.length_replicate]; omega, by rw [bitsOf_pack]; rfl⟩
theorem str_list (l : List UInt8) : (⟨l.toArray⟩ : ByteArray).data.toList = l := by simp
theorem str_size (l : List UInt8) : (⟨l.toArray⟩ : ByteArray).size = l.length := by simp [ByteArray.size]
theorem u64_nat (z : Int) : ∃ u : Nat, IntKind.u64.wrap z = (u : Int) ∧ u < 18446744073709551616 := by
  refine ⟨(z % 18446744073709551616).toNat, ?_, by omega⟩
  simp [IntKind.wrap, IntKind.bits, IntKind.signed]
  omega
set_option maxRecDepth 100000 in
set_option maxHeartbeats 8000000 in
theorem windows_law (i j : Int) (w : World) (hO : Ordr w.heap.size w) :
    Calls Tryz.prog 6 #[.int .i64 i, .int .i64 j] w fun e w' => e = .returned (.bool true) ∧ Below w.heap.size w w' := by
  have HT := Lib.hid (fun W hW => told_any W (hO.up hW))
  have HO := Lib.hid hO
  obtain ⟨u, hu, hu2⟩ := u64_nat i
  obtain ⟨v, hv, hv2⟩ := u64_nat j
  clear hO
  go_enter Tryz.func6, Tryz.ntmps6
  go_upto_region 3 with (fail)
  obtain ⟨k, hk⟩ : ∃ k, k = u % 8 := ⟨_, rfl⟩
  obtain ⟨d, hd⟩ : ∃ d, d = 4 + v % 997 := ⟨_, rfl⟩
  rw [show (4 + (v : Int) % 997) = (d : Int) by omega, show ((u : Int) % 8) = (k : Int) by omega]
  have hk8 : k < 8 := by omega
  have hd1 : 4 ≤ d := by omega
  have hd2 : d ≤ 1000 := by omega
  clear hu hu2 hv hv2 hd hk
  go_upto_region 4 with (at_make; refine wpList_make_bytes _ rfl (.tmp 31) (.tmp 31) 22 rfl w.heap.size 5 Tryz.underlying22 RefC.info5 .i64 .i64 d (by rfl) (by rfl) (by omega) (Nat.le_refl _) ?_)
  intro w1 hown hg
  have hrl : (List.replicate d (0 : UInt8)).length = d := List.length_replicate
  have HB1 := Lib.hid (grown_none_below (Below.refl w.heap.size w) hg (Nat.le_refl _))
  have x0 := RefC.own_cell hown hrl 0 (by rw [hrl]; omega)
  have x1 := RefC.own_free hown hrl 0
  rw [List.getElem_replicate] at x0
  have hO2 := RefC.own_store hown hrl 0 120
  obtain ⟨raw, hraw⟩ : ∃ raw, raw = (List.replicate d (0 : UInt8)).set 0 120 := ⟨_, rfl⟩
  have hrawl : raw.length = d := by rw [hraw, List.length_set, hrl]
  rw [← hraw] at hO2
  have HRAW := Lib.hid hrawl
  have HO1 := Lib.hid hown
  have h0d : (0 : Int) < (d : Int) := by omega
  clear hown hg hrl hraw hrawl
  go_upto_region 5 with (fail)
  obtain ⟨w2, hw2⟩ : ∃ w2, w2 = w1.setCell ⟨w.heap.size, 0, none⟩ (.int .u8 120) := ⟨_, rfl⟩
  have hB2 : Below w.heap.size w w2 := by rw [hw2]; exact HB1.out.setCell (Nat.le_refl _) _
  have hbr : Bytes w2 (some ⟨w.heap.size, 0, none⟩) d d raw := by
    have h := (own_by hO2).2
    rw [hw2]
    exact h
  rw [← hw2]
  have HB2 := Lib.hid hB2
  have HST := Lib.hid (InfC.store_any false (some ⟨w.heap.size, 0, none⟩) d d raw w2 hbr (by omega))
  clear hw2 hB2 hbr x0 x1 HO1 h0d HB1 hO2
  go_wp2_with fail
  refine HST.out.mono ?_
  rintro e w3 ⟨a3, c3, rfl, HO3, HB3'⟩
  have HB3 := Lib.hid (HB2.out.trans (HB3'.out.mono HB2.out.size))
  have HO3' := Lib.hid (own_low HO3.out HB2.out.size)
  clear HST HB2 HB3' HO3
  go_wp2_with fail
  refine (InfC.rreach_any d false w3 (by omega) (by omega)).mono ?_
  rintro e w3' ⟨⟨m, l, x, y, rfl, hfar, hyx, hly, hm29, hx13⟩, rfl⟩
  have hy13 : y < 8192 := Nat.lt_of_lt_of_le hyx (Nat.le_trans (Nat.pow_le_pow_right (by omega) hx13) (by decide))
  have HFAR := Lib.hid (And.intro hfar (And.intro hyx (And.intro hly (And.intro hm29 hx13))))
  have HTA := Lib.hid (ltail_any m x y w3 (by omega) hx13 hy13)
  obtain ⟨NT, hNT⟩ : ∃ NT, NT = (22 + x + 7) / 8 := ⟨_, rfl⟩
  have hNT2 : 3 ≤ NT ∧ NT ≤ 5 := by omega
  rw [← hNT] at HTA
  have HNT := Lib.hid hNT
  clear hfar hyx hly hm29 hx13 hy13 hNT
  go_wp2_with fail
  refine HTA.out.mono ?_
  rintro e w4 ⟨a4, rfl, HO4, HB4'⟩
  have HB4 := Lib.hid (HB3.out.trans (HB4'.out.mono HB3.out.size))
  have HO3b := Lib.hid (HO3'.out.below (Nat.le_refl _) HB4'.out)
  obtain ⟨MT, hMT⟩ : ∃ MT, MT = pack (InfMath.mtail m x y) := ⟨_, rfl⟩
  rw [← hMT] at HO4
  have HMT := Lib.hid hMT
  have HY4 := Lib.hid (own_by HO4.out)
  clear HTA HO3' HB4' HB3 hMT HO4
  go_wp2_with (at_builtin; refine wpList_append_bytes (by rfl) (.tmp 43) (.tmp 47) 22 rfl w.heap.size 5 Tryz.underlying22 RefC.info5 _ (InfMath.stored raw false) rfl HO3b.out a4 NT NT MT rfl HY4.out.2 (by rw [InfMath.stored_len, HRAW.out]; omega) HB4.out.size ?_)
  intro v5 w5 hown hg
  obtain ⟨P, hP⟩ : ∃ P, P = InfMath.stored raw false ++ MT := ⟨_, rfl⟩
  have hPl : P.length = 5 + d + NT := by rw [hP, List.length_append, InfMath.stored_len, HRAW.out, HY4.out.1]
  rw [← hP] at hown
  obtain ⟨a5, c5, rfl, hby5⟩ := hown.bytes
  rw [hPl] at hby5 ⊢
  have HB5 := Lib.hid (grown_below HO3b.out HB4.out hg HB4.out.size)
  have HY5 := Lib.hid hby5
  have HP := Lib.hid (And.intro hP hPl)
  clear hown hg hby5 hP hPl HO3b HB4
  go_wp2_with fail
  obtain ⟨B, hB⟩ : ∃ B, B = WinMath.grow raw d 3 := ⟨_, rfl⟩
  have hBl : B.length = d + 3 := by rw [hB, WinMath.grow_len, HRAW.out]
  have hE : ∃ t, InfMath.Ends (RfC.bgy false 32768 5000 P P.length) t 0 ∧ t.out = B := by
    obtain ⟨f1, f2, f3, f4, f5⟩ := HFAR.out
    obtain ⟨t, h1, h2, -, -⟩ := InfMath.win_ok (S := 32768) (most := 5000) (p := P.length) (raw := raw) (z := List.replicate ((8 - (InfMath.mtail m x y).length % 8) % 8) false) (by rw [HRAW.out]; omega) f1 f2 (by omega) (by rw [HRAW.out]; omega) (by rw [HRAW.out]; omega) (L := MT) (by rw [HMT.out, bitsOf_pack]; rfl)
    rw [← HP.out.1] at h1
    exact ⟨t, h1, by rw [h2, f3, hB]⟩
  have hAll := RfC.all_ends (B := B) false 32768 5000 w5 HY5.out (by omega) (by omega) (by omega) (by omega) hE
  have HALL := Lib.hid hAll
  have HBB := Lib.hid (And.intro hB hBl)
  clear hAll hE hB hBl
  refine HALL.out.mono ?_
  rintro e w6 ⟨v6, z6, rfl, ho6, hb6⟩
  obtain ⟨a6, c6, rfl, hby6⟩ := ho6.bytes
  rw [HBB.out.2] at hby6 ⊢
  have HB6 := Lib.hid (HB5.out.trans (hb6.mono HB5.out.size))
  have HY6 := Lib.hid hby6
  have HY5' := Lib.hid (HY5.out.below (Nat.le_refl _) hb6)
  clear HALL ho6 hby6 hb6 HB5 HY5
  go_wp2_with fail
  obtain ⟨A, hA⟩ : ∃ A, A = 8 + 16 * k := ⟨_, rfl⟩
  rw [show (8 + 16 * (k : Int)) = (A : Int) by omega]
  have hA2 : 8 ≤ A ∧ A ≤ 120 := by omega
  obtain ⟨hz, hb31, hb0⟩ := hb_ok ⟨k, hk8⟩
  have hno := hb_no ⟨k, hk8⟩
  simp only at hz hb31 hb0 hno
  rw [← hA] at hz hb0 hno
  obtain ⟨H, hH⟩ : ∃ H, H = hb k := ⟨_, rfl⟩
  rw [← hH] at hz hb31 hb0 hno
  have HHD := Lib.hid (And.intro hA (And.intro hz (And.intro hb0 hno)))
  clear hA hz hb0 hno hH
  go_loop [17] (fun bv => ∃ b : Nat, b ≤ H ∧ bv = .int .i64 (b : Int)) (fun bv => 31 - (intOf bv).toNat)
  case atStart => exact ⟨0, by omega, rfl⟩
  case round =>
    obtain ⟨b, hbH, rfl⟩ := hrel
    by_cases hlt : b < H
    · have e1 : (((A : Int) * 256 + (b : Int)) % 31 != 0) = true := by
        have h := HHD.out.2.2.2 ⟨b, by omega⟩ hlt
        simp only at h
        simp only [bne_iff_ne, ne_eq]
        omega
      go_wp2_with fail
      go_round
      case rel => exact ⟨b + 1, by omega, by go_num⟩
      case measure => simp [intOf]; omega
    · obtain rfl : b = H := by omega
      have e1 : (((A : Int) * 256 + (b : Int)) % 31 != 0) = false := by
        have h := HHD.out.2.2.1
        simp only [bne_eq_false_iff_eq]
        omega
      clear hlt hbH
      go_upto_region 15 with (fail)
      clear e1
      obtain ⟨T, hT⟩ : ∃ T, T = bytesOf true 4 (adler 1 B) := ⟨_, rfl⟩
      have hTl : T.length = 4 := by rw [hT]; exact Go.My.NumMath.bytesOf_len _ _ _
      obtain ⟨SP, hSP⟩ : ∃ SP : ByteArray, SP = ⟨P.toArray⟩ := ⟨_, rfl⟩
      obtain ⟨SH, hSH⟩ : ∃ SH : ByteArray, SH = ⟨([UInt8.ofNat A, UInt8.ofNat b] : List UInt8).toArray⟩ := ⟨_, rfl⟩
      obtain ⟨ST, hST⟩ : ∃ ST : ByteArray, ST = ⟨T.toArray⟩ := ⟨_, rfl⟩
      obtain ⟨S8, hS8⟩ : ∃ S8 : ByteArray, SH ++ SP = S8 := ⟨_, rfl⟩
      obtain ⟨S7, hS7⟩ : ∃ S7 : ByteArray, S8 ++ ST = S7 := ⟨_, rfl⟩
      have hS7l : S7 = ⟨([UInt8.ofNat A, UInt8.ofNat b] ++ (P ++ T)).toArray⟩ := by
        rw [← hS7, ← hS8, hSH, hSP, hST, str_app, str_app]
        simp
      have z1 : SH.size = 2 := by rw [hSH]; simp [ByteArray.size]
      have z2 : SP.size = 5 + d + NT := by rw [hSP, ← HP.out.2]; simp [ByteArray.size]
      have z3 : ST.size = 4 := by rw [hST, ← hTl]; simp [ByteArray.size]
      have z4 : S8.size = 7 + d + NT := by rw [← hS8, ByteArray.size_append, z1, z2]; omega
      have HA8 : Hid ((UInt8.ofNat A).toNat = A ∧ (UInt8.ofNat b).toNat = b) := Lib.hid ⟨by simp; omega, by simp; omega⟩
      have HCP : Hid (∀ W : World, Bytes W a5 (5 + d + NT) c5 P → (convert 22 9 (.slice a5 (5 + d + NT) c5)).run Tryz.prog W = .ok (.string SP) W) := Lib.hid (fun W h => by
        rw [hSP]
        exact run_string_bytes W 22 9 5 Tryz.underlying22 Tryz.underlying5 Tryz.underlying9 h)
      have HCL : Hid (∀ (W : World) (g : Nat), Bytes W (some ⟨g, 0, none⟩) 2 2 [UInt8.ofNat A, UInt8.ofNat b] → (convert 22 9 (.slice (some ⟨g, 0, none⟩) 2 2)).run Tryz.prog W = .ok (.string SH) W) := Lib.hid (fun W g h => by
        rw [hSH]
        exact run_string_bytes W 22 9 5 Tryz.underlying22 Tryz.underlying5 Tryz.underlying9 h)
      have u2 : IntKind.u8.wrap (A : Int) = (A : Int) := IntWalk.u8_in _ (by omega)
      have u3 : IntKind.u8.wrap (b : Int) = (b : Int) := IntWalk.u8_in _ (by omega)
      have HLR : Hid (∀ W : World, Bytes (W.alloc (.cells #[.int .u8 (IntKind.u8.wrap (A : Int)), .int .u8 (IntKind.u8.wrap (b : Int))] 5)) (some ⟨W.heap.size, 0, none⟩) 2 2 [UInt8.ofNat A, UInt8.ofNat b]) := Lib.hid (fun W => lit_row 5 W _ [UInt8.ofNat A, UInt8.ofNat b] (by rw [u2, u3]; simp [bv, HA8.out.1, HA8.out.2]) (by simp))
      have HAD := Lib.hid (fun (W : World) (h : Bytes W a6 (d + 3) c6 B) => AdlerC.ref_any 1 a6 (d + 3) c6 B W (by omega) h)
      obtain ⟨AD, hAD⟩ : ∃ AD, AD = adler 1 B := ⟨_, rfl⟩
      have had : AD < 4294967296 := by rw [hAD]; exact adler_lt 1 B
      have u1 : IntKind.u64.wrap (AD : Int) = (AD : Int) := IntWalk.u64_in _ (by omega)
      have HBY : Hid (∀ W : World, Bytes W a5 (5 + d + NT) c5 P → Calls Tryz.prog 19 #[.int .u64 (IntKind.u64.wrap (AD : Int)), .int .i64 4, .bool true] W fun e w' => e = .returned (.string ST) ∧ Below W.heap.size W w') := Lib.hid (fun W _ => by
        rw [hST, hT, ← hAD, u1]
        exact NumC.bytes_any AD 4 true W (by omega) (by omega))
      rw [← hAD] at HAD
      have HADT := Lib.hid (And.intro hAD (And.intro hT hTl))
      have k1 : ¬ 9223372036854775807 < SH.size + SP.size := by omega
      have k2 : ¬ 9223372036854775807 < S8.size + ST.size := by omega
      have HS7 := Lib.hid (And.intro hS7l (And.intro z1 (And.intro z2 (And.intro z3 z4))))
      clear hT hTl hSP hSH hST hS7l z1 z2 z3 z4 hAD u1 u2 u3
      go_cut [18] (fun v wd => v = .string S7 ∧ Hid (Below w6.heap.size w6 wd))
      case first =>
        refine wp_region_held (S := fun w' => Below w6.heap.size w6 w') (by kernel_rfl) ?_
        have hS : Below w6.heap.size w6 w6.drew := (Below.refl _ _).drew
        change wpAnyH _ _ _ _ _ 15 _ _ w6.drew
        refine ord_take (i := 0) (d := some 68) (.int .i64 (A : Int)) rfl (by kernel_rfl) (by kernel_rfl) (by kernel_rfl) (by kernel_rfl) (fun _ _ _ h => h) (by kernel_rfl) (fun w _ => by kernel_rfl) hS ?_
        refine ord_take (i := 1) (d := some 69) (.int .u8 (IntKind.u8.wrap (A : Int))) rfl (by kernel_rfl) (by kernel_rfl) (by kernel_rfl) (by kernel_rfl) (fun _ _ _ h => h) (by kernel_rfl) (fun w _ => by kernel_rfl) hS ?_
        refine ord_take (i := 2) (d := some 70) (.int .i64 (b : Int)) rfl (by kernel_rfl) (by kernel_rfl) (by kernel_rfl) (by kernel_rfl) (fun _ _ _ h => h) (by kernel_rfl) (fun w _ => by kernel_rfl) hS ?_
        refine ord_take (i := 3) (d := some 71) (.int .u8 (IntKind.u8.wrap (b : Int))) rfl (by kernel_rfl) (by kernel_rfl) (by kernel_rfl) (by kernel_rfl) (fun _ _ _ h => h) (by kernel_rfl) (fun w _ => by kernel_rfl) hS ?_
        refine ord_take (i := 6) (d := some 74) (.slice a5 (5 + d + NT) c5) rfl (by kernel_rfl) (by kernel_rfl) (by kernel_rfl) (by kernel_rfl) (fun _ _ _ h => h) (by kernel_rfl) (fun w _ => by kernel_rfl) hS ?_
        refine ord_take (i := 7) (d := some 75) (.string SP) rfl (by kernel_rfl) (by kernel_rfl) (by kernel_rfl) (by kernel_rfl) (fun _ _ _ h => h) (by kernel_rfl) (fun w' h => vrun_value (by kernel_rfl) (HCP.out w' (HY5'.out.below (Nat.le_refl _) h))) hS ?_
        refine ord_take (i := 9) (d := some 77) (.slice a6 (d + 3) c6) rfl (by kernel_rfl) (by kernel_rfl) (by kernel_rfl) (by kernel_rfl) (fun _ _ _ h => h) (by kernel_rfl) (fun w _ => by kernel_rfl) hS ?_
        refine ord_two (i := 4) (j := 10) rfl rfl (by kernel_rfl) (by kernel_rfl) (by kernel_rfl) ?_ ?_
        · refine wp_value (d := some 72) (v := .slice (some ⟨w6.drew.heap.size, 0, none⟩) 2 2) (w' := w6.drew.alloc (.cells #[.int .u8 (IntKind.u8.wrap (A : Int)), .int .u8 (IntKind.u8.wrap (b : Int))] 5)) (by kernel_rfl) (by kernel_rfl) ?_
          have hL := HLR.out (w6.drew)
          have hX := hS.alloc hS.size (.cells #[.int .u8 (IntKind.u8.wrap (A : Int)), .int .u8 (IntKind.u8.wrap (b : Int))] 5)
          obtain ⟨x1, hx1⟩ : ∃ x1, x1 = w6.drew.alloc (.cells #[.int .u8 (IntKind.u8.wrap (A : Int)), .int .u8 (IntKind.u8.wrap (b : Int))] 5) := ⟨_, rfl⟩
          rw [← hx1] at hL hX ⊢
          have HL := Lib.hid hL
          have HX := Lib.hid hX
          clear hL hX hS hx1
          refine ⟨HX.out, ?_⟩
          refine held_weaken (S' := fun w' => Below x1.heap.size x1 w') (fun w' h => HX.out.trans (h.mono HX.out.size)) _ _ _ _ ?_
          have hS := Below.refl x1.heap.size x1
          refine ord_take (i := 5) (d := some 73) (.string SH) rfl (by kernel_rfl) (by kernel_rfl) (by kernel_rfl) (by kernel_rfl) (fun _ _ _ h => h) (by kernel_rfl) (fun w' h => vrun_value (by kernel_rfl) (HCL.out w' _ (HL.out.below (Nat.le_refl _) h))) hS ?_
          refine ord_take (i := 8) (d := some 76) (.string S8) rfl (by kernel_rfl) (by kernel_rfl) (by kernel_rfl) (by kernel_rfl) (fun _ _ _ h => h) (by kernel_rfl) (fun w' _ => vrun_value (by kernel_rfl) (vstr_add (.tmp 73) (.tmp 75) k1 hS8 w')) hS ?_
          refine ord_alone (i := 10) rfl (by kernel_rfl) (by kernel_rfl) ?_
          refine wp_enter (d := some 78) (by kernel_rfl) (by kernel_rfl) (HAD.out x1 (HY6.out.below (Nat.le_refl _) HX.out)) ?_
          rintro e x1' ⟨rfl, rfl⟩
          refine ⟨_, rfl, hS, ?_⟩
          refine ord_take (i := 11) (d := some 79) (.int .u64 (IntKind.u64.wrap (AD : Int))) rfl (by kernel_rfl) (by kernel_rfl) (by kernel_rfl) (by kernel_rfl) (fun _ _ _ h => h) (by kernel_rfl) (fun w _ => by kernel_rfl) hS ?_
          refine ord_alone (i := 12) rfl (by kernel_rfl) (by kernel_rfl) ?_
          refine wp_enter (d := some 80) (by kernel_rfl) (by kernel_rfl) (HBY.out x1 (HY5'.out.below (Nat.le_refl _) HX.out)) ?_
          rintro e x2 ⟨rfl, hb2⟩
          clear hS
          have hS := hb2
          refine ⟨_, rfl, hS, ?_⟩
          refine ord_take (i := 13) (d := some 81) (.string S7) rfl (by kernel_rfl) (by kernel_rfl) (by kernel_rfl) (by kernel_rfl) (fun _ _ _ h => h) (by kernel_rfl) (fun w' _ => vrun_value (by kernel_rfl) (vstr_add (.tmp 76) (.tmp 80) k2 hS7 w')) hS ?_
          refine ord_take (i := 14) (d := some 18) (.string S7) rfl (by kernel_rfl) (by kernel_rfl) (by kernel_rfl) (by kernel_rfl) (fun _ _ _ h => h) (by kernel_rfl) (fun w _ => by kernel_rfl) hS ?_
          have HZ := Lib.hid (HX.out.trans (hb2.mono HX.out.size))
          clear hb2
          refine act_as (by simp only [put_lit, List.set_cons_succ, List.set_cons_zero]; rfl) ?_
          refine wpAnyH_done (by kernel_rfl) ?_ _
          clear hS
          go_wp2_with fail
          go_meet
          case rel => exact ⟨rfl, HZ⟩
        · refine wp_enter (d := some 78) (by kernel_rfl) (by kernel_rfl) (HAD.out w6.drew (HY6.out.below (Nat.le_refl _) hS)) ?_
          rintro e x1' ⟨rfl, hx⟩
          obtain rfl := hx.symm
          refine ⟨_, rfl, hS, ?_⟩
          refine ord_take (i := 11) (d := some 79) (.int .u64 (IntKind.u64.wrap (AD : Int))) rfl (by kernel_rfl) (by kernel_rfl) (by kernel_rfl) (by kernel_rfl) (fun _ _ _ h => h) (by kernel_rfl) (fun w _ => by kernel_rfl) hS ?_
          refine ord_two (i := 4) (j := 12) rfl rfl (by kernel_rfl) (by kernel_rfl) (by kernel_rfl) ?_ ?_
          · refine wp_value (d := some 72) (v := .slice (some ⟨w6.drew.heap.size, 0, none⟩) 2 2) (w' := w6.drew.alloc (.cells #[.int .u8 (IntKind.u8.wrap (A : Int)), .int .u8 (IntKind.u8.wrap (b : Int))] 5)) (by kernel_rfl) (by kernel_rfl) ?_
            have hL := HLR.out (w6.drew)
            have hX := hS.alloc hS.size (.cells #[.int .u8 (IntKind.u8.wrap (A : Int)), .int .u8 (IntKind.u8.wrap (b : Int))] 5)
            obtain ⟨x1, hx1⟩ : ∃ x1, x1 = w6.drew.alloc (.cells #[.int .u8 (IntKind.u8.wrap (A : Int)), .int .u8 (IntKind.u8.wrap (b : Int))] 5) := ⟨_, rfl⟩
            rw [← hx1] at hL hX ⊢
            have HL := Lib.hid hL
            have HX := Lib.hid hX
            clear hL hX hS hx1
            refine ⟨HX.out, ?_⟩
            refine held_weaken (S' := fun w' => Below x1.heap.size x1 w') (fun w' h => HX.out.trans (h.mono HX.out.size)) _ _ _ _ ?_
            have hS := Below.refl x1.heap.size x1
            refine ord_take (i := 5) (d := some 73) (.string SH) rfl (by kernel_rfl) (by kernel_rfl) (by kernel_rfl) (by kernel_rfl) (fun _ _ _ h => h) (by kernel_rfl) (fun w' h => vrun_value (by kernel_rfl) (HCL.out w' _ (HL.out.below (Nat.le_refl _) h))) hS ?_
            refine ord_take (i := 8) (d := some 76) (.string S8) rfl (by kernel_rfl) (by kernel_rfl) (by kernel_rfl) (by kernel_rfl) (fun _ _ _ h => h) (by kernel_rfl) (fun w' _ => vrun_value (by kernel_rfl) (vstr_add (.tmp 73) (.tmp 75) k1 hS8 w')) hS ?_
            refine ord_alone (i := 12) rfl (by kernel_rfl) (by kernel_rfl) ?_
            refine wp_enter (d := some 80) (by kernel_rfl) (by kernel_rfl) (HBY.out x1 (HY5'.out.below (Nat.le_refl _) HX.out)) ?_
            rintro e x2 ⟨rfl, hb2⟩
            clear hS
            have hS := hb2
            refine ⟨_, rfl, hS, ?_⟩
            refine ord_take (i := 13) (d := some 81) (.string S7) rfl (by kernel_rfl) (by kernel_rfl) (by kernel_rfl) (by kernel_rfl) (fun _ _ _ h => h) (by kernel_rfl) (fun w' _ => vrun_value (by kernel_rfl) (vstr_add (.tmp 76) (.tmp 80) k2 hS7 w')) hS ?_
            refine ord_take (i := 14) (d := some 18) (.string S7) rfl (by kernel_rfl) (by kernel_rfl) (by kernel_rfl) (by kernel_rfl) (fun _ _ _ h => h) (by kernel_rfl) (fun w _ => by kernel_rfl) hS ?_
            have HZ := Lib.hid (HX.out.trans (hb2.mono HX.out.size))
            clear hb2
            refine act_as (by simp only [put_lit, List.set_cons_succ, List.set_cons_zero]; rfl) ?_
            refine wpAnyH_done (by kernel_rfl) ?_ _
            clear hS
            go_wp2_with fail
            go_meet
            case rel => exact ⟨rfl, HZ⟩
          · refine wp_enter (d := some 80) (by kernel_rfl) (by kernel_rfl) (HBY.out w6.drew (HY5'.out.below (Nat.le_refl _) hS)) ?_
            rintro e x2 ⟨rfl, hb2⟩
            have HX2 := Lib.hid (hS.trans hb2)
            clear hS hb2
            have hS := HX2.out
            refine ⟨_, rfl, hS, ?_⟩
            refine ord_alone (i := 4) rfl (by kernel_rfl) (by kernel_rfl) ?_
            refine wp_value (d := some 72) (v := .slice (some ⟨x2.heap.size, 0, none⟩) 2 2) (w' := x2.alloc (.cells #[.int .u8 (IntKind.u8.wrap (A : Int)), .int .u8 (IntKind.u8.wrap (b : Int))] 5)) (by kernel_rfl) (by kernel_rfl) ?_
            have hL := HLR.out (x2)
            have hX := hS.alloc hS.size (.cells #[.int .u8 (IntKind.u8.wrap (A : Int)), .int .u8 (IntKind.u8.wrap (b : Int))] 5)
            obtain ⟨x3, hx3⟩ : ∃ x3, x3 = x2.alloc (.cells #[.int .u8 (IntKind.u8.wrap (A : Int)), .int .u8 (IntKind.u8.wrap (b : Int))] 5) := ⟨_, rfl⟩
            rw [← hx3] at hL hX ⊢
            have HL := Lib.hid hL
            have HX := Lib.hid hX
            clear hL hX hS hx3
            refine ⟨HX.out, ?_⟩
            refine held_weaken (S' := fun w' => Below x3.heap.size x3 w') (fun w' h => HX.out.trans (h.mono HX.out.size)) _ _ _ _ ?_
            have hS := Below.refl x3.heap.size x3
            refine ord_take (i := 5) (d := some 73) (.string SH) rfl (by kernel_rfl) (by kernel_rfl) (by kernel_rfl) (by kernel_rfl) (fun _ _ _ h => h) (by kernel_rfl) (fun w' h => vrun_value (by kernel_rfl) (HCL.out w' _ (HL.out.below (Nat.le_refl _) h))) hS ?_
            refine ord_take (i := 8) (d := some 76) (.string S8) rfl (by kernel_rfl) (by kernel_rfl) (by kernel_rfl) (by kernel_rfl) (fun _ _ _ h => h) (by kernel_rfl) (fun w' _ => vrun_value (by kernel_rfl) (vstr_add (.tmp 73) (.tmp 75) k1 hS8 w')) hS ?_
            refine ord_take (i := 13) (d := some 81) (.string S7) rfl (by kernel_rfl) (by kernel_rfl) (by kernel_rfl) (by kernel_rfl) (fun _ _ _ h => h) (by kernel_rfl) (fun w' _ => vrun_value (by kernel_rfl) (vstr_add (.tmp 76) (.tmp 80) k2 hS7 w')) hS ?_
            refine ord_take (i := 14) (d := some 18) (.string S7) rfl (by kernel_rfl) (by kernel_rfl) (by kernel_rfl) (by kernel_rfl) (fun _ _ _ h => h) (by kernel_rfl) (fun w _ => by kernel_rfl) hS ?_
            refine act_as (by simp only [put_lit, List.set_cons_succ, List.set_cons_zero]; rfl) ?_
            refine wpAnyH_done (by kernel_rfl) ?_ _
            clear hS
            go_wp2_with fail
            go_meet
            case rel => exact ⟨rfl, HX⟩
      obtain ⟨rfl, HBC6⟩ := hcut
      have HBC := Lib.hid (HB6.out.trans (HBC6.out.mono HB6.out.size))
      have HY9 := Lib.hid (HY6.out.below (Nat.le_refl _) HBC6.out)
      obtain ⟨d9, v9, hv9, hr9, hl9⟩ := str_bytes wc S7 (by rw [HS7.out.1, str_size, List.length_append, List.length_append, HP.out.2, HADT.out.2.2]; simp; omega)
      have h7l : S7.size = 11 + d + NT := by rw [HS7.out.1, str_size, List.length_append, List.length_append, HP.out.2, HADT.out.2.2]; simp; omega
      rw [h7l] at hv9 hr9
      rw [show S7.data.toList = UInt8.ofNat A :: UInt8.ofNat b :: (P ++ T) by rw [HS7.out.1, str_list]; rfl] at hr9
      have HB9 := Lib.hid (HBC.out.trans (hl9.mono HBC.out.size))
      have HYv := Lib.hid (HY9.out.below (Nat.le_refl _) hl9)
      have hzb : zbad (UInt8.ofNat A).toNat (UInt8.ofNat b).toNat = false := by rw [HA8.out.1, HA8.out.2]; exact HHD.out.2.1
      have hwn : 2 ^ ((UInt8.ofNat A).toNat / 16 + 8) = 2 ^ (k + 8) := by rw [HA8.out.1, HHD.out.1]; congr 2; omega
      obtain ⟨zs, hzs, hbp⟩ := pad_zeros (InfMath.mtail m x y)
      have hX : bitsOf (MT ++ T) = InfMath.mtail m x y ++ (zs ++ bitsOf T) := by rw [bitsOf_append, HMT.out, hbp, List.append_assoc]
      have hPT : P ++ T = InfMath.stored raw false ++ (MT ++ T) := by rw [HP.out.1, List.append_assoc]
      obtain ⟨f1', f2', f3', f4', f5'⟩ := HFAR.out
      obtain ⟨WN, hWN⟩ : ∃ WN : Nat, WN = 2 ^ (k + 8) := ⟨_, rfl⟩
      have hWN2 : 0 < WN := by rw [hWN]; exact Nat.pow_pos (by omega)
      have HSH := Lib.hid (And.intro (shl_256 k (by omega)) (show ((2 : Int) ^ (k + 8)) = (WN : Int) by rw [hWN]; exact (Int.natCast_pow 2 (k + 8)).symm))
      rw [← hWN] at hwn
      have HF := Lib.hid (And.intro h7l trivial)
      clear hWN
      by_cases hlt : WN < d
      · obtain ⟨t, ht⟩ := InfMath.win_bad (S := WN) (most := 5000) (p := (P ++ T).length) (raw := raw) (z := zs ++ bitsOf T) (by rw [HRAW.out]; omega) f1' f2' (by omega) (by rw [HRAW.out]; omega) (by rw [HRAW.out]; omega) hX
        rw [← hPT, ← hwn] at ht
        have hA := zall_any _ _ _ (UInt8.ofNat A) (UInt8.ofNat b) (P ++ T) 5000 f5000 2 t v9 hr9 (by omega) hzb (by omega) (HO.out.up HB9.out) ht (fun h => absurd h (by decide))
        rw [show res (P ++ T) f5000 2 t = 2 by unfold res; rw [if_pos (by decide), if_neg (by decide)]] at hA
        have HA := Lib.hid hA
        clear hA ht hr9 hl9 hzb hwn hbp hX hPT f1' f2' f3' f4' f5' h7l
        go_wp2_with fail
        refine HA.out.mono ?_
        rintro e w10 ⟨⟨h, -⟩ | ⟨-, rfl⟩, hb10⟩
        · exact absurd h (by decide)
        have HB10 := Lib.hid (HB9.out.trans (hb10.out.mono HB9.out.size))
        clear HA hb10 hv9
        have hsh := HSH.out.1
        rw [HSH.out.2] at hsh
        have hgt : (WN : Int) < (d : Int) := by clear hsh; omega
        go_wp2_with fail
        refine (HT.out _ HB10.out).mono ?_
        rintro e w11 ⟨rfl, hb11⟩
        have HB11 := Lib.hid (HB10.out.trans (hb11.mono HB10.out.size))
        clear hb11 HB10 HB9
        go_wp2_with fail
        go_ret
        exact ⟨rfl, HB11.out⟩
      · obtain ⟨t, ht, hto, htb, htp⟩ := InfMath.win_ok (S := WN) (most := 5000) (p := (P ++ T).length) (raw := raw) (z := zs ++ bitsOf T) (by rw [HRAW.out]; omega) f1' f2' (by omega) (by rw [HRAW.out]; omega) (by rw [HRAW.out]; omega) hX
        rw [← hPT, ← hwn] at ht
        have htB : t.out = B := by rw [hto, f3', HBB.out.1]
        have hus : usd t = 5 + d + NT := by
          have h1 := HP.out.2
          have h2 := HADT.out.2.2
          unfold usd
          rw [htp, htb, List.length_append, List.length_append, bitsOf_len, h1, h2]
          omega
        have hres : res (P ++ T) f5000 0 t = 0 := by
          have h1 := HP.out.2
          obtain ⟨n3, n5⟩ := hNT2
          have h5 := ovr_5000 ⟨d, by omega⟩ ⟨NT - 3, by omega⟩
          simp only at h5
          rw [show 8 + d + (NT - 3) = 5 + d + NT by omega] at h5
          unfold res
          rw [if_neg (fun h => h rfl), htB, HBB.out.2, hus, h5, if_neg (by decide), ← h1, List.drop_left, if_pos HADT.out.2.1]
        have hA := zall_any _ _ _ (UInt8.ofNat A) (UInt8.ofNat b) (P ++ T) 5000 f5000 0 t v9 hr9 (by omega) hzb (by omega) (HO.out.up HB9.out) ht (fun _ => by rw [hus, List.length_append, HP.out.2]; omega)
        rw [hres, htB, hus, HBB.out.2] at hA
        have HA := Lib.hid hA
        clear hA ht hto htb htp htB hus hres hr9 hl9 hzb hwn hbp hX hPT f1' f2' f3' f4' f5' h7l
        go_wp2_with fail
        refine HA.out.mono ?_
        rintro e w10 ⟨⟨-, oa, oc, rfl, HOx⟩ | ⟨h, -⟩, hb10⟩
        case inr => exact absurd rfl h
        have HB10 := Lib.hid (HB9.out.trans (hb10.out.mono HB9.out.size))
        have HY10 := Lib.hid ((own_by HOx.out).2)
        clear HOx
        have HW10 := Lib.hid (HYv.out.below (Nat.le_refl _) hb10.out)
        clear HA hb10 hv9
        have hsh := HSH.out.1
        rw [HSH.out.2] at hsh
        have hgt : ¬ (WN : Int) < (d : Int) := by clear hsh; omega
        go_wp2_with fail
        refine (HT.out _ HB10.out).mono ?_
        rintro e w11 ⟨rfl, hb11⟩
        have HB11 := Lib.hid (HB10.out.trans (hb11.mono HB10.out.size))
        have hcx := run_string_bytes w11 22 9 5 Tryz.underlying22 Tryz.underlying5 Tryz.underlying9 (HY10.out.below (Nat.le_refl _) hb11)
        have hcw := run_string_bytes w11 22 9 5 Tryz.underlying22 Tryz.underlying5 Tryz.underlying9 (HW10.out.below (Nat.le_refl _) hb11)
        obtain ⟨S0, hS0⟩ : ∃ S0 : ByteArray, S0 = ⟨B.toArray⟩ := ⟨_, rfl⟩
        rw [← hS0] at hcx hcw
        have heq : (S0.toList == S0.toList) = true := by simp
        clear hb11 HB10 HB9 hS0 hsh
        go_wp2_with fail
        go_ret
        exact ⟨rfl, HB11.out⟩
end Go.Proofs.YtdbcendnibgcaaaGreatDoor.ZlC
end
