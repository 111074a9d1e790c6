import Derived.Test.YtdbcendnibgcaaaGreatDoorMgBk
import Derived.Test.YtdbcendnibgcaaaGreatDoorMgBm
import Derived.Test.YtdbcendnibgcaaaGreatDoorMgBa

section
/-
  ZlibHeads' law.
-/
namespace Go.Proofs.YtdbcendnibgcaaaGreatDoor.ZlC
open Go.RowKit Go.My ZlMath InfC

theorem lit_row (E : TypeId) (w : World) (C : Array Value) (l : List UInt8) (hC : C.toList = l.map bv) (hl : l.length ≤ 1000) : Bytes (w.alloc (.cells C E)) (some ⟨w.heap.size, 0, none⟩) l.length l.length l := by
  refine ⟨rfl, Nat.le_refl _, by omega, (fun h => by cases h), .inr ⟨w.heap.size, 0, rfl, by simp, ?_⟩⟩
  intro i hi
  rw [cell_of_row _ _ _ _ _ _ (heap_alloc_new w _), ← Array.getElem?_toList, hC]
  simp [hi, bv]
theorem run_value {w : World} {x : Sem Value} {v : Value} {n : Sem Next} (h1 : n = (do let v ← x; pure (Next.value v))) (h2 : x.run Tryz.prog w = .ok v w) : n.run Tryz.prog w = .ok (.value v) w := by
  subst h1
  simp only [Sem.run_bind, h2, Result.andThen_ok, Sem.run_pure]
theorem str_eq (s : ByteArray) (X Y : Operand) (w : World) : (do eqGuard BinOp.eql 9 X Y (.string s) (.string s); binOp BinOp.eql 9 (.string s) (.string s)).run Tryz.prog w = .ok (.bool true) w := by
  go_simp
theorem int_eq (s : Int) (X Y : Operand) (w : World) : (do eqGuard BinOp.eql 3 X Y (.int .i64 s) (.int .i64 s); binOp BinOp.eql 3 (.int .i64 s) (.int .i64 s)).run Tryz.prog w = .ok (.bool true) w := by
  go_simp
set_option maxRecDepth 100000 in
set_option maxHeartbeats 8000000 in
theorem heads_law (x y : UInt8) (a : Option Addr) (n c : Nat) (packed : List UInt8) (sum : Nat) (w : World) (hb : Bytes w a n c packed) (hs : sum < 4294967296) (hO : Ordr w.heap.size w) :
    Calls Tryz.prog 3 #[.int .u8 (x.toNat : Int), .int .u8 (y.toNat : Int), .slice a n c, .int .u32 (sum : Int)] w fun e w' => e = .returned (.bool true) ∧ Below w.heap.size w w' := by
  have HT := Lib.hid (fun W hW => told_any W (hO.up hW))
  have hlen := hb.len_eq
  have HBY := Lib.hid hb
  clear hO hb
  go_enter Tryz.func3, Tryz.ntmps3
  by_cases h1 : 100 < n
  · clear hlen HBY
    go_wp2_with fail
    refine (HT.out w (Below.refl _ _)).mono ?_
    rintro e w1 ⟨rfl, hb1⟩
    have HB := Lib.hid hb1
    clear hb1
    go_wp2_with fail
    go_ret
    exact ⟨rfl, HB.out⟩
  · have hn : n ≤ 100 := by omega
    have hrow : ∀ W : World, Bytes (W.alloc (.cells #[.int .u8 (x.toNat : Int), .int .u8 (y.toNat : Int)] 5)) (some ⟨W.heap.size, 0, none⟩) 2 2 [x, y] := fun W => lit_row 5 W _ [x, y] (by simp [bv]) (by simp)
    have HR1 := Lib.hid (read_any _ 2 2 [x, y] _ (hrow w))
    have HR2 := Lib.hid (fun W => readz_any _ 2 2 [x, y] _ (hrow W))
    obtain ⟨N, hN⟩ : ∃ N, N = rdN [x, y] := ⟨_, rfl⟩
    obtain ⟨C, hC⟩ : ∃ C, C = rdC [x, y] := ⟨_, rfl⟩
    rw [← hN, ← hC] at HR1 HR2
    clear hN hC hrow h1
    go_wp2_with fail
    have HB0 : Hid (Below w.heap.size w (w.alloc (.cells #[.int .u8 (x.toNat : Int), .int .u8 (y.toNat : Int)] 5))) := Lib.hid ((Below.refl _ _).alloc (Nat.le_refl _) _)
    refine HR1.out.mono ?_
    rintro e w1 ⟨rfl, hb1⟩
    have HB1 := Lib.hid (HB0.out.trans (hb1.mono HB0.out.size))
    clear hb1 HB0 HR1
    go_wp2_with fail
    have HB2 : Hid (Below w.heap.size w (w1.alloc (.cells #[.int .u8 (x.toNat : Int), .int .u8 (y.toNat : Int)] 5))) := Lib.hid (HB1.out.alloc HB1.out.size _)
    refine (HR2.out w1).mono ?_
    rintro e w2 ⟨rfl, hb2⟩
    have HB3 := Lib.hid (HB2.out.trans (hb2.mono HB2.out.size))
    clear hb2 HB2 HB1 HR2
    go_upto_region 5 with (fail)
    obtain ⟨S1, hS1⟩ : ∃ S1 : ByteArray, S1 = ⟨(wrp packed sum).toArray⟩ := ⟨_, rfl⟩
    have hW := fun (W : World) (hW : Below w.heap.size w W) => wrap_any a n c packed sum W (HBY.out.below (Nat.le_refl _) hW) (by omega) hs
    have hZ := fun (W : World) (hW : Below w.heap.size w W) => wrapz_any a n c packed sum W (HBY.out.below (Nat.le_refl _) hW) (by omega) hs
    rw [← hS1] at hZ
    have HW := Lib.hid hW
    have HZ := Lib.hid hZ
    have HS := Lib.hid hS1
    have HTD := Lib.hid (HT.out w2.drew (HB3.out.trans ((Below.refl w2.heap.size w2).drew.mono HB3.out.size)))
    have HL : Hid ((wrp packed sum).length = n + 6) := Lib.hid (by rw [wrp_len]; omega)
    clear hW hZ hS1 HT
    have hsz : S1.size = n + 6 := by rw [HS.out, ← HL.out]; simp [ByteArray.size]
    have HSZ := Lib.hid hsz
    have HB3d := Lib.hid (HB3.out.trans ((Below.refl w2.heap.size w2).drew.mono HB3.out.size))
    have HCV : Hid (∀ (W : World) (a4 : Option Addr) (c4 : Nat), Bytes W a4 (n + 6) c4 (wrp packed sum) → (convert 22 9 (.slice a4 (n + 6) c4)).run Tryz.prog W = .ok (.string S1) W) := Lib.hid (fun W a4 c4 h => by
      rw [HS.out]
      exact run_string_bytes W 22 9 5 Tryz.underlying22 Tryz.underlying5 Tryz.underlying9 h)
    have HOB : Hid (∀ (B : Nat) (W : World) (v : Value), Own 5 B W v (wrp packed sum) → ∃ a4 c4, v = .slice a4 (n + 6) c4 ∧ Bytes W a4 (n + 6) c4 (wrp packed sum)) := Lib.hid (fun B W v h => by
      have := h.bytes
      rwa [HL.out] at this)
    clear hsz
    refine wp_region_held (S := fun w' => Below w2.heap.size w2 w') (by kernel_rfl) ?_
    have hS : Below w2.heap.size w2 w2.drew := (Below.refl _ _).drew
    change wpAnyH _ _ _ _ _ 22 _ _ w2.drew
    refine ord_alone (i := 0) rfl (by kernel_rfl) (by kernel_rfl) ?_
    refine wp_enter (d := some 31) (by kernel_rfl) (by kernel_rfl) HTD.out ?_
    rintro e x1 ⟨rfl, bx1⟩
    refine ⟨_, rfl, ?_⟩
    have X1 := Lib.hid (hS.trans bx1)
    clear bx1 hS
    have hS := X1.out
    refine ⟨hS, ?_⟩
    refine ord_take (i := 1) (d := some 32) (.bool true) rfl (by kernel_rfl) (by kernel_rfl) (by kernel_rfl) (by kernel_rfl) (fun _ _ _ h => h) (by kernel_rfl) (fun w _ => by kernel_rfl) hS ?_
    refine ord_take (i := 2) (d := some 33) (.int .i64 (N : Int)) rfl (by kernel_rfl) (by kernel_rfl) (by kernel_rfl) (by kernel_rfl) (fun _ _ _ h => h) (by kernel_rfl) (fun w _ => by kernel_rfl) hS ?_
    refine ord_take (i := 3) (d := some 34) (.int .i64 (N : Int)) rfl (by kernel_rfl) (by kernel_rfl) (by kernel_rfl) (by kernel_rfl) (fun _ _ _ h => h) (by kernel_rfl) (fun w _ => by kernel_rfl) hS ?_
    refine ord_take (i := 4) (d := some 35) (.bool true) rfl (by kernel_rfl) (by kernel_rfl) (by kernel_rfl) (by kernel_rfl) (fun _ _ _ h => h) (by kernel_rfl) (fun w _ => run_value (by kernel_rfl) (int_eq (N : Int) (.tmp 33) (.tmp 34) w)) hS ?_
    refine ord_take (i := 5) (d := some 36) (.bool true) rfl (by kernel_rfl) (by kernel_rfl) (by kernel_rfl) (by kernel_rfl) (fun _ _ _ h => h) (by kernel_rfl) (fun w _ => by kernel_rfl) hS ?_
    refine ord_take (i := 6) (d := some 37) (.bool true) rfl (by kernel_rfl) (by kernel_rfl) (by kernel_rfl) (by kernel_rfl) (fun _ _ _ h => h) (by kernel_rfl) (fun w _ => by kernel_rfl) hS ?_
    refine ord_take (i := 7) (d := some 38) (.int .i64 (C : Int)) rfl (by kernel_rfl) (by kernel_rfl) (by kernel_rfl) (by kernel_rfl) (fun _ _ _ h => h) (by kernel_rfl) (fun w _ => by kernel_rfl) hS ?_
    refine ord_take (i := 8) (d := some 39) (.int .i64 (C : Int)) rfl (by kernel_rfl) (by kernel_rfl) (by kernel_rfl) (by kernel_rfl) (fun _ _ _ h => h) (by kernel_rfl) (fun w _ => by kernel_rfl) hS ?_
    refine ord_take (i := 9) (d := some 40) (.bool true) rfl (by kernel_rfl) (by kernel_rfl) (by kernel_rfl) (by kernel_rfl) (fun _ _ _ h => h) (by kernel_rfl) (fun w _ => run_value (by kernel_rfl) (int_eq (C : Int) (.tmp 38) (.tmp 39) w)) hS ?_
    refine ord_take (i := 10) (d := some 41) (.bool true) rfl (by kernel_rfl) (by kernel_rfl) (by kernel_rfl) (by kernel_rfl) (fun _ _ _ h => h) (by kernel_rfl) (fun w _ => by kernel_rfl) hS ?_
    refine ord_take (i := 11) (d := some 42) (.bool true) rfl (by kernel_rfl) (by kernel_rfl) (by kernel_rfl) (by kernel_rfl) (fun _ _ _ h => h) (by kernel_rfl) (fun w _ => by kernel_rfl) hS ?_
    refine ord_take (i := 12) (d := some 43) (.slice a n c) rfl (by kernel_rfl) (by kernel_rfl) (by kernel_rfl) (by kernel_rfl) (fun _ _ _ h => h) (by kernel_rfl) (fun w _ => by kernel_rfl) hS ?_
    refine ord_take (i := 13) (d := some 44) (.int .u32 (sum : Int)) rfl (by kernel_rfl) (by kernel_rfl) (by kernel_rfl) (by kernel_rfl) (fun _ _ _ h => h) (by kernel_rfl) (fun w _ => by kernel_rfl) hS ?_
    refine ord_take (i := 16) (d := some 47) (.slice a n c) rfl (by kernel_rfl) (by kernel_rfl) (by kernel_rfl) (by kernel_rfl) (fun _ _ _ h => h) (by kernel_rfl) (fun w _ => by kernel_rfl) hS ?_
    refine ord_take (i := 17) (d := some 48) (.int .u32 (sum : Int)) rfl (by kernel_rfl) (by kernel_rfl) (by kernel_rfl) (by kernel_rfl) (fun _ _ _ h => h) (by kernel_rfl) (fun w _ => by kernel_rfl) hS ?_
    have X1w := Lib.hid (HB3.out.trans (X1.out.mono HB3.out.size))
    refine ord_alone (i := 14) rfl (by kernel_rfl) (by kernel_rfl) ?_
    refine wp_enter (d := some 45) (by kernel_rfl) (by kernel_rfl) (HW.out _ X1w.out) ?_
    rintro e x2 ⟨v2, rfl, ho2, hb2⟩
    obtain ⟨a2, c2, rfl, hy2⟩ := HOB.out _ _ _ ho2
    refine ⟨_, rfl, ?_⟩
    have HY2 := Lib.hid hy2
    have X2 := Lib.hid (X1.out.trans (hb2.mono X1.out.size))
    have X2w := Lib.hid (X1w.out.trans (hb2.mono X1w.out.size))
    clear ho2 hb2 hy2 hS
    refine ⟨X2.out, ?_⟩
    refine held_weaken (S' := fun w' => Below x2.heap.size x2 w') (fun w' h => X2.out.trans (h.mono X2.out.size)) _ _ _ _ ?_
    have hS := Below.refl x2.heap.size x2
    refine ord_take (i := 15) (d := some 46) (.string S1) rfl (by kernel_rfl) (by kernel_rfl) (by kernel_rfl) (by kernel_rfl) (fun _ _ _ h => h) (by kernel_rfl) (fun w' h => run_value (by kernel_rfl) (HCV.out w' a2 c2 (HY2.out.below (Nat.le_refl _) h))) hS ?_
    refine ord_alone (i := 18) rfl (by kernel_rfl) (by kernel_rfl) ?_
    refine wp_enter (d := some 49) (by kernel_rfl) (by kernel_rfl) (HZ.out x2 X2w.out) ?_
    rintro e x3 ⟨rfl, hb3⟩
    refine ⟨_, rfl, ?_⟩
    have X3 := Lib.hid (X2w.out.trans (hb3.mono X2w.out.size))
    clear hS
    have hS := hb3
    refine ⟨hS, ?_⟩
    refine ord_take (i := 19) (d := some 50) (.bool true) rfl (by kernel_rfl) (by kernel_rfl) (by kernel_rfl) (by kernel_rfl) (fun _ _ _ h => h) (by kernel_rfl) (fun w _ => run_value (by kernel_rfl) (str_eq S1 (.tmp 46) (.tmp 49) w)) hS ?_
    refine ord_take (i := 20) (d := some 51) (.bool true) rfl (by kernel_rfl) (by kernel_rfl) (by kernel_rfl) (by kernel_rfl) (fun _ _ _ h => h) (by kernel_rfl) (fun w _ => by kernel_rfl) hS ?_
    refine ord_take (i := 21) (d := some 8) (.bool true) rfl (by kernel_rfl) (by kernel_rfl) (by kernel_rfl) (by kernel_rfl) (fun _ _ _ h => h) (by kernel_rfl) (fun w _ => by kernel_rfl) hS ?_
    refine wpAnyH_done (by kernel_rfl) ?_ _
    clear hS hb3
    generalize hA : Act.put _ (some 8) (Value.bool true) = A
    have h8 : A.tmps.getD 8 undef = .bool true := by rw [← hA]; kernel_rfl
    have hD : A.defers = [] := by rw [← hA]; kernel_rfl
    clear hA
    go_wp2_with fail
    refine bodyPost_ret (results_tmp rfl _ _ _) hD ?_
    exact ⟨by rw [h8], X3.out⟩
end Go.Proofs.YtdbcendnibgcaaaGreatDoor.ZlC
end
