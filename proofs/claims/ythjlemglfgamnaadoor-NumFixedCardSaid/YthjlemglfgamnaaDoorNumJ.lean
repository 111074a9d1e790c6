import Derived.Test.YthjlemglfgamnaaDoorNumR
import Derived.Test.YthjlemglfgamnaaDoorNumP
import Derived.Test.YthjlemglfgamnaaDoorNumZ
import Derived.Test.YthjlemglfgamnaaDoorOrd
namespace Go.Proofs.YthjlemglfgamnaaDoor.NumC
open Go.RowKit Go.My NumMath

/-- What a number of n bytes at a place is, and the error. -/
def numV (big : Bool) (l : List UInt8) (at_ n : Int) : Nat := if n < 1 ∨ 8 < n then 0 else if at_ < 0 ∨ (l.length : Int) - n < at_ then 0 else num big ((l.drop at_.toNat).take n.toNat)
def numE (l : List UInt8) (at_ n : Int) : Nat := if n < 1 ∨ 8 < n then 1 else if at_ < 0 ∨ (l.length : Int) - n < at_ then 5 else 0
theorem little_all (a : Option Addr) (len cap : Nat) (l : List UInt8) (at_ n : Int) (w : World) (hb : Bytes w a len cap l) :
    Calls Tryd.prog 8 #[.slice a len cap, .int .i64 at_, .int .i64 n] w fun e w' => e = .returned (.tuple #[.int .u64 ((numV false l at_ n : Nat) : Int), .int .i64 ((numE l at_ n : Nat) : Int)]) ∧ Below w.heap.size w w' := by
  have hl := hb.len_eq
  have hc := hb.le_cap
  have hm := hb.cap_le
  unfold numV numE
  by_cases h1 : n < 1 ∨ 8 < n
  · rw [if_pos h1, if_pos h1]; exact little_arg a len cap at_ n w h1
  rw [if_neg h1, if_neg h1]
  by_cases h2 : at_ < 0 ∨ (l.length : Int) - n < at_
  · rw [if_pos h2, if_pos h2]; exact little_short a len cap at_ n w (by omega) (by omega) (by omega) (by omega)
  rw [if_neg h2, if_neg h2]
  obtain ⟨b, off, rfl⟩ := hb.some_ (by omega)
  have h := little_ok b off len cap at_.toNat n.toNat l w hb (by omega) (by omega) (by omega)
  rw [show ((at_.toNat : Nat) : Int) = at_ from by omega, show ((n.toNat : Nat) : Int) = n from by omega] at h
  exact h
theorem big_all (a : Option Addr) (len cap : Nat) (l : List UInt8) (at_ n : Int) (w : World) (hb : Bytes w a len cap l) :
    Calls Tryd.prog 10 #[.slice a len cap, .int .i64 at_, .int .i64 n] w fun e w' => e = .returned (.tuple #[.int .u64 ((numV true l at_ n : Nat) : Int), .int .i64 ((numE l at_ n : Nat) : Int)]) ∧ Below w.heap.size w w' := by
  have hl := hb.len_eq
  have hc := hb.le_cap
  have hm := hb.cap_le
  unfold numV numE
  by_cases h1 : n < 1 ∨ 8 < n
  · rw [if_pos h1, if_pos h1]; exact big_arg a len cap at_ n w h1
  rw [if_neg h1, if_neg h1]
  by_cases h2 : at_ < 0 ∨ (l.length : Int) - n < at_
  · rw [if_pos h2, if_pos h2]; exact big_short a len cap at_ n w (by omega) (by omega) (by omega) (by omega)
  rw [if_neg h2, if_neg h2]
  obtain ⟨b, off, rfl⟩ := hb.some_ (by omega)
  have h := big_ok b off len cap at_.toNat n.toNat l w hb (by omega) (by omega) (by omega)
  rw [show ((at_.toNat : Nat) : Int) = at_ from by omega, show ((n.toNat : Nat) : Int) = n from by omega] at h
  exact h
theorem number_all (a : Option Addr) (len cap : Nat) (l : List UInt8) (at_ n : Int) (big : Bool) (w : World) (hb : Bytes w a len cap l) :
    Calls Tryd.prog 9 #[.slice a len cap, .int .i64 at_, .int .i64 n, .bool big] w fun e w' => e = .returned (.tuple #[.int .u64 ((numV big l at_ n : Nat) : Int), .int .i64 ((numE l at_ n : Nat) : Int)]) ∧ w = w' := by
  have hl := hb.len_eq
  have hc := hb.le_cap
  have hm := hb.cap_le
  unfold numV numE
  by_cases h1 : n < 1 ∨ 8 < n
  · rw [if_pos h1, if_pos h1]; exact number_arg a len cap at_ n big w h1
  rw [if_neg h1, if_neg h1]
  by_cases h2 : at_ < 0 ∨ (l.length : Int) - n < at_
  · rw [if_pos h2, if_pos h2]; exact number_short a len cap at_ n big w (by omega) (by omega) (by omega) (by omega)
  rw [if_neg h2, if_neg h2]
  obtain ⟨b, off, rfl⟩ := hb.some_ (by omega)
  have h := number_ok b off len cap at_.toNat n.toNat l big w hb (by omega) (by omega) (by omega)
  rw [show ((at_.toNat : Nat) : Int) = at_ from by omega, show ((n.toNat : Nat) : Int) = n from by omega] at h
  exact h

/-- The bytes that are put. -/
def putB (big : Bool) (n : Int) (v : Nat) : List UInt8 := if n < 1 ∨ 8 < n then [] else bytesOf big n.toNat v
theorem putB_len (big : Bool) (n : Int) (v : Nat) : (putB big n v).length ≤ 8 := by
  unfold putB; split
  · simp
  · rw [bytesOf_len]; omega
theorem putlittle_all (a : Option Addr) (len cap : Nat) (l : List UInt8) (v : Nat) (n : Int) (w : World) (hb : Bytes w a len cap l) (hl : l.length ≤ 1000) :
    Calls Tryd.prog 11 #[.slice a len cap, .int .u64 (v : Int), .int .i64 n] w fun e w' => OwnRet 5 w (l ++ putB false n v) e w' := by
  unfold putB
  by_cases h1 : n < 1 ∨ 8 < n
  · rw [if_pos h1, List.append_nil]; exact putlittle_none a len cap l v n w hb hl h1
  rw [if_neg h1]
  have h := putlittle_any a len cap l v n.toNat w hb hl (by omega) (by omega)
  rw [show ((n.toNat : Nat) : Int) = n from by omega] at h
  exact h
theorem putbig_all (a : Option Addr) (len cap : Nat) (l : List UInt8) (v : Nat) (n : Int) (w : World) (hb : Bytes w a len cap l) (hl : l.length ≤ 1000) :
    Calls Tryd.prog 13 #[.slice a len cap, .int .u64 (v : Int), .int .i64 n] w fun e w' => OwnRet 5 w (l ++ putB true n v) e w' := by
  unfold putB
  by_cases h1 : n < 1 ∨ 8 < n
  · rw [if_pos h1, List.append_nil]; exact putbig_none a len cap l v n w hb hl h1
  rw [if_neg h1]
  have h := putbig_any a len cap l v n.toNat w hb hl (by omega) (by omega)
  rw [show ((n.toNat : Nat) : Int) = n from by omega] at h
  exact h
theorem bytes_all (v : Nat) (n : Int) (big : Bool) (w : World) :
    Calls Tryd.prog 12 #[.int .u64 (v : Int), .int .i64 n, .bool big] w fun e w' => e = .returned (.string ⟨(putB big n v).toArray⟩) ∧ Below w.heap.size w w' := by
  unfold putB
  by_cases h1 : n < 1 ∨ 8 < n
  · rw [if_pos h1]; exact (bytes_none v n big w h1).mono fun e w' ⟨he, hw⟩ => ⟨he, hw ▸ Below.refl _ _⟩
  rw [if_neg h1]
  have h := bytes_any v n.toNat big w (by omega) (by omega)
  rw [show ((n.toNat : Nat) : Int) = n from by omega] at h
  exact h

/-- What an operation's instruction yields is what the operation yields. -/
theorem run_value {w : World} {x : Sem Value} {v : Value} {n : Sem Next} (h1 : n = (do let v ← x; pure (Next.value v))) (h2 : x.run Tryd.prog w = .ok v w) : n.run Tryd.prog w = .ok (.value v) w := by
  subst h1
  simp only [Sem.run_bind, h2, Result.andThen_ok, Sem.run_pure]
theorem str_add {s t r : ByteArray} (X Y : Operand) (h : ¬ 9223372036854775807 < s.size + t.size) (hr : s ++ t = r) (w : World) : (do eqGuard BinOp.add 9 X Y (.string s) (.string t); binOp BinOp.add 9 (.string s) (.string t)).run Tryd.prog w = .ok (.string r) w := by
  subst hr
  go_simp
theorem str_eq (s : ByteArray) (X Y : Operand) (w : World) : (do eqGuard BinOp.eql 9 X Y (.string s) (.string s); binOp BinOp.eql 9 (.string s) (.string s)).run Tryd.prog w = .ok (.bool true) w := by
  go_simp

set_option maxRecDepth 100000 in
set_option maxHeartbeats 40000000 in
theorem fixed_law (a : Option Addr) (len cap : Nat) (l : List UInt8) (at_ n : Int) (v : Nat) (w : World) (hb : Bytes w a len cap l) (hT : Tab w) :
    Calls Tryd.prog 3 #[.slice a len cap, .int .i64 at_, .int .i64 n, .int .u64 (v : Int)] w fun e w' => e = .returned (.bool true) ∧ Below w.heap.size w w' := by
  have HT := Lib.hid hT
  have H := Lib.hid hb
  have hm := hb.cap_le
  have hc := hb.le_cap
  obtain rfl : len = l.length := hb.len_eq.symm
  clear hT hb
  by_cases h : 100 < l.length
  · go_enter Tryd.func3, Tryd.ntmps3
    go_wp2_with fail
    refine (told_any w HT.out).mono ?_
    rintro e w1 ⟨rfl, b1⟩
    go_wp2_with fail
    go_ret
    exact ⟨rfl, b1⟩
  have h100 : l.length ≤ 100 := by omega
  clear h
  go_enter Tryd.func3, Tryd.ntmps3
  go_wp2_with fail
  refine (little_all a l.length cap l at_ n w H.out).mono ?_
  rintro e w1 ⟨rfl, b1⟩
  have H1 := Lib.hid (H.out.below (Nat.le_refl _) b1)
  have B1 := Lib.hid b1
  clear b1
  go_wp2_with fail
  refine (number_all a l.length cap l at_ n false w1 H1.out).mono ?_
  rintro e w2 ⟨rfl, rfl⟩
  go_wp2_with fail
  refine (big_all a l.length cap l at_ n w1 H1.out).mono ?_
  rintro e w2 ⟨rfl, b2⟩
  have H2 := Lib.hid (H1.out.below (Nat.le_refl _) b2)
  have B2 := Lib.hid (B1.out.trans (b2.mono B1.out.size))
  clear b2 H1 B1
  go_wp2_with fail
  refine (number_all a l.length cap l at_ n true w2 H2.out).mono ?_
  rintro e w3 ⟨rfl, rfl⟩
  have k0 := run_string_bytes (P := Tryd.prog) w2 22 9 5 Tryd.underlying22 Tryd.underlying5 Tryd.underlying9 H2.out
  generalize numV false l at_ n = v1 at *
  generalize numV true l at_ n = v2 at *
  generalize numE l at_ n = v3 at *
  have hR1 : (⟨l.toArray⟩ : ByteArray) ++ ⟨(putB false n v).toArray⟩ = ⟨(l ++ putB false n v).toArray⟩ := ba_append _ _
  have hR2 : (⟨l.toArray⟩ : ByteArray) ++ ⟨(putB true n v).toArray⟩ = ⟨(l ++ putB true n v).toArray⟩ := ba_append _ _
  have hSs : (⟨l.toArray⟩ : ByteArray).size ≤ 1000 := by rw [Lib.size_eq]; simp; omega
  have hQ1 : (⟨(putB false n v).toArray⟩ : ByteArray).size ≤ 1000 := by rw [Lib.size_eq]; have := putB_len false n v; simp; omega
  have hQ2 : (⟨(putB true n v).toArray⟩ : ByteArray).size ≤ 1000 := by rw [Lib.size_eq]; have := putB_len true n v; simp; omega
  have cb1 := fun w => bytes_all v n false w
  have cb2 := fun w => bytes_all v n true w
  have hs0 := fun (a : Option Addr) (c : Nat) (w : World) (h : Bytes w a l.length c l) => run_string_bytes (P := Tryd.prog) w 22 9 5 Tryd.underlying22 Tryd.underlying5 Tryd.underlying9 h
  have hs1 := fun (a : Option Addr) (m c : Nat) (w : World) (h : Bytes w a m c (l ++ putB false n v)) => run_string_bytes (P := Tryd.prog) w 22 9 5 Tryd.underlying22 Tryd.underlying5 Tryd.underlying9 h
  have hs2 := fun (a : Option Addr) (m c : Nat) (w : World) (h : Bytes w a m c (l ++ putB true n v)) => run_string_bytes (P := Tryd.prog) w 22 9 5 Tryd.underlying22 Tryd.underlying5 Tryd.underlying9 h
  generalize (⟨(putB false n v).toArray⟩ : ByteArray) = Q1 at *
  generalize (⟨(putB true n v).toArray⟩ : ByteArray) = Q2 at *
  generalize (⟨(l ++ putB false n v).toArray⟩ : ByteArray) = R1 at *
  generalize (⟨(l ++ putB true n v).toArray⟩ : ByteArray) = R2 at *
  generalize (⟨l.toArray⟩ : ByteArray) = S at *
  have hZ1 : ¬ 9223372036854775807 < S.size + Q1.size := by omega
  have hZ2 : ¬ 9223372036854775807 < S.size + Q2.size := by omega
  have HL : Hid (l.length ≤ 140737488355328) := Lib.hid (by omega)
  have HL2 : Hid (l.length ≤ 1000) := Lib.hid (by omega)
  have CB1 := Lib.hid cb1
  have CB2 := Lib.hid cb2
  have HS0 := Lib.hid hs0
  have HS1 := Lib.hid hs1
  have HS2 := Lib.hid hs2
  have HTD : Hid (Tab w2.drew) := Lib.hid (HT.out.below (Nat.le_refl _) (B2.out.drew))
  clear cb1 cb2 hs0 hs1 hs2
  go_wp2_with fail
  clear k0
  generalize (Value.tuple #[Value.int IntKind.u64 (v1 : Int), Value.int IntKind.i64 (v3 : Int)]) = t1 at *
  generalize (Value.tuple #[Value.int IntKind.u64 (v2 : Int), Value.int IntKind.i64 (v3 : Int)]) = t2 at *
  clear hm hc h100 hQ1 hQ2 hSs
  refine wp_region_held (S := fun w' => Below w2.heap.size w2 w') (by kernel_rfl) ?_
  have hS : Below w2.heap.size w2 w2.drew := (Below.refl _ _).drew
  change wpAnyH _ _ _ _ _ 38 _ _ w2.drew
  refine ord_alone (i := 0) rfl (by kernel_rfl) (by kernel_rfl) ?_
  refine wp_enter (d := some 70) (by kernel_rfl) (by kernel_rfl) (told_any w2.drew HTD.out) ?_
  rintro e x1 ⟨rfl, bx1⟩
  refine ⟨_, rfl, ?_⟩
  have X1 := Lib.hid (hS.trans bx1)
  clear bx1 hS
  have hS := X1.out
  refine ⟨hS, ?_⟩
  refine ord_take (i := 1) (d := some 71) (.bool true) rfl (by kernel_rfl) (by kernel_rfl) (by kernel_rfl) (by kernel_rfl) (fun _ _ _ h => h) (by kernel_rfl) (fun w _ => by kernel_rfl) hS ?_
  refine ord_take (i := 3) (d := some 73) (.slice a l.length cap) rfl (by kernel_rfl) (by kernel_rfl) (by kernel_rfl) (by kernel_rfl) (fun _ _ _ h => h) (by kernel_rfl) (fun w _ => by kernel_rfl) hS ?_
  refine ord_take (i := 5) (d := some 75) (.int .u64 (v : Int)) rfl (by kernel_rfl) (by kernel_rfl) (by kernel_rfl) (by kernel_rfl) (fun _ _ _ h => h) (by kernel_rfl) (fun w _ => by kernel_rfl) hS ?_
  refine ord_take (i := 6) (d := some 76) (.int .i64 n) rfl (by kernel_rfl) (by kernel_rfl) (by kernel_rfl) (by kernel_rfl) (fun _ _ _ h => h) (by kernel_rfl) (fun w _ => by kernel_rfl) hS ?_
  refine ord_take (i := 9) (d := some 79) (.string S) rfl (by kernel_rfl) (by kernel_rfl) (by kernel_rfl) (by kernel_rfl) (fun _ _ _ h => h) (by kernel_rfl) (fun w _ => by kernel_rfl) hS ?_
  refine ord_take (i := 10) (d := some 80) (.int .u64 (v : Int)) rfl (by kernel_rfl) (by kernel_rfl) (by kernel_rfl) (by kernel_rfl) (fun _ _ _ h => h) (by kernel_rfl) (fun w _ => by kernel_rfl) hS ?_
  refine ord_take (i := 11) (d := some 81) (.int .i64 n) rfl (by kernel_rfl) (by kernel_rfl) (by kernel_rfl) (by kernel_rfl) (fun _ _ _ h => h) (by kernel_rfl) (fun w _ => by kernel_rfl) hS ?_
  refine ord_alone (i := 2) rfl (by kernel_rfl) (by kernel_rfl) ?_
  refine wp_value (d := some 72) (v := .slice (some ⟨x1.heap.size, 0, none⟩) 0 0) (w' := x1.alloc (.cells #[] 5)) (by kernel_rfl) (by kernel_rfl) ?_
  have Y1 := Lib.hid (X1.out.alloc X1.out.size (.cells #[] 5))
  refine ⟨Y1.out, ?_⟩
  refine ord_alone (i := 4) rfl (by kernel_rfl) (by kernel_rfl) ?_
  refine wp_append_d (d := some 74) (by kernel_rfl) (.tmp 72) (.tmp 73) 22 rfl x1.heap.size 5 Tryd.underlying22 info5 (.slice (some ⟨x1.heap.size, 0, none⟩) 0 0) [] (by kernel_rfl) (Own.empty 5 x1 (Nat.le_refl _)) a l.length cap l (by kernel_rfl) (H2.out.below (Nat.le_refl _) Y1.out) (by rw [List.length_nil, Nat.zero_add]; exact HL.out) (by simp) ?_
  intro v' x2 hown hg
  obtain ⟨a2, c2, rfl, hb2, hw2⟩ := copied hown hg
  have HC2 := Lib.hid hb2
  have X2 := Lib.hid (X1.out.trans (hw2.mono X1.out.size))
  clear hown hg hb2 hw2 hS
  have hS := X2.out
  refine ⟨hS, ?_⟩
  refine ord_alone (i := 7) rfl (by kernel_rfl) (by kernel_rfl) ?_
  refine wp_enter (d := some 77) (by kernel_rfl) (by kernel_rfl) (putlittle_all a2 l.length c2 l v n x2 HC2.out HL2.out) ?_
  rintro e x3 ⟨v3, rfl, ho3, hb3⟩
  obtain ⟨a3, c3, rfl, hy3⟩ := ho3.bytes
  refine ⟨_, rfl, ?_⟩
  have HY3 := Lib.hid hy3
  have X3 := Lib.hid (X2.out.trans (hb3.mono X2.out.size))
  clear ho3 hb3 hy3 hS
  refine ⟨X3.out, ?_⟩
  refine held_weaken (S' := fun w' => Below x3.heap.size x3 w') (fun w' h => X3.out.trans (h.mono X3.out.size)) _ _ _ _ ?_
  have hS := Below.refl x3.heap.size x3
  refine ord_take (i := 8) (d := some 78) (.string R1) rfl (by kernel_rfl) (by kernel_rfl) (by kernel_rfl) (by kernel_rfl) (fun _ _ _ h => h) (by kernel_rfl) (fun w' h => run_value (by kernel_rfl) (HS1.out a3 _ c3 w' (HY3.out.below (Nat.le_refl _) h))) hS ?_
  refine ord_alone (i := 12) rfl (by kernel_rfl) (by kernel_rfl) ?_
  refine wp_enter (d := some 82) (by kernel_rfl) (by kernel_rfl) (CB1.out x3) ?_
  rintro e x4 ⟨rfl, hb4⟩
  refine ⟨_, rfl, ?_⟩
  have X4 := Lib.hid (X3.out.trans (hb4.mono X3.out.size))
  have Z4 := Lib.hid hb4
  clear hb4 hS
  have hS := Z4.out
  refine ⟨hS, ?_⟩
  refine ord_take (i := 13) (d := some 83) (.string R1) rfl (by kernel_rfl) (by kernel_rfl) (by kernel_rfl) (by kernel_rfl) (fun _ _ _ h => h) (by kernel_rfl) (fun w' _ => run_value (by kernel_rfl) (str_add (.tmp 79) (.tmp 82) hZ1 hR1 w')) hS ?_
  refine ord_take (i := 14) (d := some 84) (.bool true) rfl (by kernel_rfl) (by kernel_rfl) (by kernel_rfl) (by kernel_rfl) (fun _ _ _ h => h) (by kernel_rfl) (fun w' _ => run_value (by kernel_rfl) (str_eq R1 (.tmp 78) (.tmp 83) w')) hS ?_
  refine ord_take (i := 15) (d := some 85) (.bool true) rfl (by kernel_rfl) (by kernel_rfl) (by kernel_rfl) (by kernel_rfl) (fun _ _ _ h => h) (by kernel_rfl) (fun w _ => by kernel_rfl) hS ?_
  refine ord_take (i := 16) (d := some 86) (.bool true) rfl (by kernel_rfl) (by kernel_rfl) (by kernel_rfl) (by kernel_rfl) (fun _ _ _ h => h) (by kernel_rfl) (fun w _ => by kernel_rfl) hS ?_
  refine ord_take (i := 18) (d := some 88) (.slice a l.length cap) rfl (by kernel_rfl) (by kernel_rfl) (by kernel_rfl) (by kernel_rfl) (fun _ _ _ h => h) (by kernel_rfl) (fun w _ => by kernel_rfl) hS ?_
  refine ord_take (i := 20) (d := some 90) (.int .u64 (v : Int)) rfl (by kernel_rfl) (by kernel_rfl) (by kernel_rfl) (by kernel_rfl) (fun _ _ _ h => h) (by kernel_rfl) (fun w _ => by kernel_rfl) hS ?_
  refine ord_take (i := 21) (d := some 91) (.int .i64 n) rfl (by kernel_rfl) (by kernel_rfl) (by kernel_rfl) (by kernel_rfl) (fun _ _ _ h => h) (by kernel_rfl) (fun w _ => by kernel_rfl) hS ?_
  refine ord_take (i := 24) (d := some 94) (.string S) rfl (by kernel_rfl) (by kernel_rfl) (by kernel_rfl) (by kernel_rfl) (fun _ _ _ h => h) (by kernel_rfl) (fun w _ => by kernel_rfl) hS ?_
  refine ord_take (i := 25) (d := some 95) (.int .u64 (v : Int)) rfl (by kernel_rfl) (by kernel_rfl) (by kernel_rfl) (by kernel_rfl) (fun _ _ _ h => h) (by kernel_rfl) (fun w _ => by kernel_rfl) hS ?_
  refine ord_take (i := 26) (d := some 96) (.int .i64 n) rfl (by kernel_rfl) (by kernel_rfl) (by kernel_rfl) (by kernel_rfl) (fun _ _ _ h => h) (by kernel_rfl) (fun w _ => by kernel_rfl) hS ?_
  refine ord_alone (i := 17) rfl (by kernel_rfl) (by kernel_rfl) ?_
  refine wp_value (d := some 87) (v := .slice (some ⟨x4.heap.size, 0, none⟩) 0 0) (w' := x4.alloc (.cells #[] 5)) (by kernel_rfl) (by kernel_rfl) ?_
  have Y4 := Lib.hid (X4.out.alloc X4.out.size (.cells #[] 5))
  refine ⟨Z4.out.alloc Z4.out.size (.cells #[] 5), ?_⟩
  refine ord_alone (i := 19) rfl (by kernel_rfl) (by kernel_rfl) ?_
  refine wp_append_d (d := some 89) (by kernel_rfl) (.tmp 87) (.tmp 88) 22 rfl x4.heap.size 5 Tryd.underlying22 info5 (.slice (some ⟨x4.heap.size, 0, none⟩) 0 0) [] (by kernel_rfl) (Own.empty 5 x4 (Nat.le_refl _)) a l.length cap l (by kernel_rfl) (H2.out.below (Nat.le_refl _) Y4.out) (by rw [List.length_nil, Nat.zero_add]; exact HL.out) (by simp) ?_
  intro v' x5 hown hg
  obtain ⟨a5, c5, rfl, hb5, hw5⟩ := copied hown hg
  have HC5 := Lib.hid hb5
  have X5 := Lib.hid (X4.out.trans (hw5.mono X4.out.size))
  have Z5 := Lib.hid (Z4.out.trans (hw5.mono Z4.out.size))
  clear hown hg hb5 hw5 hS
  refine ⟨Z5.out, ?_⟩
  refine ord_alone (i := 22) rfl (by kernel_rfl) (by kernel_rfl) ?_
  refine wp_enter (d := some 92) (by kernel_rfl) (by kernel_rfl) (putbig_all a5 l.length c5 l v n x5 HC5.out HL2.out) ?_
  rintro e x6 ⟨v6, rfl, ho6, hb6⟩
  obtain ⟨a6, c6, rfl, hy6⟩ := ho6.bytes
  refine ⟨_, rfl, ?_⟩
  have HY6 := Lib.hid hy6
  have X6 := Lib.hid (X5.out.trans (hb6.mono X5.out.size))
  have Z6 := Lib.hid (Z5.out.trans (hb6.mono Z5.out.size))
  clear ho6 hb6 hy6
  refine ⟨Z6.out, ?_⟩
  refine held_weaken (S' := fun w' => Below x6.heap.size x6 w') (fun w' h => Z6.out.trans (h.mono Z6.out.size)) _ _ _ _ ?_
  have hS := Below.refl x6.heap.size x6
  refine ord_take (i := 23) (d := some 93) (.string R2) rfl (by kernel_rfl) (by kernel_rfl) (by kernel_rfl) (by kernel_rfl) (fun _ _ _ h => h) (by kernel_rfl) (fun w' h => run_value (by kernel_rfl) (HS2.out a6 _ c6 w' (HY6.out.below (Nat.le_refl _) h))) hS ?_
  refine ord_alone (i := 27) rfl (by kernel_rfl) (by kernel_rfl) ?_
  refine wp_enter (d := some 97) (by kernel_rfl) (by kernel_rfl) (CB2.out x6) ?_
  rintro e x7 ⟨rfl, hb7⟩
  refine ⟨_, rfl, ?_⟩
  have X7 := Lib.hid (X6.out.trans (hb7.mono X6.out.size))
  clear hS
  have hS := hb7
  refine ⟨hS, ?_⟩
  refine ord_take (i := 28) (d := some 98) (.string R2) rfl (by kernel_rfl) (by kernel_rfl) (by kernel_rfl) (by kernel_rfl) (fun _ _ _ h => h) (by kernel_rfl) (fun w' _ => run_value (by kernel_rfl) (str_add (.tmp 94) (.tmp 97) hZ2 hR2 w')) hS ?_
  refine ord_take (i := 29) (d := some 99) (.bool true) rfl (by kernel_rfl) (by kernel_rfl) (by kernel_rfl) (by kernel_rfl) (fun _ _ _ h => h) (by kernel_rfl) (fun w' _ => run_value (by kernel_rfl) (str_eq R2 (.tmp 93) (.tmp 98) w')) hS ?_
  refine ord_take (i := 30) (d := some 100) (.bool true) rfl (by kernel_rfl) (by kernel_rfl) (by kernel_rfl) (by kernel_rfl) (fun _ _ _ h => h) (by kernel_rfl) (fun w _ => by kernel_rfl) hS ?_
  refine ord_take (i := 31) (d := some 101) (.bool true) rfl (by kernel_rfl) (by kernel_rfl) (by kernel_rfl) (by kernel_rfl) (fun _ _ _ h => h) (by kernel_rfl) (fun w _ => by kernel_rfl) hS ?_
  refine ord_take (i := 32) (d := some 102) (.slice a l.length cap) rfl (by kernel_rfl) (by kernel_rfl) (by kernel_rfl) (by kernel_rfl) (fun _ _ _ h => h) (by kernel_rfl) (fun w _ => by kernel_rfl) hS ?_
  refine ord_take (i := 34) (d := some 104) (.string S) rfl (by kernel_rfl) (by kernel_rfl) (by kernel_rfl) (by kernel_rfl) (fun _ _ _ h => h) (by kernel_rfl) (fun w _ => by kernel_rfl) hS ?_
  refine ord_take (i := 33) (d := some 103) (.string S) rfl (by kernel_rfl) (by kernel_rfl) (by kernel_rfl) (by kernel_rfl) (fun _ _ _ h => h) (by kernel_rfl) (fun w' h => run_value (by kernel_rfl) (HS0.out a cap w' (H2.out.below (Nat.le_refl _) (X6.out.trans (h.mono X6.out.size))))) hS ?_
  refine ord_take (i := 35) (d := some 105) (.bool true) rfl (by kernel_rfl) (by kernel_rfl) (by kernel_rfl) (by kernel_rfl) (fun _ _ _ h => h) (by kernel_rfl) (fun w' _ => run_value (by kernel_rfl) (str_eq S (.tmp 103) (.tmp 104) w')) hS ?_
  refine ord_take (i := 36) (d := some 106) (.bool true) rfl (by kernel_rfl) (by kernel_rfl) (by kernel_rfl) (by kernel_rfl) (fun _ _ _ h => h) (by kernel_rfl) (fun w _ => by kernel_rfl) hS ?_
  refine ord_take (i := 37) (d := some 8) (.bool true) rfl (by kernel_rfl) (by kernel_rfl) (by kernel_rfl) (by kernel_rfl) (fun _ _ _ h => h) (by kernel_rfl) (fun w _ => by kernel_rfl) hS ?_
  refine wpAnyH_done (by kernel_rfl) ?_ _
  have B7 := Lib.hid (B2.out.trans (X7.out.mono B2.out.size))
  clear hS hb7
  generalize hA : Act.put _ (some 8) (Value.bool true) = A
  have h8 : A.tmps.getD 8 undef = .bool true := by rw [← hA]; kernel_rfl
  have hD : A.defers = [] := by rw [← hA]; kernel_rfl
  clear hA
  go_wp2_with fail
  refine bodyPost_ret (results_tmp rfl _ _ _) hD ?_
  exact ⟨by rw [h8], B7.out⟩
end Go.Proofs.YthjlemglfgamnaaDoor.NumC
