import Derived.Test.YtilfmmjjiiabgaaGreatDoorRows
import Derived.Test.YtilfmmjjiiabgaaGreatDoorMgAa
import Derived.Test.YtilfmmjjiiabgaaGreatDoorMgAb
import Derived.Lib.BytesEntry
import Derived.Lib.Bytealg
import Derived.Lib.IndexLaws
import Derived.WalkLawsBesides
import Derived.Defers
import Derived.Recover
import Derived.Laws.Pointers

section
/-
  What gzip's headers call of Go's own library: bytes.IndexByte, strings.Contains of one byte.
-/
namespace Go.Proofs.YtilfmmjjiiabgaaGreatDoor.GzC
open Go.RowKit Go.My GzMath

/-- Where a byte 0 stands, as the library tells it. -/
def zerI (l : List UInt8) : Int := if zer l < l.length then (zer l : Int) else -1
theorem indexByte_zer : ∀ l : List UInt8, Go.Lib.indexByte l 0 = zerI l
  | [] => by simp [Go.Lib.indexByte, zerI, zer]
  | c :: l => by
    have ih := indexByte_zer l
    have hz := zer_le l
    unfold Go.Lib.indexByte
    by_cases hc : c = 0
    · subst hc
      simp [zerI, zer]
    · rw [if_neg (by simpa using hc), ih]
      unfold zerI
      rw [show zer (c :: l) = zer l + 1 from by rw [zer, if_neg hc]]
      simp only [List.length_cons]
      by_cases h : zer l < l.length
      · have e1 : ((zer l : Int) == -1) = false := by simp
        simp [h, e1]
      · simp [h]
set_option maxHeartbeats 1000000 in
set_option maxRecDepth 100000 in
theorem index_zero (a : Option Addr) (len cap : Nat) (l : List UInt8) (w : World) (hb : Bytes w a len cap l) :
    Calls Tryz.prog 52 #[.slice a len cap, .int .u8 0] w fun e w' => e = .returned (.int .i64 (zerI l)) ∧ w = w' := by
  have hbytes : ∀ l : List UInt8, Go.Lib.bytesOf (l.map fun c => (c.toNat : Int)) = l := fun l => by
    unfold Go.Lib.bytesOf
    rw [List.map_map]
    conv => rhs; rw [← List.map_id l]
    apply List.map_congr_left
    intro c _
    simp
  by_cases h0 : len = 0
  · have hl : l = [] := List.length_eq_zero_iff.1 (by rw [hb.len_eq, h0])
    subst hl h0
    have hrun : (Extern.BytealgIndexByte.indexByte #[.slice a 0 cap, .int .u8 0]).run Tryz.prog w = .ok (.int .i64 (zerI [])) w := by
      cases a with
      | none => exact Go.Lib.run_indexByteNil (P := Tryz.prog) w 0 cap 0
      | some x =>
        obtain ⟨b, off, sp⟩ := x
        exact Go.Lib.run_indexByteString (P := Tryz.prog) .empty 0 w
    clear hb
    go_enter Tryz.func52, Tryz.ntmps52
    go_wp2_with fail
    rw [run_callFunc_extern Tryz.func71 (by kernel_rfl) (by kernel_rfl) (by kernel_rfl) (e := Extern.BytealgIndexByte.indexByte) (by kernel_rfl), hrun]
    simp only [Result.andThen]
    rw [Oper.upon_value]
    go_wp2_with fail
    go_ret
    exact ⟨rfl, rfl⟩
  · obtain ⟨b, off, rfl⟩ := hb.some_ (by omega)
    have hrun := Go.Lib.run_indexByteSlice (P := Tryz.prog) w b off len cap (l.map fun c => (c.toNat : Int)) (by simp [hb.len_eq]) (fun i hi => by
      rcases hb.at_ with h | ⟨b', off', he, _, hc⟩
      · omega
      · cases he
        rw [hc i (by rw [hb.len_eq]; exact hi)]
        simp [List.getD, List.getElem?_eq_getElem (show i < l.length by rw [hb.len_eq]; exact hi)]) 0
    rw [hbytes, show ((0 : Int).toNat.toUInt8) = 0 from rfl, indexByte_zer] at hrun
    clear hb hbytes
    go_enter Tryz.func52, Tryz.ntmps52
    go_wp2_with fail
    rw [run_callFunc_extern Tryz.func71 (by kernel_rfl) (by kernel_rfl) (by kernel_rfl) (e := Extern.BytealgIndexByte.indexByte) (by kernel_rfl), hrun]
    simp only [Result.andThen]
    rw [Oper.upon_value]
    go_wp2_with fail
    go_ret
    exact ⟨rfl, rfl⟩
set_option maxHeartbeats 1000000 in
set_option maxRecDepth 100000 in
theorem str_zero (s : ByteArray) (w : World) :
    Calls Tryz.prog 63 #[.string s, .int .u8 0] w fun e w' => e = .returned (.int .i64 (zerI s.data.toList)) ∧ w = w' := by
  have hrun := Go.Lib.run_indexByteString (P := Tryz.prog) s 0 w
  rw [show ((0 : Int).toNat.toUInt8) = 0 from rfl, indexByte_zer] at hrun
  go_enter Tryz.func63, Tryz.ntmps63
  go_wp2_with fail
  rw [run_callFunc_extern Tryz.func78 (by kernel_rfl) (by kernel_rfl) (by kernel_rfl) (e := Extern.BytealgIndexByte.indexByte) (by kernel_rfl), hrun]
  simp only [Result.andThen]
  rw [Oper.upon_value]
  go_wp2_with fail
  go_ret
  exact ⟨rfl, rfl⟩
set_option maxRecDepth 100000 in
set_option maxHeartbeats 2000000 in
theorem lite_zero (s : ByteArray) (w : World) :
    Calls Tryz.prog 48 #[.string s, .string ⟨#[0]⟩] w fun e w' => e = .returned (.int .i64 (zerI s.data.toList)) ∧ w = w' := by
  have HQ := Lib.hid (str_zero s w)
  have HK : Hid (([0] == s.toList) = true → zerI s.data.toList = 0) := Lib.hid (fun h => by
    have h1 : [0] = s.data.toList := by rw [← Go.ByteArray.toList_eq]; exact eq_of_beq h
    rw [← h1]; rfl)
  generalize zerI s.data.toList = K at *
  cases hE : ([0] == s.toList)
  · go_enter Tryz.func48, Tryz.ntmps48
    go_wp2_with fail
    refine HQ.out.mono ?_
    rintro e w' ⟨rfl, rfl⟩
    go_wp2_with fail
    go_ret
    exact ⟨rfl, rfl⟩
  · obtain rfl := HK.out hE
    go_enter Tryz.func48, Tryz.ntmps48
    go_wp2_with fail
    go_ret
    exact ⟨rfl, rfl⟩
theorem strindex_zero (s : ByteArray) (w : World) :
    Calls Tryz.prog 35 #[.string s, .string ⟨#[0]⟩] w fun e w' => e = .returned (.int .i64 (zerI s.data.toList)) ∧ w = w' := by
  go_enter Tryz.func35, Tryz.ntmps35
  go_wp2_with fail
  refine (lite_zero s w).mono ?_
  rintro e w' ⟨rfl, rfl⟩
  go_wp2_with fail
  go_ret
  exact ⟨rfl, rfl⟩
/-- Does a byte 0 stand in it? -/
def hasZ (l : List UInt8) : Bool := decide (zer l < l.length)
theorem contains_zero (s : ByteArray) (w : World) :
    Calls Tryz.prog 23 #[.string s, .string ⟨#[0]⟩] w fun e w' => e = .returned (.bool (hasZ s.data.toList)) ∧ w = w' := by
  have HZ : Hid (hasZ s.data.toList = decide (zerI s.data.toList ≥ 0)) := Lib.hid (by
    unfold hasZ zerI
    by_cases h : zer s.data.toList < s.data.toList.length
    · rw [if_pos h, decide_eq_true h, decide_eq_true (by omega)]
    · rw [if_neg h, decide_eq_false h, decide_eq_false (by omega)])
  have HQ := Lib.hid (strindex_zero s w)
  rw [HZ.out]
  clear HZ
  generalize zerI s.data.toList = K at *
  go_enter Tryz.func23, Tryz.ntmps23
  go_wp2_with fail
  refine HQ.out.mono ?_
  rintro e w' ⟨rfl, rfl⟩
  go_wp2_with fail
  go_ret
  exact ⟨rfl, rfl⟩
end Go.Proofs.YtilfmmjjiiabgaaGreatDoor.GzC
end

section
namespace Go.Proofs.YtilfmmjjiiabgaaGreatDoor.NumC
open Go.RowKit Go.My NumMath

theorem ret_len {a : Option Addr} {n m c : Nat} (h : n = m) : Ending.returned (.slice a n c) = .returned (.slice a m c) := by rw [h]
theorem fits_yes (n : Int) (w : World) (h1 : 1 ≤ n) (h2 : n ≤ 8) : Calls Tryz.prog 37 #[.int .i64 n] w fun e w' => e = .returned (.bool true) ∧ w = w' := by
  go_enter Tryz.func37, Tryz.ntmps37
  go_wp2
  go_ret
  exact ⟨by simp, rfl⟩
/-- What a fault is, thrown. -/
def fault (c at_ : Int) : Value := .iface 73 (.agg #[.int .i64 c, .int .i64 at_])

set_option maxRecDepth 100000 in
theorem part_neg (a : Option Addr) (len cap : Nat) (at_ n : Int) (w : World) (h1 : 1 ≤ n) (h2 : n ≤ 8) (h : at_ < 0) :
    Calls Tryz.prog 69 #[.slice a len cap, .int .i64 at_, .int .i64 n] w fun e w' => e = .panicked [{ v := fault 5 at_, recovered := false }] ∧ w = w' := by
  go_enter Tryz.func69, Tryz.ntmps69
  go_wp2_with fail
  refine (fits_yes n w h1 h2).mono ?_
  rintro e w' ⟨rfl, rfl⟩
  go_wp2_with fail
  exact ⟨rfl, rfl, rfl⟩
set_option maxRecDepth 100000 in
theorem part_far (a : Option Addr) (len cap : Nat) (at_ n : Int) (w : World) (hl : len ≤ 9223372036854775807) (h1 : 1 ≤ n) (h2 : n ≤ 8) (h0 : 0 ≤ at_) (h : (len : Int) - n < at_) :
    Calls Tryz.prog 69 #[.slice a len cap, .int .i64 at_, .int .i64 n] w fun e w' => e = .panicked [{ v := fault 5 at_, recovered := false }] ∧ w = w' := by
  have hn : decide (at_ < 0) = false := by simpa using h0
  have hy : decide (at_ > (len : Int) - n) = true := by simpa using h
  go_enter Tryz.func69, Tryz.ntmps69
  go_wp2_with fail
  refine (fits_yes n w h1 h2).mono ?_
  rintro e w' ⟨rfl, rfl⟩
  go_wp2_with fail
  exact ⟨rfl, rfl, rfl⟩
theorem part_short (a : Option Addr) (len cap : Nat) (at_ n : Int) (w : World) (hl : len ≤ 9223372036854775807) (h1 : 1 ≤ n) (h2 : n ≤ 8) (h : at_ < 0 ∨ (len : Int) - n < at_) :
    Calls Tryz.prog 69 #[.slice a len cap, .int .i64 at_, .int .i64 n] w fun e w' => e = .panicked [{ v := fault 5 at_, recovered := false }] ∧ w = w' := by
  by_cases h0 : at_ < 0
  · exact part_neg a len cap at_ n w h1 h2 h0
  · exact part_far a len cap at_ n w hl h1 h2 (by omega) (by omega)
set_option maxRecDepth 100000 in
theorem part_ok (b off len cap k n : Nat) (w : World) (hl : len ≤ cap) (hc : cap ≤ 9223372036854775807) (h1 : 1 ≤ n) (h2 : n ≤ 8) (h : k + n ≤ len) :
    Calls Tryz.prog 69 #[.slice (some ⟨b, off, none⟩) len cap, .int .i64 (k : Int), .int .i64 (n : Int)] w fun e w' => e = .returned (.slice (some ⟨b, off + k, none⟩) n (cap - k)) ∧ w = w' := by
  have hn : decide ((k : Int) < 0) = false := by simp
  have hy : decide ((k : Int) > (len : Int) - (n : Int)) = false := by simp; omega
  go_enter Tryz.func69, Tryz.ntmps69
  go_wp2_with fail
  refine (fits_yes n w (by omega) (by omega)).mono ?_
  rintro e w' ⟨rfl, rfl⟩
  go_wp2_with fail
  go_ret
  exact ⟨ret_len (by omega), rfl⟩

theorem caught_nil (w : World) : Calls Tryz.prog 68 #[.nilIface] w fun e w' => e = .returned (.int .i64 0) ∧ w = w' := by
  go_enter Tryz.func68, Tryz.ntmps68
  go_wp2
  go_ret
  exact ⟨rfl, rfl⟩
set_option maxRecDepth 100000 in
theorem caught_fault (c at_ : Int) (w : World) : Calls Tryz.prog 68 #[fault c at_] w fun e w' => e = .returned (.int .i64 c) ∧ Below w.heap.size w w' := by
  unfold fault
  have hta : ∀ w, (Instr.typeAssert (.iface 73 (.agg #[.int .i64 c, .int .i64 at_])) 20 73 true).run Tryz.prog w = .ok (.tuple #[.agg #[.int .i64 c, .int .i64 at_], .bool true]) w := fun _ => by kernel_rfl
  go_enter Tryz.func68, Tryz.ntmps68
  go_wp2
  go_ret
  exact ⟨rfl, (Below.refl _ _).alloc (Nat.le_refl _) _⟩

/-- The error's variable of a face that catches (a block of its own). -/
theorem little_idle (B : Nat) (w : World) (hc : w.cell? ⟨B, 0, none⟩ = some (.int .i64 0)) (hz : w.frozen? ⟨B, 0, none⟩ = false) :
    CallsD Tryz.prog 67 #[.pointer (some ⟨B, 0, none⟩)] .returning w fun e u' w' => e = .returned (.tuple #[]) ∧ u' = .returning ∧ w.setCell ⟨B, 0, none⟩ (.int .i64 0) = w' := by
  refine callsD_of_wpS Tryz.func67 rfl fun c₀ cs hu => ?_
  apply wpS_region
  simp [wpOpsS, go_sem, recoverD, hu, Tryz.ntmps67]
  refine (caught_nil w).mono ?_
  rintro e w' ⟨rfl, rfl⟩
  cases c₀
  simp_all [go_sem, bodyPostS, results, Tryz.results67]
theorem little_caught (B : Nat) (c at_ : Int) (older : List PanicEntry) (w : World) (hB : B < w.heap.size) (hc : w.cell? ⟨B, 0, none⟩ = some (.int .i64 0)) (hz : w.frozen? ⟨B, 0, none⟩ = false) :
    CallsD Tryz.prog 67 #[.pointer (some ⟨B, 0, none⟩)] (.panicking ({ v := fault c at_, recovered := false } :: older)) w fun e u' w' =>
      e = .returned (.tuple #[]) ∧ u' = .panicking ({ v := fault c at_, recovered := true } :: older) ∧ w'.cell? ⟨B, 0, none⟩ = some (.int .i64 c) ∧ Below B w w' := by
  refine callsD_of_wpS Tryz.func67 rfl fun c₀ cs hu => ?_
  apply wpS_region
  simp [wpOpsS, go_sem, recoverD, hu, Tryz.ntmps67]
  refine (caught_fault c at_ w).mono ?_
  rintro e w1 ⟨rfl, hb⟩
  have h1 := hb.cell (p := ⟨B, 0, none⟩) hB
  have h2 := hb.frozen (p := ⟨B, 0, none⟩) hB
  rw [hc] at h1
  rw [hz] at h2
  cases c₀
  simp [go_sem, bodyPostS, results, Tryz.results67, h1, h2]
  exact (hb.mono (Nat.le_of_lt hB)).setCell (p := ⟨B, 0, none⟩) (Nat.le_refl _) _
end Go.Proofs.YtilfmmjjiiabgaaGreatDoor.NumC
end

section
namespace Go.Proofs.YtilfmmjjiiabgaaGreatDoor.NumC
open Go.RowKit Go.My NumMath

theorem mf : ∀ (fn : Fn) (first cap : Array Value) (w : World), (Instr.makeFunc fn first cap).run Tryz.prog w = .ok (.func fn first cap) w := fun _ _ _ _ => rfl

theorem or_shl (v c j : Nat) (hv : v < 256 ^ j) (hc : c < 256) (hj : j < 8) : bits .or .u64 (v : Int) (IntKind.u64.wrap (IntKind.u64.wrap (c : Int) * 2 ^ (8 * j))) = ((v + c * 256 ^ j : Nat) : Int) := by
  have e8 : (256 : Nat) ^ j = 2 ^ (8 * j) := by rw [show (256 : Nat) = 2 ^ 8 from rfl, ← Nat.pow_mul]
  have hle : (2 : Nat) ^ (8 * j) ≤ 2 ^ 56 := Nat.pow_le_pow_right (by omega) (by omega)
  have h1 : c * 2 ^ (8 * j) < 18446744073709551616 := by
    have := Nat.mul_le_mul (show c ≤ 255 by omega) hle
    omega
  generalize hm : c * 2 ^ (8 * j) = m at *
  rw [IntKind.wrap_u64, IntKind.wrap_u64, Int.emod_eq_of_lt (a := (c : Int)) (by omega) (by omega)]
  have ep : ((c : Int) * 2 ^ (8 * j)) = ((m : Nat) : Int) := by rw [← hm, Int.natCast_mul, Int.natCast_pow]; rfl
  rw [ep, Int.emod_eq_of_lt (by omega) (by omega)]
  rw [u64_or_nat _ _ (by rw [e8] at hv; omega) (by omega), e8, hm, ← hm]
  congr 1
  rw [← Nat.shiftLeft_eq, Nat.or_comm]
  rw [← Nat.shiftLeft_add_eq_or_of_lt (by rw [e8] at hv; exact hv)]
  omega

set_option maxRecDepth 100000 in
set_option maxHeartbeats 1000000 in
theorem little_short (a : Option Addr) (len cap : Nat) (at_ n : Int) (w : World) (hl : len ≤ 9223372036854775807) (h1 : 1 ≤ n) (h2 : n ≤ 8) (h : at_ < 0 ∨ (len : Int) - n < at_) :
    Calls Tryz.prog 50 #[.slice a len cap, .int .i64 at_, .int .i64 n] w fun e w' => e = .returned (.tuple #[.int .u64 0, .int .i64 5]) ∧ Below w.heap.size w w' := by
  have hmf := mf
  go_enter_defers Tryz.func50, Tryz.ntmps50
  go_wp2_with fail
  refine (part_short a len cap at_ n _ hl h1 h2 h).mono ?_
  rintro e w' ⟨rfl, rfl⟩
  go_wp2_with fail
  refine leaves_cons (f := 67) (args := #[.pointer (some ⟨w.heap.size, 0, none⟩)]) (by simp) (by simp [go_sem]) ?_
  refine (little_caught w.heap.size 5 at_ [] _ ?_ ?_ ?_).mono ?_
  · simp
  · simp [go_sem]
  · simp [go_sem]
  rintro e u' w'' ⟨rfl, rfl, hc, hb⟩
  simp [Leaves, settle, results, Tryz.results50, go_sem, hc]
  exact ((Below.refl _ _).alloc (Nat.le_refl _) _).trans hb

set_option maxRecDepth 100000 in
set_option maxHeartbeats 1000000 in
theorem little_ok (b off len cap k n : Nat) (l : List UInt8) (w : World) (hb : Bytes w (some ⟨b, off, none⟩) len cap l) (h1 : 1 ≤ n) (h2 : n ≤ 8) (h : k + n ≤ len) :
    Calls Tryz.prog 50 #[.slice (some ⟨b, off, none⟩) len cap, .int .i64 (k : Int), .int .i64 (n : Int)] w fun e w' => e = .returned (.tuple #[.int .u64 ((num false ((l.drop k).take n) : Nat) : Int), .int .i64 0]) ∧ Below w.heap.size w w' := by
  have hl := hb.le_cap
  have hc := hb.cap_le
  have H : Hid (Bytes w (some ⟨b, off + k, none⟩) n (cap - k) ((l.drop k).take n)) := Lib.hid ((hb.drop k (by omega)).take n (by omega))
  clear hb
  generalize (l.drop k).take n = L at *
  have hmf := mf
  go_enter_defers Tryz.func50, Tryz.ntmps50
  go_wp2_with fail
  refine (part_ok b off len cap k n _ hl hc h1 h2 h).mono ?_
  rintro e w' ⟨rfl, rfl⟩
  have HC : Hid (Bytes (w.alloc (.cells #[.int .i64 0] 28)) (some ⟨b, off + k, none⟩) n (cap - k) L) := Lib.hid (H.out.below (Nat.le_refl _) ((Below.refl _ _).alloc (Nat.le_refl _) _))
  have hcode : (w.alloc (.cells #[.int .i64 0] 28)).cell? ⟨w.heap.size, 0, none⟩ = some (.int .i64 0) := by simp [go_sem]
  have hfroz : (w.alloc (.cells #[.int .i64 0] 28)).frozen? ⟨w.heap.size, 0, none⟩ = false := by simp [go_sem]
  have HB : Hid (Below w.heap.size w (w.alloc (.cells #[.int .i64 0] 28))) := Lib.hid ((Below.refl _ _).alloc (Nat.le_refl _) _)
  have hsz : w.heap.size < (w.alloc (.cells #[.int .i64 0] 28)).heap.size := by simp
  generalize w.alloc (.cells #[.int .i64 0] 28) = w1 at *
  generalize hBe : w.heap.size = B at *
  have HE := Lib.hid hBe
  clear hBe
  go_wp2_with fail
  go_loop [6, 16] (fun v i => ∃ k : Nat, k ≤ n ∧ i = .int .i64 k ∧ v = .int .u64 ((num false (L.take k) : Nat) : Int)) (fun _ i => n - (intOf i).toNat)
  case atStart => exact ⟨0, by omega, rfl, rfl⟩
  case round =>
    obtain ⟨j, hj, rfl, rfl⟩ := hrel
    by_cases hlt : j < n
    · obtain ⟨hL, _, _, _, ha⟩ := HC.out
      have hjl : j < L.length := by omega
      have hcell : w1.cell? ⟨b, off + k + j, none⟩ = some (.int .u8 (L[j].toNat : Int)) := by
        rcases ha with h0 | ⟨b', off', he, _, hcc⟩
        · omega
        · cases he
          exact hcc j hjl
      have hv := num_lt false (L.take j)
      rw [List.length_take, Nat.min_eq_left (by omega)] at hv
      have HN := Lib.hid (num_little L j hjl)
      have e := or_shl (num false (L.take j)) L[j].toNat j hv L[j].toNat_lt (by omega)
      clear ha hL hv
      go_wp2
      go_round
      case rel => exact ⟨j + 1, by omega, by go_num, by rw [HN.out, Int.natCast_add, Int.natCast_mul, Int.natCast_pow]; rfl⟩
      case measure => simp [intOf]; omega
    · obtain rfl : j = n := by omega
      rw [List.take_of_length_le (by rw [H.out.len_eq]; omega)]
      have hc1 : (w1.setCell ⟨B, 0, none⟩ (.int .i64 0)).cell? ⟨B, 0, none⟩ = some (.int .i64 0) := World.cell?_setCell_same _ _ _ hcode
      go_wp2
      refine leaves_cons (f := 67) (args := #[.pointer (some ⟨B, 0, none⟩)]) (by simp) (by simp [go_sem]) ?_
      refine (little_idle B _ hc1 ?_).mono ?_
      · simp [hfroz]
      rintro e u' w'' ⟨rfl, rfl, rfl⟩
      simp [Leaves, settle, results, Tryz.results50, go_sem, hcode]
      rw [HE.out]
      exact (HB.out.setCell (p := ⟨B, 0, none⟩) (Nat.le_refl _) _).setCell (p := ⟨B, 0, none⟩) (Nat.le_refl _) _
end Go.Proofs.YtilfmmjjiiabgaaGreatDoor.NumC
end
