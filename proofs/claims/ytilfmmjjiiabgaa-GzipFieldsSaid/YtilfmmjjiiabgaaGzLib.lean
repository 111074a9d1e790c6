/-
  What gzip's headers call of Go's own library: bytes.IndexByte, strings.Contains of one byte.
-/
import Derived.Test.YtilfmmjjiiabgaaRows
import Derived.Test.YtilfmmjjiiabgaaLib
import Derived.Test.YtilfmmjjiiabgaaGzMath
import Derived.Lib.BytesEntry
import Derived.Lib.Bytealg
import Derived.Lib.IndexLaws
namespace Go.Proofs.Ytilfmmjjiiabgaa.GzC
open Go.RowKit Go.My GzMath

/-- Where a byte 0 stands, as the library tells it. -/
def zerI (l : List UInt8) : Int := if zer l < l.length then (zer l : Int) else -1
theorem indexByte_zer : ∀ l : List UInt8, Go.Lib.indexByte l 0 = zerI l
  | [] => by simp [Go.Lib.indexByte, zerI, zer]
  | c :: l => by
    have ih := indexByte_zer l
    have hz := zer_le l
    unfold Go.Lib.indexByte
    by_cases hc : c = 0
    · subst hc
      simp [zerI, zer]
    · rw [if_neg (by simpa using hc), ih]
      unfold zerI
      rw [show zer (c :: l) = zer l + 1 from by rw [zer, if_neg hc]]
      simp only [List.length_cons]
      by_cases h : zer l < l.length
      · have e1 : ((zer l : Int) == -1) = false := by simp
        simp [h, e1]
      · simp [h]
set_option maxHeartbeats 1000000 in
set_option maxRecDepth 100000 in
theorem index_zero (a : Option Addr) (len cap : Nat) (l : List UInt8) (w : World) (hb : Bytes w a len cap l) :
    Calls Try.prog 43 #[.slice a len cap, .int .u8 0] w fun e w' => e = .returned (.int .i64 (zerI l)) ∧ w = w' := by
  have hbytes : ∀ l : List UInt8, Go.Lib.bytesOf (l.map fun c => (c.toNat : Int)) = l := fun l => by
    unfold Go.Lib.bytesOf
    rw [List.map_map]
    conv => rhs; rw [← List.map_id l]
    apply List.map_congr_left
    intro c _
    simp
  by_cases h0 : len = 0
  · have hl : l = [] := List.length_eq_zero_iff.1 (by rw [hb.len_eq, h0])
    subst hl h0
    have hrun : (Extern.BytealgIndexByte.indexByte #[.slice a 0 cap, .int .u8 0]).run Try.prog w = .ok (.int .i64 (zerI [])) w := by
      cases a with
      | none => exact Go.Lib.run_indexByteNil (P := Try.prog) w 0 cap 0
      | some x =>
        obtain ⟨b, off, sp⟩ := x
        exact Go.Lib.run_indexByteString (P := Try.prog) .empty 0 w
    clear hb
    go_enter Try.func43, Try.ntmps43
    go_wp2_with fail
    rw [run_callFunc_extern Try.func50 (by kernel_rfl) (by kernel_rfl) (by kernel_rfl) (e := Extern.BytealgIndexByte.indexByte) (by kernel_rfl), hrun]
    simp only [Result.andThen]
    rw [Oper.upon_value]
    go_wp2_with fail
    go_ret
    exact ⟨rfl, rfl⟩
  · obtain ⟨b, off, rfl⟩ := hb.some_ (by omega)
    have hrun := Go.Lib.run_indexByteSlice (P := Try.prog) w b off len cap (l.map fun c => (c.toNat : Int)) (by simp [hb.len_eq]) (fun i hi => by
      rcases hb.at_ with h | ⟨b', off', he, _, hc⟩
      · omega
      · cases he
        rw [hc i (by rw [hb.len_eq]; exact hi)]
        simp [List.getD, List.getElem?_eq_getElem (show i < l.length by rw [hb.len_eq]; exact hi)]) 0
    rw [hbytes, show ((0 : Int).toNat.toUInt8) = 0 from rfl, indexByte_zer] at hrun
    clear hb hbytes
    go_enter Try.func43, Try.ntmps43
    go_wp2_with fail
    rw [run_callFunc_extern Try.func50 (by kernel_rfl) (by kernel_rfl) (by kernel_rfl) (e := Extern.BytealgIndexByte.indexByte) (by kernel_rfl), hrun]
    simp only [Result.andThen]
    rw [Oper.upon_value]
    go_wp2_with fail
    go_ret
    exact ⟨rfl, rfl⟩
set_option maxHeartbeats 1000000 in
set_option maxRecDepth 100000 in
theorem str_zero (s : ByteArray) (w : World) :
    Calls Try.prog 53 #[.string s, .int .u8 0] w fun e w' => e = .returned (.int .i64 (zerI s.data.toList)) ∧ w = w' := by
  have hrun := Go.Lib.run_indexByteString (P := Try.prog) s 0 w
  rw [show ((0 : Int).toNat.toUInt8) = 0 from rfl, indexByte_zer] at hrun
  go_enter Try.func53, Try.ntmps53
  go_wp2_with fail
  rw [run_callFunc_extern Try.func59 (by kernel_rfl) (by kernel_rfl) (by kernel_rfl) (e := Extern.BytealgIndexByte.indexByte) (by kernel_rfl), hrun]
  simp only [Result.andThen]
  rw [Oper.upon_value]
  go_wp2_with fail
  go_ret
  exact ⟨rfl, rfl⟩
set_option maxRecDepth 100000 in
set_option maxHeartbeats 2000000 in
theorem lite_zero (s : ByteArray) (w : World) :
    Calls Try.prog 45 #[.string s, .string ⟨#[0]⟩] w fun e w' => e = .returned (.int .i64 (zerI s.data.toList)) ∧ w = w' := by
  have HQ := Lib.hid (str_zero s w)
  have HK : Hid (([0] == s.toList) = true → zerI s.data.toList = 0) := Lib.hid (fun h => by
    have h1 : [0] = s.data.toList := by rw [← Go.ByteArray.toList_eq]; exact eq_of_beq h
    rw [← h1]; rfl)
  generalize zerI s.data.toList = K at *
  cases hE : ([0] == s.toList)
  · go_enter Try.func45, Try.ntmps45
    go_wp2_with fail
    refine HQ.out.mono ?_
    rintro e w' ⟨rfl, rfl⟩
    go_wp2_with fail
    go_ret
    exact ⟨rfl, rfl⟩
  · obtain rfl := HK.out hE
    go_enter Try.func45, Try.ntmps45
    go_wp2_with fail
    go_ret
    exact ⟨rfl, rfl⟩
theorem strindex_zero (s : ByteArray) (w : World) :
    Calls Try.prog 35 #[.string s, .string ⟨#[0]⟩] w fun e w' => e = .returned (.int .i64 (zerI s.data.toList)) ∧ w = w' := by
  go_enter Try.func35, Try.ntmps35
  go_wp2_with fail
  refine (lite_zero s w).mono ?_
  rintro e w' ⟨rfl, rfl⟩
  go_wp2_with fail
  go_ret
  exact ⟨rfl, rfl⟩
/-- Does a byte 0 stand in it? -/
def hasZ (l : List UInt8) : Bool := decide (zer l < l.length)
theorem contains_zero (s : ByteArray) (w : World) :
    Calls Try.prog 23 #[.string s, .string ⟨#[0]⟩] w fun e w' => e = .returned (.bool (hasZ s.data.toList)) ∧ w = w' := by
  have HZ : Hid (hasZ s.data.toList = decide (zerI s.data.toList ≥ 0)) := Lib.hid (by
    unfold hasZ zerI
    by_cases h : zer s.data.toList < s.data.toList.length
    · rw [if_pos h, decide_eq_true h, decide_eq_true (by omega)]
    · rw [if_neg h, decide_eq_false h, decide_eq_false (by omega)])
  have HQ := Lib.hid (strindex_zero s w)
  rw [HZ.out]
  clear HZ
  generalize zerI s.data.toList = K at *
  go_enter Try.func23, Try.ntmps23
  go_wp2_with fail
  refine HQ.out.mono ?_
  rintro e w' ⟨rfl, rfl⟩
  go_wp2_with fail
  go_ret
  exact ⟨rfl, rfl⟩
end Go.Proofs.Ytilfmmjjiiabgaa.GzC
