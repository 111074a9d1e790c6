import Derived.Test.YtdbcendnibgcaaaGreatDoorRows
import Derived.Test.YtdbcendnibgcaaaGreatDoorMgAb
import Derived.Test.YtdbcendnibgcaaaGreatDoorMgBp
import Derived.Deep.DeepCutAuto
import Derived.Deep.CutBlock

section
/-
  The document's own answer for a stored block (stevedoreref13.Store), of few bytes.
-/
namespace Go.Proofs.YtdbcendnibgcaaaGreatDoor.InfC
open Go.RowKit Go.My BitMath RefC

/-- Bytes of a literal. -/
theorem lit_bytes (E : TypeId) (w : World) (C : Array Value) (l : List UInt8) (hC : C.toList = l.map bv) (hl : l.length ≤ 1000) : Bytes (w.alloc (.cells C E)) (some ⟨w.heap.size, 0, none⟩) l.length l.length l := by
  refine ⟨rfl, Nat.le_refl _, by omega, (fun h => by cases h), .inr ⟨w.heap.size, 0, rfl, by simp, ?_⟩⟩
  intro i hi
  rw [cell_of_row _ _ _ _ _ _ (heap_alloc_new w _), ← Array.getElem?_toList, hC]
  simp [hi, bv]
theorem u8_not (n : Nat) (h : n < 256) : bits .xor .u8 255 (n : Int) = ((255 - n : Nat) : Int) := by
  have : ∀ k : Fin 256, bits .xor .u8 255 (k.val : Int) = ((255 - k.val : Nat) : Int) := by decide +kernel
  exact this ⟨n, h⟩
def headOf (c : UInt8) (len : Nat) : List UInt8 := [c, UInt8.ofNat len, UInt8.ofNat (len / 256), UInt8.ofNat (255 - len % 256), UInt8.ofNat (255 - len / 256)]
theorem head_cells (c : UInt8) (len : Nat) (h : len < 65536) : (#[Value.int .u8 (c.toNat : Int), .int .u8 ((len : Int) % 256), .int .u8 ((len : Int) / 256), .int .u8 (bits .xor .u8 255 ((len : Int) % 256)), .int .u8 (bits .xor .u8 255 ((len : Int) / 256))] : Array Value).toList = (headOf c len).map bv := by
  have e1 : (len : Int) % 256 = ((len % 256 : Nat) : Int) := by omega
  have e2 : (len : Int) / 256 = ((len / 256 : Nat) : Int) := by omega
  rw [e1, e2, u8_not _ (by omega), u8_not _ (by omega)]
  unfold headOf bv
  simp only [List.map_cons, List.map_nil, UInt8.toNat_ofNat']
  rw [Nat.mod_eq_of_lt (show len / 256 < 2 ^ 8 by omega), Nat.mod_eq_of_lt (show 255 - len % 256 < 2 ^ 8 by omega), Nat.mod_eq_of_lt (show 255 - len / 256 < 2 ^ 8 by omega)]

set_option maxRecDepth 100000 in
set_option maxHeartbeats 2000000 in
theorem store_any (last : Bool) (a : Option Addr) (len cap : Nat) (l : List UInt8) (w : World) (hb : Bytes w a len cap l) (hl : len ≤ 60000) :
    Calls Tryz.prog 14 #[.slice a len cap, .bool last] w fun e w' => ∃ a' c', e = .returned (.slice a' (5 + len) c') ∧ Hid (Own 5 w.heap.size w' (.slice a' (5 + len) c') (InfMath.stored l last)) ∧ Hid (Below w.heap.size w w') := by
  have HBY := Lib.hid hb
  clear hb
  go_enter Tryz.func14, Tryz.ntmps14
  go_wp2_with fail
  have hlI : (len : Int) < 65535 := by omega
  go_loopw [5, 6] (fun ov av wr => (av = .int .i64 0 ∧ ov = .slice none 0 0 ∧ wr = w) ∨ (av = .int .i64 65535 ∧ ∃ a' c', ov = .slice a' (5 + len) c' ∧ Hid (Own 5 w.heap.size wr (.slice a' (5 + len) c') (InfMath.stored l last)) ∧ Hid (Below w.heap.size w wr))) (fun _ av _ => 65535 - (intOf av).toNat)
  case atStart => exact .inl ⟨rfl, rfl, rfl⟩
  case round =>
    rcases hrel with ⟨rfl, rfl, rfl⟩ | ⟨rfl, a', c', rfl, HO, HB⟩
    · clear hlI
      have hmin : (if (len : Int) < 65535 then (len : Int) else 65535) = (len : Int) := if_pos (by omega)
      go_upto_region 6 with (fail)
      clear hmin
      cases last
      · go_upto_region 9 with (fail)
        have hI : (if IntKind.u8.signed = true then (-1 : Int) else IntKind.u8.max) = 255 := rfl
        have hbh : Bytes (wr.alloc (.cells #[Value.int .u8 0, .int .u8 ((len : Int) % 256), .int .u8 ((len : Int) / 256), .int .u8 (bits .xor .u8 255 ((len : Int) % 256)), .int .u8 (bits .xor .u8 255 ((len : Int) / 256))] 5)) (some ⟨wr.heap.size, 0, none⟩) 5 5 (headOf 0 len) := lit_bytes 5 wr _ _ (head_cells 0 len (by omega)) (by simp [headOf])
        go_wp2_with (at_builtin; refine wpList_append_bytes (by rfl) (.tmp 33) (.tmp 47) 22 rfl wr.heap.size 5 Tryz.underlying22 info5 (.slice none 0 0) [] rfl (Own.nil _ _ _) (some ⟨wr.heap.size, 0, none⟩) 5 5 (headOf 0 len) rfl hbh (by simp) (by simp) ?_)
        intro v' w1 hown hg
        have HB1 := Lib.hid (grown_none_below ((Below.refl wr.heap.size wr).alloc (Nat.le_refl _) _) hg (by simp))
        have HO1 := Lib.hid hown
        have hle := HBY.out.le_cap
        have hle0 : (len : Int) ≤ (cap : Int) := by omega
        have hes : InfMath.stored l false = headOf 0 len ++ l := by unfold InfMath.stored headOf; rw [HBY.out.len_eq]; rfl
        have HES := Lib.hid hes
        clear hown hg hbh hI hes
        cases a with
        | none =>
          obtain ⟨rfl, rfl⟩ := HBY.out.nil rfl
          go_wp2_with (at_builtin; refine wpList_append_bytes (by rfl) (.tmp 49) (.tmp 55) 22 rfl wr.heap.size 5 Tryz.underlying22 info5 v' (headOf 0 0) rfl HO1.out none 0 0 l rfl (HBY.out.below (Nat.le_refl _) HB1.out) (by simp [headOf]) HB1.out.size ?_)
          intro v2 w2 hown hg
          rw [← HES.out] at hown
          obtain ⟨a2, c2, rfl, -⟩ := hown.bytes
          rw [InfMath.stored_len, HBY.out.len_eq] at hown ⊢
          have HO2 := Lib.hid hown
          have HB2 := Lib.hid (grown_below HO1.out HB1.out hg HB1.out.size)
          clear hown hg
          go_wp2_with fail
          go_roundw
          case rel => exact .inr ⟨rfl, a2, c2, rfl, HO2, HB2⟩
          case measure => simp [intOf]
        | some ad =>
          go_wp2_with (at_builtin; refine wpList_append_bytes (by rfl) (.tmp 49) (.tmp 55) 22 rfl wr.heap.size 5 Tryz.underlying22 info5 v' (headOf 0 len) rfl HO1.out (some ad) len cap l rfl (HBY.out.below (Nat.le_refl _) HB1.out) (by simp [headOf]; omega) HB1.out.size ?_)
          intro v2 w2 hown hg
          rw [← HES.out] at hown
          obtain ⟨a2, c2, rfl, -⟩ := hown.bytes
          rw [InfMath.stored_len, HBY.out.len_eq] at hown ⊢
          have HO2 := Lib.hid hown
          have HB2 := Lib.hid (grown_below HO1.out HB1.out hg HB1.out.size)
          clear hown hg
          go_wp2_with fail
          go_roundw
          case rel => exact .inr ⟨rfl, a2, c2, rfl, HO2, HB2⟩
          case measure => simp [intOf]
      · go_upto_region 9 with (fail)
        have hI : (if IntKind.u8.signed = true then (-1 : Int) else IntKind.u8.max) = 255 := rfl
        have hbh : Bytes (wr.alloc (.cells #[Value.int .u8 1, .int .u8 ((len : Int) % 256), .int .u8 ((len : Int) / 256), .int .u8 (bits .xor .u8 255 ((len : Int) % 256)), .int .u8 (bits .xor .u8 255 ((len : Int) / 256))] 5)) (some ⟨wr.heap.size, 0, none⟩) 5 5 (headOf 1 len) := lit_bytes 5 wr _ _ (head_cells 1 len (by omega)) (by simp [headOf])
        go_wp2_with (at_builtin; refine wpList_append_bytes (by rfl) (.tmp 33) (.tmp 47) 22 rfl wr.heap.size 5 Tryz.underlying22 info5 (.slice none 0 0) [] rfl (Own.nil _ _ _) (some ⟨wr.heap.size, 0, none⟩) 5 5 (headOf 1 len) rfl hbh (by simp) (by simp) ?_)
        intro v' w1 hown hg
        have HB1 := Lib.hid (grown_none_below ((Below.refl wr.heap.size wr).alloc (Nat.le_refl _) _) hg (by simp))
        have HO1 := Lib.hid hown
        have hle := HBY.out.le_cap
        have hle0 : (len : Int) ≤ (cap : Int) := by omega
        have hes : InfMath.stored l true = headOf 1 len ++ l := by unfold InfMath.stored headOf; rw [HBY.out.len_eq]; rfl
        have HES := Lib.hid hes
        clear hown hg hbh hI hes
        cases a with
        | none =>
          obtain ⟨rfl, rfl⟩ := HBY.out.nil rfl
          go_wp2_with (at_builtin; refine wpList_append_bytes (by rfl) (.tmp 49) (.tmp 55) 22 rfl wr.heap.size 5 Tryz.underlying22 info5 v' (headOf 1 0) rfl HO1.out none 0 0 l rfl (HBY.out.below (Nat.le_refl _) HB1.out) (by simp [headOf]) HB1.out.size ?_)
          intro v2 w2 hown hg
          rw [← HES.out] at hown
          obtain ⟨a2, c2, rfl, -⟩ := hown.bytes
          rw [InfMath.stored_len, HBY.out.len_eq] at hown ⊢
          have HO2 := Lib.hid hown
          have HB2 := Lib.hid (grown_below HO1.out HB1.out hg HB1.out.size)
          clear hown hg
          go_wp2_with fail
          go_roundw
          case rel => exact .inr ⟨rfl, a2, c2, rfl, HO2, HB2⟩
          case measure => simp [intOf]
        | some ad =>
          go_wp2_with (at_builtin; refine wpList_append_bytes (by rfl) (.tmp 49) (.tmp 55) 22 rfl wr.heap.size 5 Tryz.underlying22 info5 v' (headOf 1 len) rfl HO1.out (some ad) len cap l rfl (HBY.out.below (Nat.le_refl _) HB1.out) (by simp [headOf]; omega) HB1.out.size ?_)
          intro v2 w2 hown hg
          rw [← HES.out] at hown
          obtain ⟨a2, c2, rfl, -⟩ := hown.bytes
          rw [InfMath.stored_len, HBY.out.len_eq] at hown ⊢
          have HO2 := Lib.hid hown
          have HB2 := Lib.hid (grown_below HO1.out HB1.out hg HB1.out.size)
          clear hown hg
          go_wp2_with fail
          go_roundw
          case rel => exact .inr ⟨rfl, a2, c2, rfl, HO2, HB2⟩
          case measure => simp [intOf]
    · have d2 : ¬ (65535 : Int) < (len : Int) := by omega
      clear hlI
      go_wp2_with fail
      go_ret
      exact ⟨a', c', rfl, HO, HB⟩
end Go.Proofs.YtdbcendnibgcaaaGreatDoor.InfC
end
