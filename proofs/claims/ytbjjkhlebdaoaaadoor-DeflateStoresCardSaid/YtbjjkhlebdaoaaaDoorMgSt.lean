import Derived.Test.YtbjjkhlebdaoaaaDoorRows
import Derived.Test.YtbjjkhlebdaoaaaDoorMgA
import Derived.Test.YtbjjkhlebdaoaaaDoorMgM
import Derived.Deep.DeepCutAuto
import Derived.Deep.CutBlock
import Derived.Test.YtbjjkhlebdaoaaaDoorMgH
import Derived.Test.YtbjjkhlebdaoaaaDoorMgY

section
/-
  The document's own answer for a stored block (stevedoreref13.Store), of few bytes.
-/
namespace Go.Proofs.YtbjjkhlebdaoaaaDoor.InfC
open Go.RowKit Go.My BitMath RefC

/-- Bytes of a literal. -/
theorem lit_bytes (E : TypeId) (w : World) (C : Array Value) (l : List UInt8) (hC : C.toList = l.map bv) (hl : l.length ≤ 1000) : Bytes (w.alloc (.cells C E)) (some ⟨w.heap.size, 0, none⟩) l.length l.length l := by
  refine ⟨rfl, Nat.le_refl _, by omega, (fun h => by cases h), .inr ⟨w.heap.size, 0, rfl, by simp, ?_⟩⟩
  intro i hi
  rw [cell_of_row _ _ _ _ _ _ (heap_alloc_new w _), ← Array.getElem?_toList, hC]
  simp [hi, bv]
theorem u8_not (n : Nat) (h : n < 256) : bits .xor .u8 255 (n : Int) = ((255 - n : Nat) : Int) := by
  have : ∀ k : Fin 256, bits .xor .u8 255 (k.val : Int) = ((255 - k.val : Nat) : Int) := by decide +kernel
  exact this ⟨n, h⟩
def headOf (c : UInt8) (len : Nat) : List UInt8 := [c, UInt8.ofNat len, UInt8.ofNat (len / 256), UInt8.ofNat (255 - len % 256), UInt8.ofNat (255 - len / 256)]
theorem head_cells (c : UInt8) (len : Nat) (h : len < 65536) : (#[Value.int .u8 (c.toNat : Int), .int .u8 ((len : Int) % 256), .int .u8 ((len : Int) / 256), .int .u8 (bits .xor .u8 255 ((len : Int) % 256)), .int .u8 (bits .xor .u8 255 ((len : Int) / 256))] : Array Value).toList = (headOf c len).map bv := by
  have e1 : (len : Int) % 256 = ((len % 256 : Nat) : Int) := by omega
  have e2 : (len : Int) / 256 = ((len / 256 : Nat) : Int) := by omega
  rw [e1, e2, u8_not _ (by omega), u8_not _ (by omega)]
  unfold headOf bv
  simp only [List.map_cons, List.map_nil, UInt8.toNat_ofNat']
  rw [Nat.mod_eq_of_lt (show len / 256 < 2 ^ 8 by omega), Nat.mod_eq_of_lt (show 255 - len % 256 < 2 ^ 8 by omega), Nat.mod_eq_of_lt (show 255 - len / 256 < 2 ^ 8 by omega)]

set_option maxRecDepth 100000 in
set_option maxHeartbeats 2000000 in
theorem store_any (last : Bool) (a : Option Addr) (len cap : Nat) (l : List UInt8) (w : World) (hb : Bytes w a len cap l) (hl : len ≤ 60000) :
    Calls Tryd.prog 9 #[.slice a len cap, .bool last] w fun e w' => ∃ a' c', e = .returned (.slice a' (5 + len) c') ∧ Hid (Own 5 w.heap.size w' (.slice a' (5 + len) c') (InfMath.stored l last)) ∧ Hid (Below w.heap.size w w') := by
  have HBY := Lib.hid hb
  clear hb
  go_enter Tryd.func9, Tryd.ntmps9
  go_wp2_with fail
  have hlI : (len : Int) < 65535 := by omega
  go_loopw [5, 6] (fun ov av wr => (av = .int .i64 0 ∧ ov = .slice none 0 0 ∧ wr = w) ∨ (av = .int .i64 65535 ∧ ∃ a' c', ov = .slice a' (5 + len) c' ∧ Hid (Own 5 w.heap.size wr (.slice a' (5 + len) c') (InfMath.stored l last)) ∧ Hid (Below w.heap.size w wr))) (fun _ av _ => 65535 - (intOf av).toNat)
  case atStart => exact .inl ⟨rfl, rfl, rfl⟩
  case round =>
    rcases hrel with ⟨rfl, rfl, rfl⟩ | ⟨rfl, a', c', rfl, HO, HB⟩
    · clear hlI
      have hmin : (if (len : Int) < 65535 then (len : Int) else 65535) = (len : Int) := if_pos (by omega)
      go_upto_region 6 with (fail)
      clear hmin
      cases last
      · go_upto_region 9 with (fail)
        have hI : (if IntKind.u8.signed = true then (-1 : Int) else IntKind.u8.max) = 255 := rfl
        have hbh : Bytes (wr.alloc (.cells #[Value.int .u8 0, .int .u8 ((len : Int) % 256), .int .u8 ((len : Int) / 256), .int .u8 (bits .xor .u8 255 ((len : Int) % 256)), .int .u8 (bits .xor .u8 255 ((len : Int) / 256))] 5)) (some ⟨wr.heap.size, 0, none⟩) 5 5 (headOf 0 len) := lit_bytes 5 wr _ _ (head_cells 0 len (by omega)) (by simp [headOf])
        go_wp2_with (at_builtin; refine wpList_append_bytes (by rfl) (.tmp 33) (.tmp 47) 22 rfl wr.heap.size 5 Tryd.underlying22 info5 (.slice none 0 0) [] rfl (Own.nil _ _ _) (some ⟨wr.heap.size, 0, none⟩) 5 5 (headOf 0 len) rfl hbh (by simp) (by simp) ?_)
        intro v' w1 hown hg
        have HB1 := Lib.hid (grown_none_below ((Below.refl wr.heap.size wr).alloc (Nat.le_refl _) _) hg (by simp))
        have HO1 := Lib.hid hown
        have hle := HBY.out.le_cap
        have hle0 : (len : Int) ≤ (cap : Int) := by omega
        have hes : InfMath.stored l false = headOf 0 len ++ l := by unfold InfMath.stored headOf; rw [HBY.out.len_eq]; rfl
        have HES := Lib.hid hes
        clear hown hg hbh hI hes
        cases a with
        | none =>
          obtain ⟨rfl, rfl⟩ := HBY.out.nil rfl
          go_wp2_with (at_builtin; refine wpList_append_bytes (by rfl) (.tmp 49) (.tmp 55) 22 rfl wr.heap.size 5 Tryd.underlying22 info5 v' (headOf 0 0) rfl HO1.out none 0 0 l rfl (HBY.out.below (Nat.le_refl _) HB1.out) (by simp [headOf]) HB1.out.size ?_)
          intro v2 w2 hown hg
          rw [← HES.out] at hown
          obtain ⟨a2, c2, rfl, -⟩ := hown.bytes
          rw [InfMath.stored_len, HBY.out.len_eq] at hown ⊢
          have HO2 := Lib.hid hown
          have HB2 := Lib.hid (grown_below HO1.out HB1.out hg HB1.out.size)
          clear hown hg
          go_wp2_with fail
          go_roundw
          case rel => exact .inr ⟨rfl, a2, c2, rfl, HO2, HB2⟩
          case measure => simp [intOf]
        | some ad =>
          go_wp2_with (at_builtin; refine wpList_append_bytes (by rfl) (.tmp 49) (.tmp 55) 22 rfl wr.heap.size 5 Tryd.underlying22 info5 v' (headOf 0 len) rfl HO1.out (some ad) len cap l rfl (HBY.out.below (Nat.le_refl _) HB1.out) (by simp [headOf]; omega) HB1.out.size ?_)
          intro v2 w2 hown hg
          rw [← HES.out] at hown
          obtain ⟨a2, c2, rfl, -⟩ := hown.bytes
          rw [InfMath.stored_len, HBY.out.len_eq] at hown ⊢
          have HO2 := Lib.hid hown
          have HB2 := Lib.hid (grown_below HO1.out HB1.out hg HB1.out.size)
          clear hown hg
          go_wp2_with fail
          go_roundw
          case rel => exact .inr ⟨rfl, a2, c2, rfl, HO2, HB2⟩
          case measure => simp [intOf]
      · go_upto_region 9 with (fail)
        have hI : (if IntKind.u8.signed = true then (-1 : Int) else IntKind.u8.max) = 255 := rfl
        have hbh : Bytes (wr.alloc (.cells #[Value.int .u8 1, .int .u8 ((len : Int) % 256), .int .u8 ((len : Int) / 256), .int .u8 (bits .xor .u8 255 ((len : Int) % 256)), .int .u8 (bits .xor .u8 255 ((len : Int) / 256))] 5)) (some ⟨wr.heap.size, 0, none⟩) 5 5 (headOf 1 len) := lit_bytes 5 wr _ _ (head_cells 1 len (by omega)) (by simp [headOf])
        go_wp2_with (at_builtin; refine wpList_append_bytes (by rfl) (.tmp 33) (.tmp 47) 22 rfl wr.heap.size 5 Tryd.underlying22 info5 (.slice none 0 0) [] rfl (Own.nil _ _ _) (some ⟨wr.heap.size, 0, none⟩) 5 5 (headOf 1 len) rfl hbh (by simp) (by simp) ?_)
        intro v' w1 hown hg
        have HB1 := Lib.hid (grown_none_below ((Below.refl wr.heap.size wr).alloc (Nat.le_refl _) _) hg (by simp))
        have HO1 := Lib.hid hown
        have hle := HBY.out.le_cap
        have hle0 : (len : Int) ≤ (cap : Int) := by omega
        have hes : InfMath.stored l true = headOf 1 len ++ l := by unfold InfMath.stored headOf; rw [HBY.out.len_eq]; rfl
        have HES := Lib.hid hes
        clear hown hg hbh hI hes
        cases a with
        | none =>
          obtain ⟨rfl, rfl⟩ := HBY.out.nil rfl
          go_wp2_with (at_builtin; refine wpList_append_bytes (by rfl) (.tmp 49) (.tmp 55) 22 rfl wr.heap.size 5 Tryd.underlying22 info5 v' (headOf 1 0) rfl HO1.out none 0 0 l rfl (HBY.out.below (Nat.le_refl _) HB1.out) (by simp [headOf]) HB1.out.size ?_)
          intro v2 w2 hown hg
          rw [← HES.out] at hown
          obtain ⟨a2, c2, rfl, -⟩ := hown.bytes
          rw [InfMath.stored_len, HBY.out.len_eq] at hown ⊢
          have HO2 := Lib.hid hown
          have HB2 := Lib.hid (grown_below HO1.out HB1.out hg HB1.out.size)
          clear hown hg
          go_wp2_with fail
          go_roundw
          case rel => exact .inr ⟨rfl, a2, c2, rfl, HO2, HB2⟩
          case measure => simp [intOf]
        | some ad =>
          go_wp2_with (at_builtin; refine wpList_append_bytes (by rfl) (.tmp 49) (.tmp 55) 22 rfl wr.heap.size 5 Tryd.underlying22 info5 v' (headOf 1 len) rfl HO1.out (some ad) len cap l rfl (HBY.out.below (Nat.le_refl _) HB1.out) (by simp [headOf]; omega) HB1.out.size ?_)
          intro v2 w2 hown hg
          rw [← HES.out] at hown
          obtain ⟨a2, c2, rfl, -⟩ := hown.bytes
          rw [InfMath.stored_len, HBY.out.len_eq] at hown ⊢
          have HO2 := Lib.hid hown
          have HB2 := Lib.hid (grown_below HO1.out HB1.out hg HB1.out.size)
          clear hown hg
          go_wp2_with fail
          go_roundw
          case rel => exact .inr ⟨rfl, a2, c2, rfl, HO2, HB2⟩
          case measure => simp [intOf]
    · have d2 : ¬ (65535 : Int) < (len : Int) := by omega
      clear hlI
      go_wp2_with fail
      go_ret
      exact ⟨a', c', rfl, HO, HB⟩
end Go.Proofs.YtbjjkhlebdaoaaaDoor.InfC
end

section
/-
  The document's Store of any bytes.
-/
namespace Go.Proofs.YtbjjkhlebdaoaaaDoor.BlkC
open Go.RowKit Go.My BitMath BitC
open InfC (headOf head_cells lit_bytes)
open InfMath (stos)

theorem stored_hd (c : List UInt8) (last : Bool) : InfMath.stored c last = headOf (if last then 1 else 0) c.length ++ c := by
  unfold InfMath.stored headOf; rfl
/-- What the loop keeps: at number i, these bytes so far. -/
def Sto (l : List UInt8) (last : Bool) (n i : Nat) (o : List UInt8) : Prop := (o ++ stos (l.drop (65535 * i)) last = stos l last ∧ (i = 0 ∨ 65535 * i < n)) ∨ (0 < i ∧ n ≤ 65535 * i ∧ o = stos l last)
theorem sr_nums {at_ n len : Nat} (h1 : at_ ≤ len) (h2 : len ≤ 100000) (hn : n = min 65535 (len - at_)) :
    (if (len : Int) - (at_ : Int) < 65535 then (len : Int) - (at_ : Int) else 65535) = (n : Int) ∧ wrap64 ((len : Int) - (at_ : Int)) = (len : Int) - (at_ : Int) ∧ wrap64 ((at_ : Int) + (n : Int)) = (at_ : Int) + (n : Int) ∧ n ≤ 65535 ∧ at_ + n ≤ len := by
  exact ⟨by split <;> omega, IntWalk.wrap64_in _ (by omega), IntWalk.wrap64_in _ (by omega), by omega, by omega⟩
set_option maxRecDepth 100000 in
set_option maxHeartbeats 8000000 in
theorem rstore_any (last : Bool) (a : Option Addr) (len cap : Nat) (l : List UInt8) (w : World) (hb : Bytes w a len cap l) (hl : len ≤ 100000) :
    Calls Tryd.prog 9 #[.slice a len cap, .bool last] w fun e w' => ∃ a' n c', e = .returned (.slice a' n c') ∧ Hid (Own 5 w.heap.size w' (.slice a' n c') (stos l last)) ∧ Hid (Below w.heap.size w w') := by
  by_cases hsmall : len ≤ 60000
  · refine (InfC.store_any last a len cap l w hb hsmall).mono ?_
    rintro e w' ⟨a', c', rfl, h1, h2⟩
    exact ⟨a', 5 + len, c', rfl, by rw [InfMath.stos_one l last (by rw [hb.len_eq]; omega)]; exact h1, h2⟩
  obtain ⟨b0, off, rfl⟩ : ∃ b0 off, a = some ⟨b0, off, none⟩ := by
    rcases hb.at_ with hz | ⟨b0, off, ha, -⟩
    · omega
    · exact ⟨b0, off, ha⟩
  have HBY := Lib.hid hb
  clear hb
  go_enter Tryd.func9, Tryd.ntmps9
  go_wp2_with fail
  go_loopw [5, 6] (fun ov av wr => ∃ (i : Nat) (o : List UInt8) (v : Value), av = .int .i64 ((65535 * i : Nat) : Int) ∧ i ≤ 3 ∧ ov = v ∧ o.length ≤ 65540 * i ∧ Hid (Sto l last len i o) ∧ Hid (Own 5 w.heap.size wr v o) ∧ Hid (Below w.heap.size w wr)) (fun _ av _ => 400000 - (intOf av).toNat)
  case atStart => exact ⟨0, [], _, by simp, by omega, rfl, by simp, Lib.hid (.inl ⟨by rw [Nat.mul_zero, List.drop_zero, List.nil_append], .inl rfl⟩), Lib.hid (Own.nil _ _ _), Lib.hid (Below.refl _ _)⟩
  case round =>
    obtain ⟨i, o, ov, rfl, hi, rfl, ho, HS, HO, HB⟩ := hrel
    have hle := HBY.out.le_cap
    have hcp := HBY.out.cap_le
    have hll := HBY.out.len_eq
    rcases Classical.em (i = 0 ∨ 65535 * i < len) with hgo | hstop
    · obtain ⟨n, hn⟩ : ∃ n, n = min 65535 (len - 65535 * i) := ⟨_, rfl⟩
      have hai : 65535 * i ≤ len := by omega
      have hA : o ++ stos (l.drop (65535 * i)) last = stos l last := by
        rcases HS.out with h | h
        · exact h.1
        · omega
      obtain ⟨fl, hfl⟩ : ∃ fl : Bool, fl = (last && decide (65535 * i + n = len)) := ⟨_, rfl⟩
      obtain ⟨cc, hcc⟩ : ∃ cc : List UInt8, cc = (l.drop (65535 * i)).take n := ⟨_, rfl⟩
      have hcl : cc.length = n := by rw [hcc, List.length_take, List.length_drop]; omega
      -- what stands behind this round
      have HN : Hid (Sto l last len (i + 1) (o ++ InfMath.stored cc fl)) := Lib.hid (by
        by_cases hm : 65535 < len - 65535 * i
        · have hn5 : n = 65535 := by omega
          have hf : fl = false := by rw [hfl]; cases last <;> simp; omega
          refine .inl ⟨?_, .inr (by omega)⟩
          rw [← hA, InfMath.stos_more (l.drop (65535 * i)) last (by rw [List.length_drop]; omega), List.drop_drop, hf, hcc, hn5, List.append_assoc, show 65535 * i + 65535 = 65535 * (i + 1) from by omega]
        · refine .inr ⟨by omega, by omega, ?_⟩
          have hn5 : n = len - 65535 * i := by omega
          have hf : fl = last := by rw [hfl]; cases last <;> simp; omega
          have hc2 : cc = l.drop (65535 * i) := by rw [hcc, List.take_of_length_le (by rw [List.length_drop]; omega)]
          rw [← hA, InfMath.stos_one (l.drop (65535 * i)) last (by rw [List.length_drop]; omega), hf, hc2])
      have HST := Lib.hid (stored_hd cc fl)
      obtain ⟨at_, hat⟩ : ∃ at_, at_ = 65535 * i := ⟨_, rfl⟩
      rw [← hat] at hai hgo hn hfl hcc ⊢
      obtain ⟨hmin, w1, w2, hn6, hsum⟩ := sr_nums hai hl hn
      have HH := Lib.hid (And.intro hmin (And.intro w1 w2))
      have HFT := Lib.hid (And.intro hfl (And.intro hcc hcl))
      have HAT := Lib.hid (And.intro hat (And.intro hgo hll))
      clear hmin w1 w2 hfl hcc hcl hn hgo hA hll HS
      have hgoes : (((at_ : Int) == 0) = true) ∨ (((at_ : Int) == 0) = false ∧ (at_ : Int) < (len : Int)) := by
        by_cases hi0 : i = 0
        · exact .inl (by subst hi0; simp; omega)
        · exact .inr ⟨by simp; omega, by have := HAT.out.2.1; omega⟩
      have hflag : (fl = false ∧ (last = false ∨ last = true ∧ ((at_ : Int) + (n : Int) == (len : Int)) = false)) ∨ (fl = true ∧ last = true ∧ ((at_ : Int) + (n : Int) == (len : Int)) = true) := by
        have hf := HFT.out.1
        by_cases hq : at_ + n = len
        · rw [decide_eq_true hq, Bool.and_true] at hf
          cases last
          · exact .inl ⟨hf, .inl rfl⟩
          · exact .inr ⟨hf, rfl, by simp; omega⟩
        · rw [decide_eq_false hq, Bool.and_false] at hf
          cases last
          · exact .inl ⟨hf, .inl rfl⟩
          · exact .inl ⟨hf, .inr ⟨rfl, by simp; omega⟩⟩
      have HATI := Lib.hid hat
      clear hat
      obtain ⟨hmin, e1, e2⟩ := HH.out
      have hlt : at_ < len := by have h1 := HATI.out; have h2 := HAT.out.2.1; omega
      have e3 : wrap64 ((at_ : Int) + 65535) = (at_ : Int) + 65535 := IntWalk.wrap64_in _ (by clear hmin e1 e2; omega)
      have HOL : Hid (o.length ≤ 200000) := Lib.hid (by omega)
      have hI : (if IntKind.u8.signed = true then (-1 : Int) else IntKind.u8.max) = 255 := rfl
      have HLC : Hid (cc = (l.drop at_).take n ∧ cc.length = n) := Lib.hid HFT.out.2
      clear HFT
      rcases hgoes with h1 | ⟨h1, h2⟩
      all_goals
        rcases hflag with ⟨rfl, rfl | ⟨rfl, hq⟩⟩ | ⟨rfl, rfl, hq⟩
        all_goals
          first
          | (have HST0 : Hid (InfMath.stored cc false = headOf 0 cc.length ++ cc) := HST
             go_upto_region 9 with (fail)
             have hbh : Bytes (wr.alloc (.cells #[Value.int .u8 0, .int .u8 ((n : Int) % 256), .int .u8 ((n : Int) / 256), .int .u8 (bits .xor .u8 255 ((n : Int) % 256)), .int .u8 (bits .xor .u8 255 ((n : Int) / 256))] 5)) (some ⟨wr.heap.size, 0, none⟩) 5 5 (headOf 0 n) := lit_bytes 5 wr _ _ (head_cells 0 n (by omega)) (by simp [headOf])
             have hwb : w.heap.size ≤ wr.heap.size := HB.out.size
             have hown0 := HO.out.below (Nat.le_refl _) ((Below.refl wr.heap.size wr).alloc (Nat.le_refl _) (.cells #[Value.int .u8 0, .int .u8 ((n : Int) % 256), .int .u8 ((n : Int) / 256), .int .u8 (bits .xor .u8 255 ((n : Int) % 256)), .int .u8 (bits .xor .u8 255 ((n : Int) / 256))] 5))
             go_wp2_with (at_builtin; refine wpList_append_bytes (by rfl) (.tmp 33) (.tmp 47) 22 rfl w.heap.size 5 Tryd.underlying22 info5 _ o rfl hown0 (some ⟨wr.heap.size, 0, none⟩) 5 5 (headOf 0 n) rfl hbh (by have := HOL.out; omega) (by rw [World.size_alloc]; omega) ?_)
             intro v' w1 hown hg
             have HB1 := Lib.hid (grown_below hown0 (HB.out.alloc hwb _) hg (by rw [World.size_alloc]; omega))
             have HO1 := Lib.hid hown
             have HBC := Lib.hid (bytes_take (bytes_drop (HBY.out.below (Nat.le_refl _) HB1.out) at_ hai (by omega)) n (by clear hmin e1 e2 e3; omega) (by omega))
             have HBC2 : Hid (Bytes w1 (some ⟨b0, off + at_, none⟩) n (cap - at_) cc) := Lib.hid (by rw [HLC.out.1]; exact HBC.out)
             have hne : ¬ cap = at_ := by omega
             have hi1 : (at_ : Int) ≤ (at_ : Int) + (n : Int) := by clear hmin e1 e3; omega
             have hi2 : (at_ : Int) + (n : Int) ≤ (cap : Int) := by clear hmin e1 e3; omega
             have hi3 : ((at_ : Int) + (n : Int)).toNat = at_ + n := by clear hmin e1 e3; omega
             clear hown hg hbh hown0 HBC hmin e1
             go_wp2_with (at_builtin; refine wpList_append_bytes (by rfl) (.tmp 49) (.tmp 55) 22 rfl w.heap.size 5 Tryd.underlying22 info5 v' (o ++ headOf 0 n) rfl HO1.out (some ⟨b0, off + at_, none⟩) n (cap - at_) cc rfl HBC2.out (by have := HOL.out; simp [headOf]; omega) HB1.out.size ?_)
             intro v2 w2 hown hg
             have HB2 := Lib.hid (grown_below HO1.out HB1.out hg HB1.out.size)
             have HO2 : Hid (Own 5 w.heap.size w2 v2 (o ++ InfMath.stored cc false)) := Lib.hid (by rw [HST0.out, HLC.out.2]; first | exact hown | (rw [← List.append_assoc]; exact hown))
             have hlen2 : (o ++ InfMath.stored cc false).length ≤ 65540 * (i + 1) := by rw [List.length_append, InfMath.stored_len, HLC.out.2]; omega
             clear hown hg
             go_wp2_with fail
             go_roundw
             case rel => exact ⟨i + 1, _, v2, by have := HATI.out; congr 1; omega, by have := HATI.out; omega, rfl, hlen2, HN, HO2, HB2⟩
             case measure => simp [intOf]; have := HATI.out; omega)
          | (have HST0 : Hid (InfMath.stored cc true = headOf 1 cc.length ++ cc) := HST
             go_upto_region 9 with (fail)
             have hbh : Bytes (wr.alloc (.cells #[Value.int .u8 1, .int .u8 ((n : Int) % 256), .int .u8 ((n : Int) / 256), .int .u8 (bits .xor .u8 255 ((n : Int) % 256)), .int .u8 (bits .xor .u8 255 ((n : Int) / 256))] 5)) (some ⟨wr.heap.size, 0, none⟩) 5 5 (headOf 1 n) := lit_bytes 5 wr _ _ (head_cells 1 n (by omega)) (by simp [headOf])
             have hwb : w.heap.size ≤ wr.heap.size := HB.out.size
             have hown0 := HO.out.below (Nat.le_refl _) ((Below.refl wr.heap.size wr).alloc (Nat.le_refl _) (.cells #[Value.int .u8 1, .int .u8 ((n : Int) % 256), .int .u8 ((n : Int) / 256), .int .u8 (bits .xor .u8 255 ((n : Int) % 256)), .int .u8 (bits .xor .u8 255 ((n : Int) / 256))] 5))
             go_wp2_with (at_builtin; refine wpList_append_bytes (by rfl) (.tmp 33) (.tmp 47) 22 rfl w.heap.size 5 Tryd.underlying22 info5 _ o rfl hown0 (some ⟨wr.heap.size, 0, none⟩) 5 5 (headOf 1 n) rfl hbh (by have := HOL.out; omega) (by rw [World.size_alloc]; omega) ?_)
             intro v' w1 hown hg
             have HB1 := Lib.hid (grown_below hown0 (HB.out.alloc hwb _) hg (by rw [World.size_alloc]; omega))
             have HO1 := Lib.hid hown
             have HBC := Lib.hid (bytes_take (bytes_drop (HBY.out.below (Nat.le_refl _) HB1.out) at_ hai (by omega)) n (by clear hmin e1 e2 e3; omega) (by omega))
             have HBC2 : Hid (Bytes w1 (some ⟨b0, off + at_, none⟩) n (cap - at_) cc) := Lib.hid (by rw [HLC.out.1]; exact HBC.out)
             have hne : ¬ cap = at_ := by omega
             have hi1 : (at_ : Int) ≤ (at_ : Int) + (n : Int) := by clear hmin e1 e3; omega
             have hi2 : (at_ : Int) + (n : Int) ≤ (cap : Int) := by clear hmin e1 e3; omega
             have hi3 : ((at_ : Int) + (n : Int)).toNat = at_ + n := by clear hmin e1 e3; omega
             clear hown hg hbh hown0 HBC hmin e1
             go_wp2_with (at_builtin; refine wpList_append_bytes (by rfl) (.tmp 49) (.tmp 55) 22 rfl w.heap.size 5 Tryd.underlying22 info5 v' (o ++ headOf 1 n) rfl HO1.out (some ⟨b0, off + at_, none⟩) n (cap - at_) cc rfl HBC2.out (by have := HOL.out; simp [headOf]; omega) HB1.out.size ?_)
             intro v2 w2 hown hg
             have HB2 := Lib.hid (grown_below HO1.out HB1.out hg HB1.out.size)
             have HO2 : Hid (Own 5 w.heap.size w2 v2 (o ++ InfMath.stored cc true)) := Lib.hid (by rw [HST0.out, HLC.out.2]; first | exact hown | (rw [← List.append_assoc]; exact hown))
             have hlen2 : (o ++ InfMath.stored cc true).length ≤ 65540 * (i + 1) := by rw [List.length_append, InfMath.stored_len, HLC.out.2]; omega
             clear hown hg
             go_wp2_with fail
             go_roundw
             case rel => exact ⟨i + 1, _, v2, by have := HATI.out; congr 1; omega, by have := HATI.out; omega, rfl, hlen2, HN, HO2, HB2⟩
             case measure => simp [intOf]; have := HATI.out; omega)
    · have hT : o = stos l last := by
        rcases HS.out with h | h
        · exact absurd h.2 hstop
        · exact h.2.2
      have hne : (((65535 * i : Nat) : Int) == 0) = false := by simp; omega
      have hge : ¬ (((65535 * i : Nat) : Int) < (len : Int)) := by omega
      obtain ⟨at_, hat⟩ : ∃ at_, at_ = 65535 * i := ⟨_, rfl⟩
      rw [← hat] at hne hge ⊢
      have HT := Lib.hid hT
      clear hat hT HS hstop ho hll hle hcp
      go_wp2_with fail
      go_ret
      obtain ⟨a', c', e, -⟩ := HO.out.bytes
      exact ⟨a', _, c', by rw [← e]; rfl, by rw [← e, ← HT.out]; exact HO, HB⟩
end Go.Proofs.YtbjjkhlebdaoaaaDoor.BlkC
end
