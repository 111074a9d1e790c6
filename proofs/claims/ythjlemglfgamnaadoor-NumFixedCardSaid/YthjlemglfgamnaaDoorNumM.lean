import Derived.Test.YthjlemglfgamnaaDoorNumP
import Derived.Test.YthjlemglfgamnaaDoorNumQ
namespace Go.Proofs.YthjlemglfgamnaaDoor.NumC
open Go.RowKit Go.My NumMath

def bch (x : Nat) : UInt8 := UInt8.ofNat x
theorem bch_toNat (x : Nat) (h : x < 256) : (bch x).toNat = x := by unfold bch; rw [UInt8.toNat_ofNat']; omega
/-- What a field of n bytes holds behind j rounds. -/
def field (h : UInt8) (n j v : Nat) : List UInt8 := h :: (List.replicate (n - 1 - j) 0 ++ fix bch 256 j v)
theorem field_len (h : UInt8) (n j v : Nat) (hn : 1 ≤ n) (hj : j ≤ n - 1) : (field h n j v).length = n := by
  unfold field; simp [fix_len]; omega
theorem set_mid (k : Nat) (F : List UInt8) (c : UInt8) : (List.replicate (k + 1) (0 : UInt8) ++ F).set k c = List.replicate k 0 ++ c :: F := by
  induction k with
  | zero => rfl
  | succ k ih => rw [List.replicate_succ, List.cons_append, List.set_cons_succ, ih, List.replicate_succ, List.cons_append]
theorem field_set (h : UInt8) (n j v : Nat) (hj : j < n - 1) : (field h n j v).set (n - 1 - j) (bch (v / 256 ^ j % 256)) = field h n (j + 1) v := by
  unfold field
  rw [show n - 1 - j = (n - 1 - (j + 1)) + 1 from by omega, List.set_cons_succ, set_mid]
  rfl
theorem field_done (h : UInt8) (n v : Nat) : field h n (n - 1) v = h :: fix bch 256 (n - 1) v := by
  unfold field; simp
theorem u8_wrap (x : Nat) : IntKind.u8.wrap (x : Int) = ((bch (x % 256)).toNat : Int) := by
  rw [bch_toNat _ (Nat.mod_lt _ (by omega))]
  simp [IntKind.wrap, IntKind.bits, IntKind.signed]

/-- A byte written into a row of the call's own. -/
theorem own_store {E : TypeId} {base : Nat} {w : World} {g n c : Nat} {l : List UInt8} (h : Own E base w (.slice (some ⟨g, 0, none⟩) n c) l) (hn : l.length = n) (i : Nat) (b : UInt8) :
    Own E base (w.setCell ⟨g, i, none⟩ (bv b)) (.slice (some ⟨g, 0, none⟩) n c) (l.set i b) := by
  subst hn
  have := (World.ownsRow.stored h i (bv b)).1
  unfold Own
  rw [List.length_set, List.map_set]
  exact this
theorem own_cell {E : TypeId} {base : Nat} {w : World} {g n c : Nat} {l : List UInt8} (h : Own E base w (.slice (some ⟨g, 0, none⟩) n c) l) (hn : l.length = n) (i : Nat) (hi : i < l.length) : w.cell? ⟨g, i, none⟩ = some (bv l[i]) := by
  subst hn
  have hl := h
  unfold Own at hl
  have hcell := World.ownsRow.cellAt hl i (by simpa using hi)
  rw [hcell, List.getElem?_map, List.getElem?_eq_getElem hi]
  rfl
theorem own_free {E : TypeId} {base : Nat} {w : World} {g n c : Nat} {l : List UInt8} (h : Own E base w (.slice (some ⟨g, 0, none⟩) n c) l) (hn : l.length = n) (i : Nat) : w.frozen? ⟨g, i, none⟩ = false := by
  subst hn
  exact World.ownsRow.frozenAt h i

def markS (v n : Nat) : ByteArray := if v < 256 ^ (n - 1) then ⟨(128 :: fix bch 256 (n - 1) v).toArray⟩ else ⟨#[]⟩
def markE (v n : Nat) : Nat := if v < 256 ^ (n - 1) then 0 else 7
theorem ret_se {a b : ByteArray} {c d : Int} (h1 : a = b) (h2 : c = d) : Ending.returned (.tuple #[.string a, .int .i64 c]) = .returned (.tuple #[.string b, .int .i64 d]) := by rw [h1, h2]

set_option maxRecDepth 100000 in
set_option maxHeartbeats 2000000 in
theorem marked_any (v n : Nat) (w : World) (hv : v < 9223372036854775808) (hn1 : 2 ≤ n) (hn2 : n ≤ 32) :
    Calls Tryd.prog 34 #[.int .i64 (v : Int), .int .i64 (n : Int)] w fun e w' => e = .returned (.tuple #[.string (markS v n), .int .i64 ((markE v n : Nat) : Int)]) ∧ Below w.heap.size w w' := by
  go_enter Tryd.func34, Tryd.ntmps34
  go_wp2_with (at_make; refine wpList_make_bytes _ rfl (.tmp 8) (.tmp 8) 22 rfl w.heap.size 5 Tryd.underlying22 info5 .i64 .i64 n rfl rfl (by omega) (Nat.le_refl _) ?_)
  intro w1 hown hg
  have hb1 := grown_none_below (Below.refl w.heap.size w) hg (Nat.le_refl _)
  have HB := Lib.hid hb1
  have HO := Lib.hid hown
  have hcell := own_cell hown (by simp) 0 (by simp; omega)
  have hfree := own_free hown (by simp) 0
  clear hown hg hb1
  have hf0 : (List.replicate n (0 : UInt8)).set 0 128 = field 128 n 0 v := by
    unfold field
    obtain ⟨m, rfl⟩ : ∃ m, n = m + 1 := ⟨n - 1, by omega⟩
    simp [List.replicate_succ, fix]
  have HO1 : Hid (Own 5 w.heap.size (w1.setCell ⟨w.heap.size, 0, none⟩ (.int .u8 128)) (.slice (some ⟨w.heap.size, 0, none⟩) n n) (field 128 n 0 v)) := Lib.hid (by
    rw [← hf0]; exact own_store HO.out (by simp) 0 128)
  have HB1 : Hid (Below w.heap.size w (w1.setCell ⟨w.heap.size, 0, none⟩ (.int .u8 128))) := Lib.hid (HB.out.setCell (p := ⟨w.heap.size, 0, none⟩) (Nat.le_refl _) _)
  go_wp2_with fail
  clear hf0 hcell hfree HO HB
  generalize w1.setCell ⟨w.heap.size, 0, none⟩ (.int .u8 128) = w2 at *
  go_loopw [0, 7] (fun xv i wr => ∃ (j p x : Nat), p + j ≤ n - 1 ∧ n - 1 ≤ p + j ∧ i = .int .i64 (p : Int) ∧ xv = .int .i64 (x : Int) ∧ x ≤ v ∧ Hid (x = v / 256 ^ j) ∧ Hid (Own 5 w.heap.size wr (.slice (some ⟨w.heap.size, 0, none⟩) n n) (field 128 n j v)) ∧ Hid (Below w.heap.size w wr)) (fun _ i _ => (intOf i).toNat)
  case atStart => exact ⟨0, n - 1, v, by omega, by omega, by go_num, rfl, Nat.le_refl _, Lib.hid (by simp), HO1, HB1⟩
  case round =>
    clear HO1 HB1
    obtain ⟨j, p, x, hp1, hp2, rfl, rfl, hxv, HX, HO, HB⟩ := hrel
    have HL : Hid ((field 128 n j v).length = n) := Lib.hid (field_len _ _ _ _ (by omega) (by omega))
    by_cases hlt : 0 < p
    · have hcell := own_cell HO.out HL.out p (by rw [HL.out]; omega)
      have hfree := own_free HO.out HL.out p
      generalize bv ((field 128 n j v)[p]'(by rw [HL.out]; omega)) = old at hcell
      have e := u8_wrap x
      have HO2 : Hid (Own 5 w.heap.size (wr.setCell ⟨w.heap.size, p, none⟩ (.int .u8 ((bch (x % 256)).toNat : Int))) (.slice (some ⟨w.heap.size, 0, none⟩) n n) (field 128 n (j + 1) v)) := Lib.hid (by
        rw [← field_set 128 n j v (by omega), ← HX.out, show n - 1 - j = p from by omega]
        exact own_store HO.out HL.out p _)
      have HB2 : Hid (Below w.heap.size w (wr.setCell ⟨w.heap.size, p, none⟩ (.int .u8 ((bch (x % 256)).toNat : Int)))) := Lib.hid (HB.out.setCell (p := ⟨w.heap.size, p, none⟩) (Nat.le_refl _) _)
      have HX1 : Hid (x / 256 = v / 256 ^ (j + 1)) := Lib.hid (by rw [HX.out, Nat.div_div_eq_div_mul, Nat.pow_succ])
      go_wp2_with fail
      go_roundw
      case rel => exact ⟨j + 1, p - 1, x / 256, by omega, by omega, by go_num, by go_num, by omega, HX1, HO2, HB2⟩
      case measure => simp [intOf]; omega
    · obtain rfl : p = 0 := by omega
      obtain rfl : j = n - 1 := by omega
      have ho := HO.out
      rw [field_done] at ho
      obtain ⟨a1, c1, hv1, hby⟩ := ho.bytes
      rw [show (128 :: fix bch 256 (n - 1) v).length = n from by simp [fix_len]; omega] at hv1 hby
      simp only [Value.slice.injEq, true_and] at hv1
      obtain ⟨rfl, rfl⟩ := hv1
      have k1 := run_string_bytes (P := Tryd.prog) wr 22 9 5 Tryd.underlying22 Tryd.underlying5 Tryd.underlying9 hby
      clear ho hby
      have hx : v < 256 ^ (n - 1) ↔ x = 0 := by
        rw [HX.out]
        constructor
        · intro h; exact Nat.div_eq_of_lt h
        · intro h
          have hp : 0 < 256 ^ (n - 1) := Nat.pow_pos (by omega)
          have := (Nat.div_lt_iff_lt_mul (k := 256 ^ (n - 1)) (x := v) (y := 1) hp).1 (by omega)
          omega
      by_cases h0 : x = 0
      · have HS : Hid (markS v n = ⟨(128 :: fix bch 256 (n - 1) v).toArray⟩) := Lib.hid (if_pos (hx.2 h0))
        have HE : Hid (markE v n = 0) := Lib.hid (if_pos (hx.2 h0))
        clear hx
        subst h0
        generalize (⟨(128 :: fix bch 256 (n - 1) v).toArray⟩ : ByteArray) = r at *
        go_wp2_with fail
        go_ret2
        exact ⟨ret_se HS.out.symm (by rw [HE.out]; rfl), HB.out⟩
      · have HS : Hid (markS v n = ⟨#[]⟩) := Lib.hid (if_neg (fun h => h0 (hx.1 h)))
        have HE : Hid (markE v n = 7) := Lib.hid (if_neg (fun h => h0 (hx.1 h)))
        have hx0 : 0 < x := by omega
        clear hx h0 k1
        go_wp2_with fail
        go_ret2
        exact ⟨ret_se HS.out.symm (by rw [HE.out]; rfl), HB.out⟩
end Go.Proofs.YthjlemglfgamnaaDoor.NumC
