import Derived.Test.YthjlemglfgamnaaDoorNumF
namespace Go.Proofs.YthjlemglfgamnaaDoor.NumC
open Go.RowKit Go.My NumMath Go.Shelf

theorem ret_str {a b : ByteArray} (h : a = b) : Ending.returned (.string a) = .returned (.string b) := by rw [h]
theorem ba_append (a b : List UInt8) : (⟨a.toArray⟩ : ByteArray) ++ ⟨b.toArray⟩ = ⟨(a ++ b).toArray⟩ := by
  apply ByteArray.ext
  rw [ByteArray.data_append]
  simp

theorem formatint8 (v : Nat) (w : World) (hv : v < 9223372036854775808) (hT : Tab w) :
    Calls Tryd.prog 50 #[.int .i64 (v : Int), .int .i64 8] w fun e w' => DigsRet 8 v id e ∧ Below w.heap.size w w' := by
  have HT := Lib.hid hT
  clear hT
  go_enter Tryd.func50, Tryd.ntmps50
  go_wp2_with fail
  refine (bits8_any v w hv HT.out).mono ?_
  rintro e w1 ⟨⟨n, h1, h2, h3, rfl⟩, hb⟩
  have HF := Lib.hid (And.intro h1 (And.intro h2 h3))
  clear h1 h2 h3
  go_wp2_with fail
  go_ret
  exact ⟨⟨n, HF.out.1, HF.out.2.1, HF.out.2.2, rfl⟩, hb⟩
theorem formatint16 (v : Nat) (w : World) (hv : v < 9223372036854775808) (hT : Tab w) :
    Calls Tryd.prog 50 #[.int .i64 (v : Int), .int .i64 16] w fun e w' => DigsRet 16 v id e ∧ Below w.heap.size w w' := by
  have HT := Lib.hid hT
  clear hT
  go_enter Tryd.func50, Tryd.ntmps50
  go_wp2_with fail
  refine (bits16_any v w hv HT.out).mono ?_
  rintro e w1 ⟨⟨n, h1, h2, h3, rfl⟩, hb⟩
  have HF := Lib.hid (And.intro h1 (And.intro h2 h3))
  clear h1 h2 h3
  go_wp2_with fail
  go_ret
  exact ⟨⟨n, HF.out.1, HF.out.2.1, HF.out.2.2, rfl⟩, hb⟩
theorem format_any (b v : Nat) (w : World) (hb : b = 8 ∨ b = 16) (hv : v < 9223372036854775808) (hT : Tab w) :
    Calls Tryd.prog 42 #[.int .i64 (v : Int), .int .i64 (b : Int)] w fun e w' => DigsRet b v id e ∧ Below w.heap.size w w' := by
  have HT := Lib.hid hT
  clear hT
  rcases hb with rfl | rfl
  · go_enter Tryd.func42, Tryd.ntmps42
    go_wp2_with fail
    refine (formatint8 v w hv HT.out).mono ?_
    rintro e w1 ⟨⟨n, h1, h2, h3, rfl⟩, hb⟩
    have HF := Lib.hid (And.intro h1 (And.intro h2 h3))
    clear h1 h2 h3
    go_wp2_with fail
    go_ret
    exact ⟨⟨n, HF.out.1, HF.out.2.1, HF.out.2.2, rfl⟩, hb⟩
  · go_enter Tryd.func42, Tryd.ntmps42
    go_wp2_with fail
    refine (formatint16 v w hv HT.out).mono ?_
    rintro e w1 ⟨⟨n, h1, h2, h3, rfl⟩, hb⟩
    have HF := Lib.hid (And.intro h1 (And.intro h2 h3))
    clear h1 h2 h3
    go_wp2_with fail
    go_ret
    exact ⟨⟨n, HF.out.1, HF.out.2.1, HF.out.2.2, rfl⟩, hb⟩
theorem repeat_any (s : ByteArray) (c : Nat) (w : World) (hc : c ≤ 9223372036854775807) (hlen : s.size * c ≤ 140737488355328) :
    Calls Tryd.prog 43 #[.string s, .int .i64 c] w fun e w' => e = .returned (.string ⟨(Lib.repeatL s.data.toList c).toArray⟩) ∧ Below w.heap.size w w' :=
  Any.strings_Repeat Tryd.lays105 Tryd.Builder_Extra_105 s c w hc hlen
theorem noughts (c : Nat) : Lib.repeatL [48] c = List.replicate c (48 : UInt8) := by
  induction c with
  | zero => rfl
  | succ c ih =>
    rw [List.replicate_succ, ← ih]
    rfl

theorem repeat0_at (x : Int) (c : Nat) (w : World) (hx : x = (c : Int)) (hc : c ≤ 1000) :
    Calls Tryd.prog 43 #[.string ⟨#[48]⟩, .int .i64 x] w fun e w' => e = .returned (.string ⟨(List.replicate c (48 : UInt8)).toArray⟩) ∧ Below w.heap.size w w' := by
  subst hx
  rw [← noughts]
  exact repeat_any ⟨#[48]⟩ c w (by omega) (by rw [show (⟨#[48]⟩ : ByteArray).size = 1 from rfl]; omega)
set_option maxRecDepth 100000 in
theorem padded_fits (b v n : Nat) (w : World) (hb : b = 8 ∨ b = 16) (hv : v < 9223372036854775808) (hT : Tab w) (hn1 : 1 ≤ n) (hn2 : n ≤ 1000) (h : v < b ^ n) :
    Calls Tryd.prog 33 #[.int .i64 (v : Int), .int .i64 (b : Int), .int .i64 (n : Int)] w fun e w' => e = .returned (.string ⟨(fix ch b n v).toArray⟩) ∧ Below w.heap.size w w' := by
  have HT := Lib.hid hT
  have HH := Lib.hid h
  have HBB := Lib.hid hb
  clear hT h hb
  go_enter Tryd.func33, Tryd.ntmps33
  go_wp2_with fail
  refine (format_any b v w HBB.out hv HT.out).mono ?_
  rintro e w1 ⟨⟨m, h1, h2, h3, rfl⟩, hb1⟩
  have hmn : m ≤ n := by
    rcases h3 with h | h
    · omega
    · apply Nat.le_of_not_lt
      intro hc
      have hb2 : 1 ≤ b := by rcases HBB.out with h | h <;> omega
      have := Nat.pow_le_pow_right hb2 (show n ≤ m - 1 by omega)
      have := HH.out
      omega
  have HF := Lib.hid (And.intro h1 (And.intro h2 h3))
  clear h2 h3
  have hsz : (⟨(fix ch b m v).toArray⟩ : ByteArray).size = m := by rw [Lib.size_eq]; exact fix_len _ _ _ _
  have hR : ∀ k : Nat, (⟨(List.replicate k (48 : UInt8)).toArray⟩ : ByteArray) ++ ⟨(fix ch b m v).toArray⟩ = ⟨(List.replicate k 48 ++ fix ch b m v).toArray⟩ := fun k => ba_append _ _
  have HR := Lib.hid hR
  clear hR
  generalize (⟨(fix ch b m v).toArray⟩ : ByteArray) = r at *
  go_wp2_with fail
  refine (repeat0_at _ (n - m) w1 (by omega) (by omega)).mono ?_
  rintro e w2 ⟨rfl, hb2⟩
  have HP : Hid (List.replicate (n - m) (48 : UInt8) ++ fix ch b m v = fix ch b n v) := Lib.hid (by
    have hb2 : 1 ≤ b := by rcases HBB.out with h | h <;> omega
    have := fix_pad ch b m v hb2 HF.out.2.1 (n - m)
    rw [show m + (n - m) = n from by omega] at this
    exact this.symm)
  have hR := HR.out (n - m)
  rw [HP.out] at hR
  have HQ := Lib.hid hR
  clear hR HR
  have hqs : (⟨(List.replicate (n - m) (48 : UInt8)).toArray⟩ : ByteArray).size ≤ 1000 := by rw [Lib.size_eq]; simp; omega
  generalize (⟨(List.replicate (n - m) (48 : UInt8)).toArray⟩ : ByteArray) = q at *
  go_wp2_with fail
  go_ret
  exact ⟨ret_str HQ.out, hb1.trans (hb2.mono hb1.size)⟩

/-- Where the number needs more digits. -/
def LongRet (n : Nat) (e : Ending) : Prop := ∃ s : ByteArray, n < s.size ∧ s.size ≤ 1000 ∧ e = .returned (.string s)
set_option maxRecDepth 100000 in
theorem padded_long (b v n : Nat) (w : World) (hb : b = 8 ∨ b = 16) (hv : v < 9223372036854775808) (hT : Tab w) (hn1 : 1 ≤ n) (hn2 : n ≤ 1000) (h : b ^ n ≤ v) :
    Calls Tryd.prog 33 #[.int .i64 (v : Int), .int .i64 (b : Int), .int .i64 (n : Int)] w fun e w' => LongRet n e ∧ Below w.heap.size w w' := by
  have HT := Lib.hid hT
  have HH := Lib.hid h
  have HBB := Lib.hid hb
  clear hT h hb
  go_enter Tryd.func33, Tryd.ntmps33
  go_wp2_with fail
  refine (format_any b v w HBB.out hv HT.out).mono ?_
  rintro e w1 ⟨⟨m, h1, h2, h3, rfl⟩, hb1⟩
  have hmn : n < m := by
    apply Nat.lt_of_not_le
    intro hc
    have hb2 : 1 ≤ b := by rcases HBB.out with h | h <;> omega
    have := Nat.pow_le_pow_right hb2 hc
    have := HH.out
    omega
  have hm : m ≤ 22 := by
    rcases h3 with h | h
    · omega
    · apply Nat.le_of_not_lt
      intro hc
      have hb2 : 8 ≤ b := by rcases HBB.out with h | h <;> omega
      have h4 : 8 ^ (m - 1) ≤ b ^ (m - 1) := Nat.pow_le_pow_left hb2 _
      have h5 : 8 ^ 21 ≤ 8 ^ (m - 1) := Nat.pow_le_pow_right (by omega) (by omega)
      omega
  clear h2 h3
  have hsz : (⟨(fix ch b m v).toArray⟩ : ByteArray).size = m := by rw [Lib.size_eq]; exact fix_len _ _ _ _
  generalize (⟨(fix ch b m v).toArray⟩ : ByteArray) = r at *
  go_wp2_with fail
  refine (repeat0_at _ 0 w1 (by omega) (by omega)).mono ?_
  rintro e w2 ⟨rfl, hb2⟩
  have HZ : Hid ((⟨(List.replicate 0 (48 : UInt8)).toArray⟩ : ByteArray) ++ r = r) := Lib.hid (by
    obtain ⟨⟨l⟩⟩ := r
    rw [show (⟨⟨l⟩⟩ : ByteArray) = ⟨l.toArray⟩ from rfl, ba_append]
    rfl)
  have HS := Lib.hid hsz
  clear hsz
  have hqs : (⟨(List.replicate 0 (48 : UInt8)).toArray⟩ : ByteArray).size ≤ 1000 := by decide
  have hrs : r.size ≤ 1000 := by rw [HS.out]; omega
  generalize (⟨(List.replicate 0 (48 : UInt8)).toArray⟩ : ByteArray) = q at *
  go_wp2_with fail
  go_ret
  exact ⟨⟨r, by rw [HS.out]; exact hmn, by rw [HS.out]; omega, ret_str HZ.out⟩, hb1.trans (hb2.mono hb1.size)⟩
end Go.Proofs.YthjlemglfgamnaaDoor.NumC
