/-
  bytes.Equal; how many bytes are alike at the beginning of two slices.
-/
import Derived.Test.YtfdfggomgaegoaaRows
import Derived.Test.YtfdfggomgaegoaaRefOwn
import Derived.Test.YtfdfggomgaegoaaMatMath
import Derived.Deep.DeepCutAuto
import Derived.Deep.CutBlock
namespace Go.Proofs.Ytfdfggomgaegoaa.MatC
open Go.RowKit Go.My MatMath

theorem quiet_below (w : World) (n : Nat) : Below w.heap.size w (w.drewN n) := ⟨rfl, rfl, rfl, Nat.le_refl _, fun _ _ => rfl⟩
theorem blist_inj {a b : ByteArray} (h : a.toList = b.toList) : a = b := by
  rw [Go.ByteArray.toList_eq, Go.ByteArray.toList_eq] at h
  exact ByteArray.ext (Array.toList_inj.1 h)
theorem equal_any {a1 a2 : Option Addr} {n1 n2 c1 c2 : Nat} {l1 l2 : List UInt8} (w : World) (h1 : Bytes w a1 n1 c1 l1) (h2 : Bytes w a2 n2 c2 l2) (K : Bool) (hK : (l1 == l2) = K) :
    Calls Try.prog 26 #[.slice a1 n1 c1, .slice a2 n2 c2] w fun e w' => e = .returned (.bool K) ∧ w' = w := by
  have k1 := run_string_bytes (P := Try.prog) w 22 9 5 Try.underlying22 Try.underlying5 Try.underlying9 h1
  have k2 := run_string_bytes (P := Try.prog) w 22 9 5 Try.underlying22 Try.underlying5 Try.underlying9 h2
  clear h1 h2
  go_enter Try.func26, Try.ntmps26
  go_wp2_with fail
  go_ret
  exact ⟨rfl, rfl⟩

/-- How many bytes at the beginning of both are the same. -/
def pre : List UInt8 → List UInt8 → Nat
  | [], _ => 0
  | _ :: _, [] => 0
  | x :: xs, y :: ys => if x = y then pre xs ys + 1 else 0
theorem pre_eq : ∀ (l1 l2 : List UInt8) (n : Nat), n ≤ l1.length → n ≤ l2.length → (∀ i, i < n → l1[i]? = l2[i]?) → (n = l1.length ∨ n = l2.length ∨ l1[n]? ≠ l2[n]?) → pre l1 l2 = n := by
  intro l1
  induction l1 with
  | nil => intro l2 n h1 _ _ _; simp at h1; simp [pre, h1]
  | cons x xs ih =>
    intro l2 n h1 h2 h3 h4
    cases l2 with
    | nil => simp at h2; simp [pre, h2]
    | cons y ys =>
      cases n with
      | zero =>
        have : x ≠ y := by simpa using h4
        simp [pre, this]
      | succ n =>
        have e : x = y := by simpa using h3 0 (by omega)
        simp only [pre, if_pos e]
        rw [ih ys n (by simpa using h1) (by simpa using h2) (fun i hi => by simpa using h3 (i + 1) (by omega)) (by simpa using h4)]
/-- .. in one text. -/
theorem pre_ml (s : List UInt8) (q a m : Nat) (hm : a + m ≤ s.length) (hq : q ≤ a) : pre (s.drop q) ((s.drop a).take m) = ml s q a m := by
  have hg : ∀ i, i < s.length → s[i]? = some (at_ s i) := fun i hi => by rw [at_, List.getD_eq_getElem?_getD, List.getElem?_eq_getElem hi]; rfl
  have hl := ml_le s m q a
  refine pre_eq _ _ _ (by simp; omega) (by simp; omega) (fun i hi => ?_) ?_
  · rw [List.getElem?_take, if_pos (by omega), List.getElem?_drop, List.getElem?_drop, hg _ (by omega), hg _ (by omega), ml_same s m q a i hi]
  · by_cases h : ml s q a m < m
    · refine .inr (.inr ?_)
      rw [List.getElem?_take, if_pos h, List.getElem?_drop, List.getElem?_drop, hg _ (by omega), hg _ (by omega)]
      exact fun e => ml_stop s m q a h (Option.some.inj e)
    · exact .inr (.inl (by simp; omega))

/-- A piece of some bytes. -/
theorem bytes_part {w : World} {b off len cap : Nat} {l : List UInt8} (h : Bytes w (some ⟨b, off, none⟩) len cap l) (i j : Nat) (hij : i ≤ j) (hj : j ≤ len) : Bytes w (some ⟨b, off + i, none⟩) (j - i) (cap - i) ((l.drop i).take (j - i)) :=
  (h.drop i (by omega)).take (j - i) (by omega)
theorem byte_at {w : World} {b off len cap : Nat} {l : List UInt8} (h : Bytes w (some ⟨b, off, none⟩) len cap l) (i : Nat) (hi : i < l.length) : w.cell? ⟨b, off + i, none⟩ = some (.int .u8 (l[i].toNat : Int)) := by
  rcases h.at_ with h5 | ⟨b', off', ha, hs, hc⟩
  · have := h.len_eq; omega
  · cases ha; exact hc i hi

/-- Only the draws have gone on. -/
def Drew (w w' : World) : Prop := ∃ m, w' = w.drewN m
theorem Drew.refl (w : World) : Drew w w := ⟨0, rfl⟩
theorem Drew.more {w w' : World} (h : Drew w w') (n : Nat) : Drew w (w'.drewN n) := by
  obtain ⟨m, rfl⟩ := h
  exact ⟨m + n, by rw [World.drewN_drewN]⟩
theorem Drew.below {w w' : World} (h : Drew w w') : Below w.heap.size w w' := by
  obtain ⟨m, rfl⟩ := h
  exact quiet_below w m
theorem Drew.bytes {w w' : World} {a : Option Addr} {len cap : Nat} {l : List UInt8} (h : Drew w w') (hb : Bytes w a len cap l) : Bytes w' a len cap l := hb.below (Nat.le_refl _) h.below

set_option maxRecDepth 100000 in
set_option maxHeartbeats 4000000 in
theorem alike_any {b1 b2 o1 o2 n1 n2 c1 c2 : Nat} {l1 l2 : List UInt8} (w : World) (h1 : Bytes w (some ⟨b1, o1, none⟩) n1 c1 l1) (h2 : Bytes w (some ⟨b2, o2, none⟩) n2 c2 l2) (hn : n1 ≤ 4611686018427387904) :
    Calls Try.prog 20 #[.slice (some ⟨b1, o1, none⟩) n1 c1, .slice (some ⟨b2, o2, none⟩) n2 c2] w fun e w' => e = .returned (.int .i64 ((pre l1 l2 : Nat) : Int)) ∧ Drew w w' := by
  have H1 := Lib.hid h1
  have H2 := Lib.hid h2
  have b1' := h1.le_cap
  have b1'' := h1.cap_le
  have b2' := h2.le_cap
  have b2'' := h2.cap_le
  have HL1 := Lib.hid h1.len_eq
  have HL2 := Lib.hid h2.len_eq
  clear h1 h2
  obtain ⟨N, hN⟩ : ∃ N, N = min n1 n2 := ⟨_, rfl⟩
  have hNa : N ≤ n1 := by omega
  have hNb : N ≤ n2 := by omega
  have hmin : (if n2 < n1 then (n2 : Int) else (n1 : Int)) = (N : Int) := by split <;> omega
  have HN := Lib.hid hN
  clear hN
  go_enter Try.func20, Try.ntmps20
  go_wp2_with fail
  go_loopw [5] (fun v wr => ∃ k : Nat, k ≤ N ∧ v = .int .i64 (k : Int) ∧ Hid (Drew w wr) ∧ Hid (∀ i, i < k → l1[i]? = l2[i]?)) (fun v _ => N - (intOf v).toNat)
  case atStart => exact ⟨0, by omega, rfl, Lib.hid (Drew.refl _), Lib.hid (fun i hi => by omega)⟩
  case round =>
    obtain ⟨k, hk, rfl, HD, HE⟩ := hrel
    go_upto_region 2 with (fail)
    go_cut [28] (fun v wc => ∃ K : Bool, v = .bool K ∧ Hid (Drew w wc) ∧ Hid (K = true → k + 32 ≤ N ∧ ∀ i, i < k + 32 → l1[i]? = l2[i]?))
    case first =>
      by_cases h32 : k + 32 ≤ N
      · have g1 : decide ((k : Int) + 32 ≤ (N : Int)) = true := by simp; omega
        have g1n : decide (k + 32 ≤ N) = true := by simp; omega
        obtain ⟨K, hK⟩ : ∃ K, K = ((l1.drop k).take 32 == (l2.drop k).take 32) := ⟨_, rfl⟩
        have p1 : ∀ q, Bytes (wr.drewN q) (some ⟨b1, o1 + k, none⟩) 32 (c1 - k) ((l1.drop k).take 32) := fun q => (HD.out.more q).bytes ((H1.out.drop k (by omega)).take 32 (by omega))
        have p2 : ∀ q, Bytes (wr.drewN q) (some ⟨b2, o2 + k, none⟩) 32 (c2 - k) ((l2.drop k).take 32) := fun q => (HD.out.more q).bytes ((H2.out.drop k (by omega)).take 32 (by omega))
        have HQ : Hid (∀ q, Calls Try.prog 26 #[.slice (some ⟨b1, o1 + k, none⟩) 32 (c1 - k), .slice (some ⟨b2, o2 + k, none⟩) 32 (c2 - k)] (wr.drewN q) fun e w' => e = .returned (.bool K) ∧ w' = wr.drewN q) := Lib.hid fun q => equal_any _ (p1 q) (p2 q) K hK.symm
        have HF : Hid (K = true → k + 32 ≤ N ∧ ∀ i, i < k + 32 → l1[i]? = l2[i]?) := Lib.hid fun e => ⟨h32, fun i hi => by
          by_cases hik : i < k
          · exact HE.out i hik
          · rw [e] at hK
            have hK' : ((l1.drop k).take 32)[i - k]? = ((l2.drop k).take 32)[i - k]? := by rw [beq_iff_eq.1 hK.symm]
            rw [List.getElem?_take, if_pos (by omega), List.getElem?_take, if_pos (by omega), List.getElem?_drop, List.getElem?_drop, show k + (i - k) = i from by omega] at hK'
            exact hK'⟩
        clear hK p1 p2 HE
        have e1 : IntKind.i64.wrap ((k : Int) + 32) = (k : Int) + 32 := IntWalk.i64_in _ (by omega)
        have e2 : (0 : Int) ≤ (k : Int) + 32 := by omega
        have e3 : ((k : Int) + 32).toNat = k + 32 := by omega
        have e4 : ¬ c1 = k := by omega
        have e5 : ¬ c2 = k := by omega
        have e6 : (k : Int) + 32 ≤ (c1 : Int) := by omega
        have e7 : (k : Int) + 32 ≤ (c2 : Int) := by omega
        go_quiet ((go_at_call 26; refine Calls.quiet_of_same (HQ.out _)))
        clear e1 e2 e3 e4 e5 e6 e7 g1 g1n HQ
        go_wp2_with fail
        go_meet
        case rel => exact ⟨K, rfl, Lib.hid (HD.out.more nq), HF⟩
      · have g1 : decide ((k : Int) + 32 ≤ (N : Int)) = false := by simp; omega
        have g1n : decide (k + 32 ≤ N) = false := by simp; omega
        have e1 : IntKind.i64.wrap ((k : Int) + 32) = (k : Int) + 32 := IntWalk.i64_in _ (by omega)
        go_quiet (fail)
        clear e1 g1 g1n
        go_wp2_with fail
        go_meet
        case rel => exact ⟨false, rfl, Lib.hid (HD.out.more nq), Lib.hid (fun e => by cases e)⟩
    obtain ⟨K, rfl, HD2, HK⟩ := hcut
    cases K
    · clear HK HD
      go_wp2_with fail
      go_loopw [5] (fun v wr => ∃ k : Nat, k ≤ N ∧ v = .int .i64 (k : Int) ∧ Hid (Drew w wr) ∧ Hid (∀ i, i < k → l1[i]? = l2[i]?)) (fun v _ => N - (intOf v).toNat)
      case atStart => exact ⟨k, hk, rfl, HD2, HE⟩
      case round =>
        clear HE HD2
        clear hk
        obtain ⟨j, hj, rfl, HD, HE⟩ := hrel
        by_cases hlt : j < N
        · have hj1 : j < l1.length := by rw [HL1.out]; omega
          have hj2 : j < l2.length := by rw [HL2.out]; omega
          have x1 := byte_at (HD.out.bytes H1.out) j hj1
          have x2 := byte_at (HD.out.bytes H2.out) j hj2
          have g1 : decide (j < N) = true := by simp; omega
          have g2 : j < n1 := by omega
          have g3 : j < n2 := by omega
          have HS1 : Hid (l1[j]? = some l1[j]) := Lib.hid (List.getElem?_eq_getElem hj1)
          have HS2 : Hid (l2[j]? = some l2[j]) := Lib.hid (List.getElem?_eq_getElem hj2)
          generalize l1[j] = x at *
          generalize l2[j] = y at *
          by_cases hxy : x = y
          · subst hxy
            have g4 : (((x.toNat : Nat) : Int) == ((x.toNat : Nat) : Int)) = true := by simp
            go_wp2_with fail
            go_quiet (fail)
            clear x1 x2 g1 g4
            go_wp2_with fail
            go_roundw
            case rel => exact ⟨j + 1, by omega, by go_num, Lib.hid (HD.out.more nq), Lib.hid (fun i hi => by
              by_cases hij : i < j
              · exact HE.out i hij
              · obtain rfl : i = j := by omega
                rw [HS1.out, HS2.out])⟩
            case measure => simp [intOf]; omega
          · have hne : ¬ (x.toNat : Int) = (y.toNat : Int) := fun e => hxy (UInt8.toNat_inj.1 (by omega))
            have g4 : (((x.toNat : Nat) : Int) == ((y.toNat : Nat) : Int)) = false := by simpa using hne
            go_wp2_with fail
            go_quiet (fail)
            clear x1 x2 g1 g4 hne
            go_wp2_with fail
            go_ret
            exact ⟨ret_int (by rw [pre_eq l1 l2 j (by omega) (by omega) HE.out (.inr (.inr (by rw [HS1.out, HS2.out]; exact fun e => hxy (Option.some.inj e))))]), HD.out.more nq⟩
        · have g1 : decide (j < N) = false := by simp; omega
          go_wp2_with fail
          go_quiet (fail)
          clear g1
          go_wp2_with fail
          go_ret
          have e1 := HL1.out
          have e2 := HL2.out
          have e3 := HN.out
          exact ⟨ret_int (by rw [pre_eq l1 l2 j (by omega) (by omega) HE.out (by omega)]), HD.out.more nq⟩
    · obtain ⟨h32, hE⟩ := HK.out rfl
      have HE2 := Lib.hid hE
      clear hE HK HE
      go_wp2_with fail
      go_roundw
      case rel => exact ⟨k + 32, h32, by go_num, HD2, HE2⟩
      case measure => simp [intOf]; omega
end Go.Proofs.Ytfdfggomgaegoaa.MatC
