import Derived.Test.YtegkcoedhopegaaA
import Derived.Lib.SlBytesConst
namespace Go.Proofs.Ytegkcoedhopegaa
open Go.RowKit Go.My AdlerMath

def wiki : List UInt8 := [87, 105, 107, 105, 112, 101, 100, 105, 97]
def nine : Obj := .cells #[.int .u8 87, .int .u8 105, .int .u8 107, .int .u8 105, .int .u8 112, .int .u8 101, .int .u8 100, .int .u8 105, .int .u8 97] 5 (9, 10)
theorem nine_bytes (w : World) : Bytes (w.alloc nine) (some ⟨w.heap.size, 0, none⟩) 9 9 wiki := by
  refine ⟨rfl, by omega, by omega, (fun h => by cases h), .inr ⟨w.heap.size, 0, rfl, by simp, ?_⟩⟩
  intro i hi
  rw [cell_of_row _ _ _ _ _ _ (heap_alloc_new w nine)]
  match i, hi with
  | 0, _ | 1, _ | 2, _ | 3, _ | 4, _ | 5, _ | 6, _ | 7, _ | 8, _ => rfl
  | n + 9, h => simp [wiki] at h; omega

set_option maxHeartbeats 400000 in
theorem told_any (w : World) : Calls Try.prog 7 #[] w fun e w' => e = .returned (.bool true) ∧ Below w.heap.size w w' := by
  have kc := fun (w : World) (C : Array Value) (n c : Nat) => Lib.run_convert_bytes_const (P := Try.prog) w 23 5 C n c Try.underlying23 Try.underlying5
  have h1 : adler 1 wiki = 300286872 := by decide +kernel
  have h2 : adler 1 [] = 1 := by decide +kernel
  have H1 := Lib.hid h1
  have H2 := Lib.hid h2
  clear h1 h2
  go_enter Try.func7, Try.ntmps7
  go_wp2_with fail
  refine (sum_any _ 9 9 wiki _ (nine_bytes w)).mono ?_
  rintro e w1 ⟨rfl, rfl⟩
  rw [H1.out]
  go_wp2_with fail
  refine (sum_any none 0 0 [] _ (nil_bytes _)).mono ?_
  rintro e w2 ⟨rfl, rfl⟩
  rw [H2.out]
  go_wp2_with fail
  go_ret
  exact ⟨rfl, (Below.refl w.heap.size w).alloc (Nat.le_refl _) nine⟩

theorem info5 : (Try.prog.info? 5).map (fun i => (i.zero, i.size, i.bytes)) = some (some (.int .u8 0), 1, 1) := by kernel_rfl

set_option maxRecDepth 100000 in
set_option maxHeartbeats 1000000 in
theorem goes_law (c : Nat) (a1 : Option Addr) (len1 cap1 : Nat) (l1 : List UInt8) (a2 : Option Addr) (len2 cap2 : Nat) (l2 : List UInt8) (w : World) (hc : c < 4294967296) (hb1 : Bytes w a1 len1 cap1 l1) (hb2 : Bytes w a2 len2 cap2 l2) :
    Calls Try.prog 4 #[.int .u32 (c : Int), .slice a1 len1 cap1, .slice a2 len2 cap2] w fun e w' => e = .returned (.bool true) ∧ Below w.heap.size w w' := by
  have H1 := Lib.hid hb1
  have H2 := Lib.hid hb2
  have hm1 := hb1.cap_le
  have hl1 := hb1.le_cap
  have hm2 := hb2.cap_le
  have hl2 := hb2.le_cap
  clear hb1 hb2
  by_cases h : 300 < len1 ∨ 300 < len2
  · rcases h with h | h
    · go_enter Try.func4, Try.ntmps4
      go_wp2_with fail
      refine (told_any w).mono ?_
      rintro e w' ⟨rfl, hw⟩
      go_wp2_with fail
      go_ret
      exact ⟨rfl, hw⟩
    · go_enter Try.func4, Try.ntmps4
      go_wp2_with (go_at_call 7; refine (told_any w).mono ?_; rintro e w' ⟨rfl, hw⟩)
      all_goals go_ret
      all_goals exact ⟨rfl, hw⟩
  · have h1 : len1 ≤ 300 := by omega
    have h2 : len2 ≤ 300 := by omega
    go_enter Try.func4, Try.ntmps4
    go_wp2_with fail
    refine (told_any w).mono ?_
    rintro e w1 ⟨rfl, hw1⟩
    have H11 := Lib.hid (H1.out.below (Nat.le_refl _) hw1)
    have H21 := Lib.hid (H2.out.below (Nat.le_refl _) hw1)
    go_wp2_with (at_builtin; refine wpList_append_bytes rfl (.tmp 19) (.tmp 20) 23 rfl w1.heap.size 5 Try.underlying23 info5 _ [] rfl (Own.empty 5 w1 (Nat.le_refl _)) a1 len1 cap1 l1 rfl (H11.out.below (Nat.le_refl _) ((Below.refl _ _).alloc (Nat.le_refl _) _)) (by simp; omega) (by simp) ?_)
    intro v1 w2 hown1 hg1
    obtain rfl : len1 = l1.length := H1.out.len_eq.symm
    obtain rfl : len2 = l2.length := H2.out.len_eq.symm
    have hw2 := copied_below hown1 hg1
    have hsz2 := hw2.size
    have H22 := Lib.hid (H21.out.below (Nat.le_refl _) hw2)
    go_wp2_with (at_builtin; refine wpList_append_bytes rfl (.tmp 21) (.tmp 22) 23 rfl w1.heap.size 5 Try.underlying23 info5 v1 l1 rfl hown1 a2 l2.length cap2 l2 rfl H22.out (by omega) hsz2 ?_)
    intro v2 w3 hown2 hg2
    obtain ⟨a', c', rfl, hb', hw3⟩ := copied2 hown1 hg1 hown2 hg2
    have b3 := hw1.trans (hw3.mono hw1.size)
    have H13 := Lib.hid (H1.out.below (Nat.le_refl _) b3)
    have H23 := Lib.hid (H2.out.below (Nat.le_refl _) b3)
    clear hown1 hg1 hown2 hg2 hw2 hsz2
    have Hb3 := Lib.hid hb'
    clear hb'
    go_wp2_with fail
    refine (update_any c _ _ _ (l1 ++ l2) w3 hc Hb3.out).mono ?_
    rintro e w4 ⟨rfl, rfl⟩
    go_wp2_with fail
    refine (update_any c _ _ _ l1 w3 hc H13.out).mono ?_
    rintro e w4 ⟨rfl, rfl⟩
    go_wp2_with fail
    refine (update_any (adler c l1) _ _ _ l2 w3 (adler_lt _ _) H23.out).mono ?_
    rintro e w6 ⟨rfl, rfl⟩
    rw [← adler_append]
    go_wp2_with fail
    go_ret
    exact ⟨rfl, b3⟩
end Go.Proofs.Ytegkcoedhopegaa
