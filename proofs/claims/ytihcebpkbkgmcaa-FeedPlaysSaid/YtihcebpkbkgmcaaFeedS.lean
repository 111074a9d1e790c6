import Derived.Test.YtihcebpkbkgmcaaFeedT
import Derived.Test.YtihcebpkbkgmcaaFeedO
namespace Go.Proofs.Ytihcebpkbkgmcaa.FeedC
open Go.RowKit Go.My BitMath RefC

theorem txt_sub (L : List Bool) (i j : Nat) (_h : i ≤ j) : (txt L).extract i j = txt ((L.drop i).take (j - i)) := by
  apply ByteArray.ext
  rw [ByteArray.data_extract]
  unfold txt
  apply Array.ext'
  simp [List.extract_eq_take_drop, List.map_take, List.map_drop]

/-- What the rounds of FeedPlays keep: all bits L, their text t, the place. -/
structure St (w wr : World) (F : Nat → Prop) (L : List Bool) (t : ByteArray) (at_ p : Nat) (en : Bool) : Prop where
  kept : Kept w wr (w.heap.size + 1) F (L.drop at_) p en
  txt_ : t = txt L
  psh : 8 * p = L.length
  le : at_ ≤ L.length

section
variable {w wr w2 : World} {F : Nat → Prop} {L : List Bool} {t : ByteArray} {at_ p : Nat} {en : Bool}
theorem St.later (h : St w wr F L t at_ p en) (hb : Below wr.heap.size wr w2) : St w w2 F L t at_ p en := ⟨h.kept.later hb, h.txt_, h.psh, h.le⟩
theorem St.drewN (h : St w wr F L t at_ p en) (n : Nat) : St w (wr.drewN n) F L t at_ p en := ⟨h.kept.drewN n, h.txt_, h.psh, h.le⟩
theorem St.size (h : St w wr F L t at_ p en) : t.size = L.length := by rw [h.txt_, txt_len]
theorem St.len (h : St w wr F L t at_ p en) : (L.drop at_).length = t.size - at_ := by rw [List.length_drop, h.size]

theorem bits_k (H : Hid (St w wr F L t at_ p en)) (hl : t.size ≤ 100000) :
    Calls Try.prog 16 #[.pointer (some ⟨w.heap.size + 1, 0, none⟩)] wr fun e w' => e = .returned (.int .i64 ((t.size : Int) - (at_ : Int))) ∧ Hid (St w w' F L t at_ p en) ∧ ∃ n, w' = wr.drewN n := by
  have h1 := H.out.len
  have h2 := H.out.le
  have h3 := H.out.size
  refine (bits_any _ _ p F _ en wr H.out.kept.feed (by omega)).mono fun e w' ⟨he, n, hw⟩ => ?_
  subst hw
  exact ⟨by rw [he]; exact ret_int (by rw [h1]; omega), Lib.hid (H.out.drewN n), n, rfl⟩
theorem used_k (H : Hid (St w wr F L t at_ p en)) (hl : t.size ≤ 100000) :
    Calls Try.prog 17 #[.pointer (some ⟨w.heap.size + 1, 0, none⟩)] wr fun e w' => e = .returned (.int .i64 (((at_ : Int) + 7) / 8)) ∧ Hid (St w w' F L t at_ p en) ∧ ∃ n, w' = wr.drewN n := by
  have h1 := H.out.len
  have h2 := H.out.le
  have h3 := H.out.size
  have h4 := H.out.psh
  refine (used_any _ _ p F _ en wr H.out.kept.feed (by omega) (by omega)).mono fun e w' ⟨he, n, hw⟩ => ?_
  subst hw
  exact ⟨by rw [he]; exact ret_int (by rw [h1]; omega), Lib.hid (H.out.drewN n), n, rfl⟩
theorem ended_k (H : Hid (St w wr F L t at_ p en)) :
    Calls Try.prog 18 #[.pointer (some ⟨w.heap.size + 1, 0, none⟩)] wr fun e w' => e = .returned (.bool en) ∧ wr = w' :=
  ended_any _ _ p F _ en wr H.out.kept.feed
theorem held_k (H : Hid (St w wr F L t at_ p en)) (hl : t.size ≤ 100000) :
    Calls Try.prog 19 #[.pointer (some ⟨w.heap.size + 1, 0, none⟩)] wr fun e w' => ∃ x : Nat, e = .returned (.int .i64 (x : Int)) ∧ ¬ (t.size : Int) / 8 - (at_ : Int) / 8 + 8 < (x : Int) ∧ x ≤ 100000 ∧ Hid (St w w' F L t at_ p en) ∧ ∃ n, w' = wr.drewN n := by
  have h1 := H.out.len
  have h2 := H.out.le
  have h3 := H.out.size
  refine (held_any _ _ p F _ en wr H.out.kept.feed (by omega)).mono fun e w' ⟨he, n, hw⟩ => ?_
  subst hw
  exact ⟨_, he, by rw [h1]; omega, by rw [h1]; omega, Lib.hid (H.out.drewN n), n, rfl⟩

/-- A call on the Feed that leaves it at another place. -/
theorem St.done {b2 : List Bool} {p2 : Nat} {e2 : Bool} (h : St w wr F L t at_ p en) (hd : Done w.heap.size (w.heap.size + 1) F wr b2 p2 e2 w2) (L2 : List Bool) (t2 : ByteArray) (a2 : Nat) (hb : b2 = L2.drop a2) (ht : t2 = txt L2) (hp : 8 * p2 = L2.length) (hl : a2 ≤ L2.length) :
    ∃ F2, St w w2 F2 L2 t2 a2 p2 e2 ∧ Only F wr w2 ∧ ∀ k, F2 k → F k ∨ wr.heap.size ≤ k := by
  obtain ⟨F2, h1, h2, h3⟩ := h.kept.done hd
  rw [hb] at h1
  exact ⟨F2, ⟨h1, ht, hp, hl⟩, h2, h3⟩
end

theorem push_all (B f pushed : Nat) (F : Nat → Prop) (bs : List Bool) (en : Bool) (w : World) (h : Fed B w f F bs pushed en) (a : Option Addr) (len cap : Nat) (l : List UInt8) (hb : Bytes w a len cap l) (hfar : ∀ b off, a = some ⟨b, off, none⟩ → ¬ F b)
    (hl : bs.length ≤ 1000000000) (hp : pushed ≤ 1000000000) (hlen : len ≤ 1000000000) :
    Calls Try.prog 7 #[.pointer (some ⟨f, 0, none⟩), .slice a len cap] w fun e w' => e = .returned (.tuple #[]) ∧ Done B f F w (bs ++ if en then [] else bitsOf l) (pushed + if en then 0 else len) en w' := by
  cases en with
  | true => exact (push_ended B f pushed F bs w h _).mono fun e w' ⟨he, hw⟩ => by subst hw; exact ⟨he, by simpa using Done.refl h⟩
  | false => exact push_open B f pushed F bs w h a len cap l hb hfar hl hp hlen

theorem conv {X : World} {ad : Option Addr} {n c : Nat} {l : List UInt8} (h : Bytes X ad n c l) : (convert 25 9 (.slice ad n c)).run Try.prog X = .ok (.string ⟨l.toArray⟩) X :=
  run_string_bytes X 25 9 5 Try.underlying25 Try.underlying5 Try.underlying9 h
theorem nil_of_bits {l : List UInt8} (h : bitsOf l = []) : l = [] := by
  have := congrArg List.length h
  rw [bitsOf_len] at this
  rw [List.length_nil] at this
  exact List.length_eq_zero_iff.1 (by omega)
theorem pack_of_bits {l : List UInt8} {Q : List Bool} (h : bitsOf l = Q) : l = pack Q := by rw [← h, pack_bitsOf]
end Go.Proofs.Ytihcebpkbkgmcaa.FeedC
