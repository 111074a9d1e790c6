/-
  A window that was made in the call; a row of bytes of the call's own beside it.
-/
import Derived.Test.YtfjngfkehccigaaWinC
namespace Go.Proofs.Ytfjngfkehccigaa.WinC
open Go.RowKit Go.My WinMath

section
variable {B g S : Nat} {r : Option Nat} {w w' : World} {all : List UInt8}
/-- A window that was made behind w0, and nothing elder turned. -/
structure Kept (w0 w : World) (g S : Nat) (r : Option Nat) (all : List UInt8) : Prop where
  wn : Wn w0.heap.size w g S r all
  below : Below w0.heap.size w0 w
theorem Kept.left {w0 : World} (h : Kept w0 w g S r all) {all' : List UInt8} (hp : Left w0.heap.size g S r w all' w') : ∃ r', Kept w0 w' g S r' all' ∧ Only (Fp g r) w w' := by
  obtain ⟨r', h1, h2, h3⟩ := hp
  exact ⟨r', ⟨h1, h.below.trans (h2.below h.below.size h.wn.fp)⟩, h2⟩
theorem Kept.later {w0 : World} (h : Kept w0 w g S r all) (hb : Below w.heap.size w w') : Kept w0 w' g S r all := ⟨h.wn.below hb, h.below.trans (hb.mono h.below.size)⟩
end
theorem new_k (S : Nat) (w0 : World) (h1 : 0 < S) (h2 : S ≤ 65536) : Calls Try.prog 20 #[.int .i64 (S : Int)] w0 fun e w' =>
    e = .returned (.tuple #[.pointer (some ⟨w0.heap.size, 0, none⟩), .int .i64 0]) ∧ Hid (Kept w0 w' w0.heap.size S none []) :=
  (new_ok S w0 h1 h2).mono fun _ _ ⟨he, h3, h4⟩ => ⟨he, Lib.hid ⟨h3, h4⟩⟩
theorem put_k (c : UInt8) (w0 w : World) (g S : Nat) (r : Option Nat) (all : List UInt8) (h : Hid (Kept w0 w g S r all)) (hl : all.length ≤ 100000000000) :
    Calls Try.prog 21 #[.pointer (some ⟨g, 0, none⟩), .int .u8 (c.toNat : Int)] w fun e w' => e = .returned (.tuple #[]) ∧ ∃ r', Hid (Kept w0 w' g S r' (all ++ [c])) ∧ Hid (Only (Fp g r) w w') :=
  (put_any c _ g S r all w h.out.wn hl).mono fun _ _ ⟨he, hp⟩ => ⟨he, let ⟨r', h1, h2⟩ := h.out.left hp; ⟨r', Lib.hid h1, Lib.hid h2⟩⟩
theorem copy_k (d n : Nat) (w0 w : World) (g S : Nat) (r : Option Nat) (all : List UInt8) (h : Hid (Kept w0 w g S r all)) (hn : n ≤ 65538) (h1 : 1 ≤ d) (h2 : d ≤ min all.length S) (hl : all.length ≤ 10000000000) :
    Calls Try.prog 22 #[.pointer (some ⟨g, 0, none⟩), .int .i64 (d : Int), .int .i64 (n : Int)] w fun e w' =>
      ∃ b r', e = .returned (.tuple #[.slice (some ⟨b, 0, none⟩) n n, .int .i64 0]) ∧ Hid (Own 5 w.heap.size w' (.slice (some ⟨b, 0, none⟩) n n) (copy all d n)) ∧ Hid (Kept w0 w' g S r' (grow all d n)) ∧ Hid (Only (Fp g r) w w') :=
  (copy_ok d n _ g S r all w h.out.wn hn h1 h2 hl).mono fun _ _ ⟨b, he, ho, hp⟩ => let ⟨r', k1, k2⟩ := h.out.left hp; ⟨b, r', he, Lib.hid ho, Lib.hid k1, Lib.hid k2⟩


theorem conv {X : World} {B : Nat} {b : Addr} {n c : Nat} {l : List UInt8} (h : Own 5 B X (.slice (some b) n c) l) : (convert 29 9 (.slice (some b) n c)).run Try.prog X = .ok (.string ⟨l.toArray⟩) X := by
  obtain ⟨a', c', h1, h2⟩ := h.bytes
  simp only [Value.slice.injEq] at h1
  obtain ⟨rfl, rfl, rfl⟩ := h1
  exact run_string_bytes X 29 9 5 Try.underlying29 Try.underlying5 Try.underlying9 h2

/-- A window that was made in the call, and a row of bytes of the call's own beside it. -/
structure St (w wr : World) (g S : Nat) (r : Option Nat) (all L : List UInt8) (aa : Option Addr) (n ca : Nat) : Prop where
  kept : Kept w wr g S r all
  own : Own 5 w.heap.size wr (.slice aa n ca) L
  len : L.length = n
  sep : ∀ j, Value.ownBlock (.slice aa n ca) = some j → ¬ Fp g r j

section
variable {w wr w' : World} {g S n ca : Nat} {r : Option Nat} {all all' L : List UInt8} {aa : Option Addr}
theorem St.later (h : St w wr g S r all L aa n ca) (hb : Below wr.heap.size wr w') : St w w' g S r all L aa n ca := ⟨h.kept.later hb, h.own.below (Nat.le_refl _) hb, h.len, h.sep⟩
theorem St.left (h : St w wr g S r all L aa n ca) (hp : Left w.heap.size g S r wr all' w') : ∃ r', St w w' g S r' all' L aa n ca ∧ Only (Fp g r) wr w' := by
  obtain ⟨r', h1, h2, h3⟩ := hp
  refine ⟨r', ⟨⟨h1, h.kept.below.trans (h2.below h.kept.below.size h.kept.wn.fp)⟩, h2.own h.own (fun j hj e => h.sep j hj e), h.len, fun j hj hk => ?_⟩, h2⟩
  rcases hk with e | e
  · exact h.sep j hj (.inl e)
  · rcases h3 with e2 | ⟨i, e2, hi⟩
    · exact h.sep j hj (.inr (by rw [← e2]; exact e))
    · have := (World.ownsRow.lt h.own j hj).2
      rw [e2] at e
      injection e with e
      omega
theorem St.app (h : St w wr g S r all L aa n ca) {o : Obj} {a2 : Option Addr} {c2 m : Nat} {l2 : List UInt8} (hl : l2.length = m) (hown : Own 5 w.heap.size w' (.slice a2 (n + m) c2) (L ++ l2)) (hg : (wr.alloc o).grownBy w' (Value.ownBlock (.slice aa n ca)))
    (hn : Nxt (Value.ownBlock (.slice aa n ca)) (wr.heap.size + 1) (Value.ownBlock (.slice a2 (n + m) c2))) : St w w' g S r all (L ++ l2) a2 (n + m) c2 := by
  have hO : Only (fun k => Value.ownBlock (.slice aa n ca) = some k) wr w' := ((Only.refl _ wr).alloc o).grown hg (fun k _ hk => hk)
  refine ⟨⟨h.kept.wn.only hO (fun e => h.sep g e (.inl rfl)) (fun k hk e => h.sep k e (.inr hk)), h.kept.below.trans (hO.below h.kept.below.size (fun k hk => (World.ownsRow.lt h.own k hk).1))⟩, hown, by rw [List.length_append, h.len, hl], fun j hj hk => ?_⟩
  rcases hn with e | ⟨i, e, hi⟩
  · exact h.sep j (by rw [← e]; exact hj) hk
  · rw [e] at hj
    injection hj with hj
    have := h.kept.wn.flt j hk
    omega
/-- all[n0:] of a row of the call's own: it keeps its place where nothing is behind. -/
theorem tail_bytes {E : TypeId} {B : Nat} {X : World} {ga n n0 c : Nat} (h : Own E B X (.slice (some ⟨ga, 0, none⟩) n c) L) (hL : L.length = n) (h0 : n0 ≤ n) : Bytes X (if c = n0 then some ⟨ga, 0, none⟩ else some ⟨ga, n0, none⟩) (n - n0) (c - n0) (L.drop n0) := by
  obtain ⟨a', c', h1, h2⟩ := h.bytes
  simp only [Value.slice.injEq] at h1
  obtain ⟨rfl, -, rfl⟩ := h1
  rw [hL] at h2
  by_cases he : c = n0
  · have hn : n = n0 := by have := h2.le_cap; omega
    rw [if_pos he]
    exact ⟨by simp [hL], by omega, by omega, (fun h => by cases h), .inl (by omega)⟩
  · rw [if_neg he]
    have := h2.drop n0 h0
    rw [Nat.zero_add] at this
    exact this
theorem put_s (c : UInt8) (h : Hid (St w wr g S r all L aa n ca)) (hl : all.length ≤ 100000000000) :
    Calls Try.prog 21 #[.pointer (some ⟨g, 0, none⟩), .int .u8 (c.toNat : Int)] wr fun e w' => e = .returned (.tuple #[]) ∧ ∃ r', Hid (St w w' g S r' (all ++ [c]) L aa n ca) ∧ Hid (Only (Fp g r) wr w') :=
  (put_any c _ g S r all wr h.out.kept.wn hl).mono fun _ _ ⟨he, hp⟩ => ⟨he, let ⟨r', h1, h2⟩ := h.out.left hp; ⟨r', Lib.hid h1, Lib.hid h2⟩⟩
theorem copy_s (d m : Nat) (h : Hid (St w wr g S r all L aa n ca)) (hn : m ≤ 65538) (h1 : 1 ≤ d) (h2 : d ≤ min all.length S) (hl : all.length ≤ 10000000000) :
    Calls Try.prog 22 #[.pointer (some ⟨g, 0, none⟩), .int .i64 (d : Int), .int .i64 (m : Int)] wr fun e w' =>
      ∃ b r', e = .returned (.tuple #[.slice (some ⟨b, 0, none⟩) m m, .int .i64 0]) ∧ Hid (Own 5 wr.heap.size w' (.slice (some ⟨b, 0, none⟩) m m) (copy all d m)) ∧ Hid (St w w' g S r' (grow all d m) L aa n ca) :=
  (copy_ok d m _ g S r all wr h.out.kept.wn hn h1 h2 hl).mono fun _ _ ⟨b, he, ho, hp⟩ => let ⟨r', k1, _⟩ := h.out.left hp; ⟨b, r', he, Lib.hid ho, Lib.hid k1⟩
end

end Go.Proofs.Ytfjngfkehccigaa.WinC
