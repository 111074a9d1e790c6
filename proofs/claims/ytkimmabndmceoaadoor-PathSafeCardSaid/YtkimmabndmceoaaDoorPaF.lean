/-
  strings.Builder as path.Clean uses it: a builder in block g that holds some bytes, and what else stays.
-/
import Derived.Test.YtkimmabndmceoaaDoorPaC
import Derived.Test.YtkimmabndmceoaaDoorPaShW
import Derived.Shelf.Strings.BuilderK
namespace Go.Proofs.YtkimmabndmceoaaDoor.PaC
open Go.RowKit Go.My PaMath

/-- The builder in block g holds these bytes. -/
def Bld (g : Nat) (bs : List UInt8) (w : World) : Prop := Lib.BuilderAtF 39 5 g g (.pointer (some ⟨g, 0, none⟩)) (Lib.byteCells bs) w
theorem bld_same {g : Nat} {bs : List UInt8} {w w' : World} (h : Bld g bs w) (hk : ∀ k c t fz, (k = g ∨ t = 5) → w.heap[k]? = some (.cells c t fz) → w'.heap[k]? = some (.cells c t fz)) : Bld g bs w' := by
  obtain ⟨hB, v, hb, hown, hne⟩ := h
  refine ⟨hB, v, hk g _ _ _ (.inl rfl) hb, ⟨hown.1, ?_⟩, hne⟩
  rcases hown.2 with h0 | ⟨g', cap, cur, fz, hv, hg, hh, r⟩
  · exact .inl h0
  · exact .inr ⟨g', cap, cur, fz, hv, hg, hk g' _ _ _ (.inr rfl) hh, r⟩
theorem bld_len (bs : List UInt8) : (Lib.byteCells bs).length = bs.length := by simp [Lib.byteCells]
theorem bld_app (a b : List UInt8) : Lib.byteCells (a ++ b) = Lib.byteCells a ++ Lib.byteCells b := by simp [Lib.byteCells]

theorem grow_any (g n : Nat) (w : World) (h : Blk w g 39 #[.pointer none, .slice none 0 0]) (hn : n ≤ 1000000) :
    Calls Tryd.prog 22 #[.pointer (some ⟨g, 0, none⟩), .int .i64 (n : Int)] w fun e w' => (∃ v, e = .returned v) ∧ Bld g [] w' ∧ Below g w w' :=
  (Any.Builder_Grow_fresh Tryd.lays165 Tryd.Builder_Extra_165 g g n w (Nat.le_refl _) h (Nat.le_of_lt h.lt) (by omega)).mono fun _ _ ⟨he, hb, hB⟩ => ⟨⟨_, he⟩, Lib.BuilderAtF.of hb, hB⟩
theorem len_any (g : Nat) (bs : List UInt8) (w : World) (h : Bld g bs w) :
    Calls Tryd.prog 25 #[.pointer (some ⟨g, 0, none⟩)] w fun e w' => e = .returned (.int .i64 (bs.length : Int)) ∧ w = w' :=
  (Any.Builder_Len_f Tryd.lays170 g g _ w (.inr h)).mono fun _ _ ⟨he, hw⟩ => ⟨by rw [he, bld_len], hw.symm⟩
theorem write_any (g : Nat) (bs : List UInt8) (s : ByteArray) (w : World) (h : Bld g bs w) (hl : bs.length + s.size ≤ 100000000) :
    Calls Tryd.prog 26 #[.pointer (some ⟨g, 0, none⟩), .string s] w fun e w' => (∃ v, e = .returned v) ∧ Bld g (bs ++ lst s) w' ∧ Below g w w' ∧ Lib.OthersKept 5 (some g) w w' :=
  (Any.Builder_WriteString_k Tryd.lays166 Tryd.Builder_Extra_166 g g _ s w (.inr h) (by rw [bld_len]; omega) (Nat.le_of_lt (Lib.BuilderAtF.lt h))).mono fun _ _ ⟨he, hb, hB, hO⟩ => ⟨⟨_, he⟩, by unfold Bld; rw [bld_app]; exact hb, hB, hO⟩
theorem string_any (g : Nat) (bs : List UInt8) (w : World) (h : Bld g bs w) :
    Calls Tryd.prog 27 #[.pointer (some ⟨g, 0, none⟩)] w fun e w' => e = .returned (.string (tx bs)) ∧ Below g w w' ∧ Lib.OthersKept 5 (some g) w w' :=
  (Any.Builder_String_any_k Tryd.lays169 Tryd.Builder_Extra_169 g g bs w (.inr h) (Nat.le_of_lt (Lib.BuilderAtF.lt h))).mono fun _ _ ⟨he, _, hB, hO⟩ => ⟨he, hB, hO⟩

/-- A block of cells of a type. -/
def Typ (W : World) (k : Nat) (t : TypeId) : Prop := ∃ cs, Blk W k t cs
theorem Typ.kept {W W' : World} {g k : Nat} {t : TypeId} (h : Typ W k t) (hO : Lib.OthersKept 5 (some g) W W') (ht : t ≠ 5) (hk : k ≠ g) : Typ W' k t := by
  obtain ⟨cs, hb⟩ := h
  exact ⟨cs, hO k _ hb (by simpa using hk) (fun c fz e => ht (by injection e))⟩
/-- The iterator's boxes. -/
def Bx (h : Nat) (W : World) : Prop := Typ W h 9 ∧ Typ W (h + 1) 9 ∧ Typ W (h + 2) 3
theorem Bx.kept {W W' : World} {g h : Nat} (hb : Bx h W) (hO : Lib.OthersKept 5 (some g) W W') (hk : g < h) : Bx h W' :=
  ⟨hb.1.kept hO (by decide) (by omega), hb.2.1.kept hO (by decide) (by omega), hb.2.2.kept hO (by decide) (by omega)⟩
theorem Bx.kps {W W' : World} {g h : Nat} (hb : Bx h W) (hO : Lib.OthersKept 5 (some g) W W') (hk : g < h) : KpS (BoxS h) W W' := by
  intro b t cs hs hB
  have ht : t ≠ 5 := by
    have hh : ∀ {k : Nat} {t' : TypeId}, Typ W k t' → Blk W k t cs → t = t' := fun ⟨cs', h'⟩ h2 => by
      unfold Blk at h' h2
      rw [h'] at h2
      injection h2 with h2
      injection h2 with _ h2
      exact h2.symm
    rcases hs with rfl | rfl | rfl
    · rw [hh hb.1 hB]; decide
    · rw [hh hb.2.1 hB]; decide
    · rw [hh hb.2.2 hB]; decide
  refine hO b _ hB ?_ (fun c fz e => ht (by injection e))
  rcases hs with rfl | rfl | rfl <;> simp <;> omega
theorem others_of {W W' : World} {g : Nat} {bs : List UInt8} (h : Bld g bs W) (hs : W.heap.size ≤ W'.heap.size) (hO : Lib.OthersKept 5 (some g) W W') : KeepsOthers W W' := ⟨hs, fun k o hk ho => by
  refine hO k o hk ?_ (fun c fz e => by subst e; cases ho)
  intro e
  injection e with e
  subst e
  obtain ⟨_, v, hb, _⟩ := h
  rw [hk] at hb
  injection hb with hb
  subst hb
  cases ho⟩
/-- What Clean's loop keeps. -/
def CleI (g h : Nat) (s : ByteArray) (w : World) (r : Nat) (W : World) : Prop := Bld g (sofar (lst s) r) W ∧ Bx h W ∧ Below g w W
theorem cle_own (g h : Nat) (s : ByteArray) (w : World) {B : Nat} (hB : g ≤ B) (hw : g ≤ w.heap.size) : OwnFrom B (CleI g h s w) := fun _ W W' row hI hg hr => by
  have hc : ∀ (k : Nat) (c : Array Value) (t : TypeId) (fz : Nat × Nat), W.heap[k]? = some (Obj.cells c t fz) → W'.heap[k]? = some (Obj.cells c t fz) := fun k c t fz hk => by
    refine (hg.block k (Array.getElem?_eq_some_iff.1 hk).1 fun e => ?_).trans hk
    obtain ⟨_, o, ho, hc⟩ := hr k e.symm
    rw [hk] at ho
    injection ho with ho
    subst ho
    cases hc
  refine ⟨bld_same hI.1 (fun k c t fz _ hk => hc k c t fz hk), ⟨?_, ?_, ?_⟩, hI.2.2.grown hg (Nat.le_trans hw hI.2.2.size) (fun k e => Nat.le_trans hB (hr k e).1)⟩
  · obtain ⟨cs, hb⟩ := hI.2.1.1; exact ⟨cs, hc _ _ _ _ hb⟩
  · obtain ⟨cs, hb⟩ := hI.2.1.2.1; exact ⟨cs, hc _ _ _ _ hb⟩
  · obtain ⟨cs, hb⟩ := hI.2.1.2.2; exact ⟨cs, hc _ _ _ _ hb⟩
theorem cle_mv {g h r : Nat} {s : ByteArray} {w W1 W2 : World} (hgh : g < h) (hI : CleI g h s w r W1) (hm : MvB h W1 W2) : CleI g h s w r W2 := by
  have hB := below_mv hI.2.2 hm (by omega)
  obtain ⟨v, rfl⟩ := hm
  obtain ⟨cs0, b0⟩ := hI.2.1.1
  obtain ⟨cs1, b1⟩ := hI.2.1.2.1
  obtain ⟨cs2, b2⟩ := hI.2.1.2.2
  refine ⟨bld_same hI.1 (fun k c t fz ht hk => ?_), ⟨⟨_, b0.set_ 0 v⟩, ⟨_, b1.same (Below.heap_setCell _ _ _ _ (by simp))⟩, ⟨_, b2.same (Below.heap_setCell _ _ _ _ (by simp))⟩⟩, hB⟩
  refine (Below.heap_setCell _ _ _ _ ?_).trans hk
  show k ≠ h
  intro e
  subst e
  rcases ht with rfl | rfl
  · omega
  · unfold Blk at b0
    rw [hk] at b0
    injection b0 with b0
    injection b0 with _ b0
    revert b0
    decide
end Go.Proofs.YtkimmabndmceoaaDoor.PaC
