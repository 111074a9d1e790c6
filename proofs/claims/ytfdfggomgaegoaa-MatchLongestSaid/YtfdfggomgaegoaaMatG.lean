/-
  literal, literals, longer.
-/
import Derived.Test.YtfdfggomgaegoaaMatE
import Derived.Test.YtfdfggomgaegoaaMatTok
import Derived.Test.YtfdfggomgaegoaaTok
namespace Go.Proofs.Ytfdfggomgaegoaa.MatC
open Go.RowKit Go.My MatMath LzC

theorem lit_ret {a : Act} {w : World} {g : Nat} {C : Array Value} {R : Ending → World → Prop} (hd : a.defers = []) (hp : a.tmps.getD 2 undef = .pointer (some ⟨g, 0, none⟩))
    (hg : Blk w g 45 C) (hs : C.size = 3) (h : R (.returned (.agg C)) w) :
    bodyPost Try.prog Try.f23 R .ret a w := by
  refine bodyPost_ret (v := .agg C) ?_ hd h
  have hp' : a.tmps[2]?.getD undef = .pointer (some ⟨g, 0, none⟩) := by simpa using hp
  have hi : (Try.prog.info? 45).map (·.size) = some 3 := by kernel_rfl
  simp [results, hp', asAddr, run_loadVar_row (P := Try.prog) w g 45 45 C (0, 0) _ hg Try.underlying45 rfl (by rw [hs]; exact hi)]
theorem literal_any (c : UInt8) (w : World) : Calls Try.prog 23 #[.int .u8 (c.toNat : Int)] w fun e w' => e = .returned (.agg #[.int .i64 0, .int .i64 0, .int .u8 (c.toNat : Int)]) ∧ Below w.heap.size w w' := by
  go_enter Try.func23, Try.ntmps23
  go_wp2_with fail
  refine lit_ret rfl rfl (Blk.new w _ _) rfl ⟨rfl, (Below.refl _ _).alloc (Nat.le_refl _) _⟩

/-- A block of one token. -/
theorem one_tok (w : World) (t : LzMath.Tok) (h : Wf t) : TokIn (w.alloc (.cells (tc t) 45)) (some ⟨w.heap.size, 0, none⟩) 1 1 (fun _ => t) := by
  refine ⟨Nat.le_refl _, by omega, (fun h => by cases h), .inr ⟨w.heap.size, 0, rfl, fun i hi => ?_⟩⟩
  obtain rfl : i = 0 := by omega
  have hk := Blk.new w 45 (tc t)
  exact ⟨by rw [hk.cell]; rfl, by rw [hk.cell]; rfl, by rw [hk.cell]; rfl, by simp, h⟩
theorem join_next (f : Nat → LzMath.Tok) (n : Nat) (t : LzMath.Tok) (h : f n = t) : ∀ i, i < n + 1 → LzMath.join f n (fun _ => t) i = f i := by
  intro i hi
  by_cases h1 : i < n
  · exact LzMath.join_left h1
  · obtain rfl : i = n := by omega
    have := LzMath.join_right (f := f) (g := fun _ => t) (n := i) (k := 0)
    rw [Nat.add_zero] at this
    rw [this, h]
theorem OwnT_congr {base n : Nat} {w : World} {v : Value} {f g : Nat → LzMath.Tok} (h : OwnT base w v n f) (e : ∀ i, i < n → f i = g i) : OwnT base w v n g := by
  unfold OwnT at *
  rw [← toks_congr f g n e]
  exact h
theorem ownT_below {base n : Nat} {w w' : World} {v : Value} {f : Nat → LzMath.Tok} (h : OwnT base w v n f) {B : Nat} (hB : w.heap.size ≤ B) (hb : Below B w w') : OwnT base w' v n f := by
  refine World.ownsRow.kept h (row := none) ⟨hb.os, hb.tape, hb.output, hb.size, fun k hk _ => hb.block k (by omega)⟩ ?_
  by_cases hv : v.ownBlock = none
  · exact .inl hv
  · exact .inr hv

/-- Find at any index, its numbers. -/
theorem find_all (g : Nat) (p : Pl) (s : List UInt8) (a : Nat) (w : World) (h : Fnd w g p.store p.chain p.lazy p.good p.wide s) (hch : (Lit.int .i64 p.chain).wf = true) (n d : Nat) (hf : p.find s a = (n, d)) :
    Calls Try.prog 11 #[.pointer (some ⟨g, 0, none⟩), .int .i64 (a : Int)] w fun e w' => e = .returned (.tuple #[.int .i64 (n : Int), .int .i64 (d : Int)]) ∧ Drew w w' := by
  have e : nd (p.find s a) = .tuple #[.int .i64 (n : Int), .int .i64 (d : Int)] := by rw [hf]; rfl
  rw [← e]
  by_cases ha : a + 3 ≤ s.length
  · exact find_yes g p.store p.chain p.lazy p.good p.wide s a w h ha hch
  · have := find_no g p.store p.chain p.lazy p.good p.wide s (a : Int) w h (.inr (by omega))
    have e2 : findI s p.chain p.good p.wide (a : Int) = p.find s a := by unfold findI Pl.find; rw [if_pos (by omega)]; simp
    rw [e2] at this
    exact this
theorem longer_any (g : Nat) (p : Pl) (s : List UInt8) (a k : Nat) (w : World) (h : Fnd w g p.store p.chain p.lazy p.good p.wide s) (hch : (Lit.int .i64 p.chain).wf = true) (K : Bool) (hK : decide (k < (p.find s a).1) = K) :
    Calls Try.prog 22 #[.pointer (some ⟨g, 0, none⟩), .int .i64 (a : Int), .int .i64 (k : Int)] w fun e w' => e = .returned (.bool K) ∧ Drew w w' := by
  obtain ⟨n, d, hf⟩ : ∃ n d, p.find s a = (n, d) := ⟨_, _, rfl⟩
  have HC := Lib.hid (find_all g p s a w h hch n d hf)
  rw [hf] at hK
  simp only at hK
  clear hf h
  go_enter Try.func22, Try.ntmps22
  go_wp2_with fail
  refine HC.out.mono ?_
  rintro e w2 ⟨rfl, hd⟩
  have HD := Lib.hid hd
  clear HC hd
  go_wp2_with fail
  go_ret
  exact ⟨rfl, HD.out⟩
end Go.Proofs.Ytfdfggomgaegoaa.MatC
