/-
  gzip's reader of a header: fail, demand, number, skip, text.
-/
import Derived.Test.YtilfmmjjiiabgaaGzLib
import Derived.Test.YtilfmmjjiiabgaaNumB
import Derived.Test.YtilfmmjjiiabgaaMem
import Derived.Test.YtilfmmjjiiabgaaLater
import Derived.Orders
namespace Go.Proofs.Ytilfmmjjiiabgaa.GzC
open Go.RowKit Go.My GzMath
open Go.My.NumMath (num_lt)

/-- What is thrown. -/
def fault (c at_ : Int) : Value := .iface 64 (.agg #[.int .i64 c, .int .i64 at_])
def Thrown (c : Nat) (e : Ending) : Prop := ∃ at_ : Int, e = .panicked [{ v := fault (c : Int) at_, recovered := false }]

theorem only_bytes {S : Nat → Prop} {w w' : World} {a : Option Addr} {len cap : Nat} {l : List UInt8} (h : Only S w w') (hb : Bytes w a len cap l) (hS : 0 < len → ∀ b off, a = some ⟨b, off, none⟩ → ¬ S b) : Bytes w' a len cap l := by
  by_cases h0 : len = 0
  · exact ⟨hb.1, hb.2, hb.3, hb.4, .inl h0⟩
  · exact h.bytes hb (hS (by omega))
/-- A reader in memory: of the row l, so far on; what has turned since the world w0. -/
structure Rdr (w0 : World) (x : Nat) (a : Option Addr) (len cap : Nat) (l : List UInt8) (at_ : Nat) (w : World) : Prop where
  blk : Blk w x 49 #[.slice a len cap, .int .i64 (at_ : Int)]
  row : Bytes w a len cap l
  ne : 0 < len → ∀ b off, a = some ⟨b, off, none⟩ → b ≠ x
  only : Only (fun k => k = x) w0 w
  le : at_ ≤ len
  top : len ≤ 1099511627776
section
variable {w0 w w' : World} {x : Nat} {a : Option Addr} {len cap at_ : Nat} {l : List UInt8}
theorem Rdr.len_eq (h : Rdr w0 x a len cap l at_ w) : l.length = len := h.row.len_eq
theorem Rdr.below (h : Rdr w0 x a len cap l at_ w) (hb : Below w.heap.size w w') : Rdr w0 x a len cap l at_ w' :=
  ⟨h.blk.same (hb.block x h.blk.lt), h.row.below (Nat.le_refl _) hb, h.ne, h.only.then_below hb, h.le, h.top⟩
theorem Rdr.move (h : Rdr w0 x a len cap l at_ w) (k : Nat) (hk : k ≤ len) : Rdr w0 x a len cap l k (w.setCell ⟨x, 1, none⟩ (.int .i64 (k : Int))) := by
  have ho : Only (fun k => k = x) w (w.setCell ⟨x, 1, none⟩ (.int .i64 (k : Int))) := ((Only.refl (fun k => x = k) w).setCell (p := ⟨x, 1, none⟩) (fun _ => rfl) _).mono (fun _ _ h => h.symm)
  exact ⟨h.blk.set_ 1 _, only_bytes ho h.row (fun h0 b off hb hs => h.ne h0 b off hb hs), h.ne, h.only.trans ho (fun _ _ h => h), hk, h.top⟩
theorem Rdr.c0 (h : Rdr w0 x a len cap l at_ w) : w.cell? ⟨x, 0, none⟩ = some (.slice a len cap) := h.blk.cell 0
theorem Rdr.c1 (h : Rdr w0 x a len cap l at_ w) : w.cell? ⟨x, 1, none⟩ = some (.int .i64 (at_ : Int)) := h.blk.cell 1
theorem Rdr.f1 (h : Rdr w0 x a len cap l at_ w) : w.frozen? ⟨x, 1, none⟩ = false := h.blk.frozen 1
end

theorem caught_nil (w : World) : Calls Try.prog 17 #[.nilIface] w fun e w' => e = .returned (.int .i64 0) ∧ w = w' := by
  go_enter Try.func17, Try.ntmps17
  go_wp2
  go_ret
  exact ⟨rfl, rfl⟩
set_option maxRecDepth 100000 in
theorem caught_fault (c at_ : Int) (w : World) : Calls Try.prog 17 #[fault c at_] w fun e w' => e = .returned (.int .i64 c) ∧ Below w.heap.size w w' := by
  unfold fault
  have hta : ∀ w, (Instr.typeAssert (.iface 64 (.agg #[.int .i64 c, .int .i64 at_])) 20 64 true).run Try.prog w = .ok (.tuple #[.agg #[.int .i64 c, .int .i64 at_], .bool true]) w := fun _ => by kernel_rfl
  go_enter Try.func17, Try.ntmps17
  go_wp2
  go_ret
  exact ⟨rfl, (Below.refl _ _).alloc (Nat.le_refl _) _⟩

section
variable {w0 w : World} {x : Nat} {a : Option Addr} {len cap at_ : Nat} {l : List UInt8}
theorem fail_any (c : Nat) (h : Hid (Rdr w0 x a len cap l at_ w)) :
    Calls Try.prog 40 #[.pointer (some ⟨x, 0, none⟩), .int .i64 (c : Int)] w fun e w' => Thrown c e ∧ w = w' := by
  have h1 := h.out.c1
  clear h
  go_enter Try.func40, Try.ntmps40
  go_wp2_with fail
  exact ⟨rfl, ⟨_, rfl⟩, rfl⟩
theorem demand_yes (x : Nat) (w : World) :
    Calls Try.prog 29 #[.pointer (some ⟨x, 0, none⟩), .bool true] w fun e w' => e = .returned (.tuple #[]) ∧ w = w' := by
  go_enter Try.func29, Try.ntmps29
  go_wp2_with fail
  go_end0
  exact ⟨rfl, rfl⟩
theorem demand_no (h : Hid (Rdr w0 x a len cap l at_ w)) :
    Calls Try.prog 29 #[.pointer (some ⟨x, 0, none⟩), .bool false] w fun e w' => Thrown 2 e ∧ w = w' := by
  go_enter Try.func29, Try.ntmps29
  go_wp2_with fail
  refine (fail_any 2 h).mono ?_
  rintro e w' ⟨⟨k, rfl⟩, rfl⟩
  go_wp2_with fail
  exact ⟨rfl, ⟨_, rfl⟩, rfl⟩

/-- num.Little of n bytes, whether they are there or not. -/
theorem little_all (a : Option Addr) (len cap k n : Nat) (l : List UInt8) (w : World) (hb : Bytes w a len cap l) (h1 : 1 ≤ n) (h2 : n ≤ 8) :
    Calls Try.prog 41 #[.slice a len cap, .int .i64 (k : Int), .int .i64 (n : Int)] w fun e w' => e = .returned (.tuple #[.int .u64 ((if len < k + n then 0 else Go.My.NumMath.num false ((l.drop k).take n) : Nat) : Int), .int .i64 ((if len < k + n then 5 else 0 : Nat) : Int)]) ∧ Below w.heap.size w w' := by
  by_cases h : len < k + n
  · rw [if_pos h, if_pos h]
    exact NumC.little_short a len cap k n w (by have := hb.le_cap; have := hb.cap_le; omega) (by omega) (by omega) (.inr (by omega))
  · rw [if_neg h, if_neg h]
    obtain ⟨b, off, rfl⟩ := hb.some_ (by omega)
    exact NumC.little_ok b off len cap k n l w hb h1 h2 (by omega)

set_option maxRecDepth 100000 in
set_option maxHeartbeats 1000000 in
theorem number_any (n : Nat) (h : Hid (Rdr w0 x a len cap l at_ w)) (h1 : 1 ≤ n) (h2 : n ≤ 4) :
    Calls Try.prog 30 #[.pointer (some ⟨x, 0, none⟩), .int .i64 (n : Int)] w fun e w' =>
      (l.length < at_ + n ∧ Thrown 5 e ∧ Only (fun k => k = x) w0 w') ∨
      (at_ + n ≤ l.length ∧ e = .returned (.int .i64 (Go.My.NumMath.num false ((l.drop at_).take n) : Int)) ∧ Hid (Rdr w0 x a len cap l (at_ + n) w')) := by
  have hlen := h.out.len_eq
  have htop := h.out.top
  have c0 : ∀ p : Later w, p.at'.cell? ⟨x, 0, none⟩ = some (.slice a len cap) := fun p => (h.out.below p.kept).c0
  have c1 : ∀ p : Later w, p.at'.cell? ⟨x, 1, none⟩ = some (.int .i64 (at_ : Int)) := fun p => (h.out.below p.kept).c1
  have HL : Hid (∀ p : Later w, Calls Try.prog 41 #[.slice a len cap, .int .i64 (at_ : Int), .int .i64 (n : Int)] p.at' fun e w' => e = .returned (.tuple #[.int .u64 ((if len < at_ + n then 0 else Go.My.NumMath.num false ((l.drop at_).take n) : Nat) : Int), .int .i64 ((if len < at_ + n then 5 else 0 : Nat) : Int)]) ∧ ∃ q : Later w, w' = q.at') := Lib.hid fun p => later_of (little_all a len cap at_ n l p.at' (h.out.row.below (Nat.le_refl _) p.kept) h1 (by omega))
  have HN := Lib.hid (And.intro hlen (And.intro h1 h2))
  clear hlen h1 h2
  by_cases hs : len < at_ + n
  · simp only [if_pos hs] at HL
    go_enter Try.func30, Try.ntmps30
    go_wp2_with (refine wp_region_later (by kernel_rfl) (by kernel_rfl) ?_)
    repeat (go_big_quiet_step (first | (go_at_call 41; exact HL.out _)))
    refine wpQuiet_nil ?_
    rintro _ ⟨p, rfl⟩
    have HR := Lib.hid (h.out.below p.kept)
    clear c0 c1 HL h
    generalize p.at' = W at *
    go_wp2_with fail
    refine (fail_any 5 HR).mono ?_
    rintro e w' ⟨⟨k, rfl⟩, rfl⟩
    go_wp2_with fail
    exact ⟨rfl, .inl ⟨by have := HN.out.1; omega, ⟨_, rfl⟩, HR.out.only⟩⟩
  · simp only [if_neg hs] at HL
    obtain ⟨v, hv⟩ : ∃ v, v = Go.My.NumMath.num false ((l.drop at_).take n) := ⟨_, rfl⟩
    have hvlt : v < 4294967296 := by
      have := num_lt false ((l.drop at_).take n)
      have hl2 : ((l.drop at_).take n).length = n := by simp; have := HN.out.1; omega
      have h4 := HN.out.2.2
      have h5 := Nat.pow_le_pow_right (show 1 ≤ 256 by omega) h4
      rw [hl2] at this
      omega
    rw [← hv] at HL ⊢
    have HV := Lib.hid hv
    have w1 : IntKind.i64.wrap ((at_ : Int) + (n : Int)) = ((at_ + n : Nat) : Int) := by rw [IntWalk.i64_in _ (by have := HN.out.2.2; omega)]; omega
    have w2 : IntKind.i64.wrap (v : Int) = (v : Int) := IntWalk.i64_in _ (by omega)
    clear hv
    go_enter Try.func30, Try.ntmps30
    go_wp2_with (refine wp_region_later (by kernel_rfl) (by kernel_rfl) ?_)
    repeat (go_big_quiet_step (first | (go_at_call 41; exact HL.out _)))
    refine wpQuiet_nil ?_
    rintro _ ⟨p, rfl⟩
    have HR := Lib.hid (h.out.below p.kept)
    clear c0 c1 HL h
    generalize p.at' = W at *
    have c1 := HR.out.c1
    have f1 := HR.out.f1
    go_wp2_with fail
    go_ret
    exact .inr ⟨by have := HN.out.1; omega, rfl, Lib.hid (HR.out.move (at_ + n) (by omega))⟩

set_option maxRecDepth 100000 in
set_option maxHeartbeats 1000000 in
theorem skip_any (n : Nat) (h : Hid (Rdr w0 x a len cap l at_ w)) (hn : n ≤ 1099511627776) :
    Calls Try.prog 32 #[.pointer (some ⟨x, 0, none⟩), .int .i64 (n : Int)] w fun e w' =>
      (l.length < at_ + n ∧ Thrown 5 e ∧ Only (fun k => k = x) w0 w') ∨ (at_ + n ≤ l.length ∧ e = .returned (.tuple #[]) ∧ Hid (Rdr w0 x a len cap l (at_ + n) w')) := by
  have hlen := h.out.len_eq
  have htop := h.out.top
  have hle := h.out.le
  have c0 : w.cell? ⟨x, 0, none⟩ = some (.slice a len cap) := h.out.c0
  have c1 : w.cell? ⟨x, 1, none⟩ = some (.int .i64 (at_ : Int)) := h.out.c1
  have c0' : w.drew.cell? ⟨x, 0, none⟩ = some (.slice a len cap) := h.out.c0
  have c1' : w.drew.cell? ⟨x, 1, none⟩ = some (.int .i64 (at_ : Int)) := h.out.c1
  have f1 : w.drew.frozen? ⟨x, 1, none⟩ = false := h.out.f1
  have HR : Hid (Rdr w0 x a len cap l at_ w.drew) := Lib.hid (h.out.below ((Below.refl _ _).drew))
  have w1 : IntKind.i64.wrap ((len : Int) - (at_ : Int)) = (len : Int) - (at_ : Int) := IntWalk.i64_in _ (by omega)
  have HN := Lib.hid hlen
  clear h hlen
  by_cases hs : len < at_ + n
  · have hd : decide ((n : Int) > (len : Int) - (at_ : Int)) = true := by simp; omega
    go_enter Try.func32, Try.ntmps32
    go_wp2_with fail
    go_region
    all_goals
      go_wp2_with fail
      refine (fail_any 5 HR).mono ?_
      rintro e w' ⟨⟨k, rfl⟩, rfl⟩
      go_wp2_with fail
      exact ⟨rfl, .inl ⟨by have := HN.out; omega, ⟨_, rfl⟩, HR.out.only⟩⟩
  · have hd : decide ((n : Int) > (len : Int) - (at_ : Int)) = false := by simp; omega
    have w2 : IntKind.i64.wrap ((at_ : Int) + (n : Int)) = ((at_ + n : Nat) : Int) := by rw [IntWalk.i64_in _ (by omega)]; omega
    go_enter Try.func32, Try.ntmps32
    go_wp2_with fail
    go_region
    all_goals
      go_wp2_with fail
      go_end0
      exact .inr ⟨by have := HN.out; omega, rfl, Lib.hid (HR.out.move (at_ + n) (by omega))⟩
end
end Go.Proofs.Ytilfmmjjiiabgaa.GzC
