import Derived.Test.YtjejlhpnhkacmaaGreatDoorMgJ
import Derived.Test.YtjejlhpnhkacmaaGreatDoorMgA
import Derived.Test.YtjejlhpnhkacmaaGreatDoorRows
import Derived.Lib.LaidTab

section
/-
  Stored blocks: readSize, readBytes.
-/
namespace Go.Proofs.YtjejlhpnhkacmaaGreatDoor.InfC
open Go.RowKit Go.My BitMath CanMath TabMath WinMath FeedC TabC CanC
open WinC (Wn)
open InfMath (M Ok CodeOk mu lack fixL fixD)

theorem num_byte (b : UInt8) : num (lows 8 b.toNat) = b.toNat := by
  rw [num_lows, Nat.mod_eq_of_lt]
  have := b.toNat_lt; omega
theorem num_two (a b : UInt8) : num (bitsOf [a, b]) = a.toNat + 256 * b.toNat := by
  rw [bitsOf_cons, bitsOf_one, num_append, lows_len, num_byte, num_byte]
/-- Two bytes as one number. -/
theorem u16_two (a b : Nat) (ha : a < 256) (hb : b < 256) : bits .or .u16 (a : Int) ((b : Int) * 256) = ((a + 256 * b : Nat) : Int) := by
  rw [show (b : Int) * 256 = ((b * 2 ^ 8 : Nat) : Int) from by omega, u16_or_nat _ _ (by omega) (by omega), or_join 8 a b ha]

theorem u16_not (N : Nat) (h : N < 65536) : bits .xor .u16 65535 (N : Int) = ((65535 - N : Nat) : Int) := by
  rw [show (65535 : Int) = ((65535 : Nat) : Int) from rfl, u16_xor_nat _ _ (by omega) h]
  congr 1
  have h1 : (BitVec.allOnes 16 ^^^ BitVec.ofNat 16 N).toNat = (~~~(BitVec.ofNat 16 N)).toNat := by rw [BitVec.allOnes_xor]
  rw [BitVec.toNat_xor, BitVec.toNat_not, BitVec.toNat_allOnes, BitVec.toNat_ofNat, Nat.mod_eq_of_lt (by omega)] at h1
  exact h1
theorem Mv.of_drew {c c' : Nat → Nat} {w w' : World} (m : Mv c c' w.drew w') : Mv c c' w w' := ⟨Only.of_drewN (n := 1) m.only, m.col⟩
section
variable {B x : Nat} {w : World} {s : M} {d : Ad}
/-- Bytes are taken. -/
theorem take_at (n : Int) (h : Hid (At B w x s d)) (hb : s.bits.length ≤ 1000000000) :
    Calls Tryz.prog 56 #[.pointer (some ⟨d.f, 0, none⟩), .int .i64 n] w fun e w' => ∃ a c l, e = .returned (.tuple #[.slice a l.length c, .int .i64 (takeCode s.bits n)]) ∧ Own 5 w.heap.size w' (.slice a l.length c) l ∧ bitsOf l = takeBytes s.bits n ∧
      ∃ d', Hid (At B w' x { s with bits := takeBits s.bits n } d') ∧ Hid (Mv d.c d'.c w w') ∧ ∀ k, Value.ownBlock (.slice a l.length c) = some k → d'.c k = 0 := by
  refine (take_own n _ _ _ _ _ _ w h.out.rs.feed.1 hb).mono ?_
  rintro e w' ⟨a, c, l, rfl, ho, hl, F', h1, h2, h3, h4⟩
  refine ⟨a, c, l, rfl, ho, hl, ?_⟩
  have hB := h.out.rs.lt
  obtain ⟨c', hc'⟩ : ∃ c', c' = fun k => if Value.ownBlock (.slice a l.length c) = some k then 0 else recol w.heap.size d.c 2 k := ⟨_, rfl⟩
  have hlie : ∀ k, Value.ownBlock (.slice a l.length c) = some k → w.heap.size ≤ k := fun k hk => (World.ownsRow.lt ho k hk).1
  have hold : ∀ k, k < w.heap.size → c' k = d.c k := fun k hk => by
    rw [hc']
    by_cases e : Value.ownBlock (.slice a l.length c) = some k
    · have := hlie k e; omega
    · simp only; rw [if_neg e]; exact recol_old d.c hk
  have t : Turn 2 d.c c' w w' := ⟨h2.mono (fun k _ hk => h.out.rs.feed.2 k hk), hold⟩
  refine ⟨{ d with c := c', F := F' }, Lib.hid ⟨h.out.blk.same (t.only.block x h.out.lt (by rw [h.out.rs.cx]; decide)), h.out.rs.base, (hold x h.out.lt).trans h.out.rs.cx, fun k hk => (hold k (by omega)).trans (h.out.rs.low k hk), ⟨h1, fun k hk => ?_⟩, h.out.rs.win.turn t (by decide), h.out.rs.out.turn t (by decide), h.out.rs.lens.turn t (by decide), h.out.rs.t1.turn t (by decide), h.out.rs.t2.turn t (by decide), h.out.rs.t3.turn t (by decide), h.out.rs.t4.turn t (by decide), h.out.rs.t5.turn t (by decide)⟩, Lib.hid (t.mv (by decide)), fun k hk => by simp only; rw [hc']; simp only; rw [if_pos hk]⟩
  by_cases hk2 : k < w.heap.size
  · rcases h3 k hk with hF | hF
    · exact (hold k hk2).trans (h.out.rs.feed.2 k hF)
    · omega
  · simp only
    rw [hc']
    simp only
    rw [if_neg (fun e => h4 k e hk)]
    exact recol_new d.c (by omega)

/-- m bytes were taken. -/
def TakenAt (B x : Nat) (s : M) (d : Ad) (w : World) (m : Nat) (bv : Value) (w' : World) : Prop :=
  ∃ a c l d2, bv = .slice a l.length c ∧ Own 5 w.heap.size w' (.slice a l.length c) l ∧ bitsOf l = takeBytes s.bits (m : Int) ∧
    Hid (At B w' x { s with bits := takeBits s.bits (m : Int) } d2) ∧ Mv d.c d2.c w w' ∧ ∀ k, Value.ownBlock (.slice a l.length c) = some k → d2.c k = 0
theorem own_bytes {E : TypeId} {B : Nat} {w : World} {a : Option Addr} {n c : Nat} {l : List UInt8} (h : Own E B w (.slice a n c) l) (hn : l.length = n) : Bytes w a n c l := by
  subst hn
  obtain ⟨a', c', e, hb⟩ := h.bytes
  simp only [Value.slice.injEq, true_and] at e
  obtain ⟨rfl, rfl⟩ := e
  exact hb

theorem steps1_of {s t u : M} (h : InfMath.Steps s t) (k : InfMath.step t = .more u) : Steps1 s u := by
  cases h with
  | refl => exact ⟨u, k, .refl _⟩
  | cons h1 h2 => exact ⟨_, h1, h2.snoc k⟩
set_option maxRecDepth 100000 in
set_option maxHeartbeats 4000000 in
theorem size_any (h : Hid (At B w x s d)) (hn : s.next = 2) (hb : s.bits.length ≤ 1000000000) :
    Calls Tryz.prog 44 #[.pointer (some ⟨x, 0, none⟩)] w (Goes B x s d w) := by
  have HS : Hid (∀ t : M, t.next = 2 → InfMath.step t = InfMath.readSize t) := Lib.hid (fun t ht => by unfold InfMath.step; rw [ht]; rfl)
  have HN := Lib.hid hn
  have h2 : w.cell? ⟨x, 2, none⟩ = some (.pointer (some ⟨d.f, 0, none⟩)) := h.out.blk.cell 2
  obtain ⟨bs, hbs⟩ : ∃ bs, bs = s.bits.drop (s.bits.length % 8) := ⟨_, rfl⟩
  have hbl : bs.length = 8 * (s.bits.length / 8) := by rw [hbs, List.length_drop]; omega
  have HBS := Lib.hid hbs
  have HBL := Lib.hid hbl
  -- the machine, lined up
  have HA : Hid (InfMath.Steps s { s with bits := bs }) := Lib.hid (by
    by_cases h8 : s.bits.length % 8 = 0
    · rw [hbs, h8, List.drop_zero]; exact .refl _
    · refine .one ?_
      rw [HS.out s hn]
      unfold InfMath.readSize
      rw [if_pos h8, hbs])
  have HP : Hid (InfMath.step { s with bits := bs } = InfMath.readSize { s with bits := bs } ∧ ¬ (({ s with bits := bs } : M).bits.length % 8 ≠ 0)) := Lib.hid ⟨HS.out _ hn, by simp only; omega⟩
  go_enter Tryz.func44, Tryz.ntmps44
  go_wp2_with fail
  refine (take_at 4 h hb).mono ?_
  rintro e w1 ⟨a, c, l, rfl, ho, hl, d1, H1, M1, hcol⟩
  by_cases hlt : s.bits.length / 8 < 4
  · have e1 : takeCode s.bits 4 = 5 := by unfold takeCode; rw [if_neg (by omega), if_pos (by omega)]
    have e2 : takeBits s.bits 4 = bs := by unfold takeBits; rw [if_neg (by omega), if_pos (by omega), hbs]
    rw [e2] at H1
    rw [e1]
    have HO := Lib.hid (And.intro ho hcol)
    clear hl e1 e2 hbs hbl hcol ho hn h
    go_wp2_with fail
    refine (lack_any H1).mono ?_
    rintro e w' ⟨rfl, rfl⟩
    go_wp2_with fail
    refine ⟨rfl, d1, M1, .inr ⟨_, _, _, rfl, ⟨HA.out, ?_⟩, H1, rfl, rfl, fun _ => rfl⟩⟩
    rw [HP.out.1]
    unfold InfMath.readSize
    rw [if_neg HP.out.2, if_pos (show bs.length < 32 by have := HBL.out; omega)]
  · have e1 : takeCode s.bits 4 = 0 := by unfold takeCode; rw [if_neg (by omega), if_neg (by omega)]
    have e2 : takeBits s.bits 4 = bs.drop 32 := by unfold takeBits; rw [if_neg (by omega), if_neg (by omega), hbs]; rfl
    have e3 : takeBytes s.bits 4 = bs.take 32 := by unfold takeBytes; rw [if_neg (by omega), if_neg (by omega), hbs]; rfl
    rw [e2] at H1
    rw [e3] at hl
    rw [e1]
    have hl4 : l.length = 4 := by have := congrArg List.length hl; rw [bitsOf_len, List.length_take] at this; omega
    obtain ⟨b0, b1, b2, b3, rfl⟩ : ∃ b0 b1 b2 b3, l = [b0, b1, b2, b3] := by
      match l, hl4 with
      | [b0, b1, b2, b3], _ => exact ⟨b0, b1, b2, b3, rfl⟩
    have hby := own_bytes ho rfl
    obtain ⟨g, off, rfl⟩ := hby.some_ (by simp)
    obtain ⟨gg, oo, hgo, -, hcell⟩ := hby.at_.resolve_left (by simp)
    simp only [Option.some.injEq, Addr.mk.injEq, and_true] at hgo
    obtain ⟨rfl, rfl⟩ := hgo
    have c0 : w1.cell? ⟨g, off, none⟩ = some (.int .u8 (b0.toNat : Int)) := hcell 0 (by simp)
    have c1 : w1.cell? ⟨g, off + 1, none⟩ = some (.int .u8 (b1.toNat : Int)) := hcell 1 (by simp)
    have c2 : w1.cell? ⟨g, off + 2, none⟩ = some (.int .u8 (b2.toNat : Int)) := hcell 2 (by simp)
    have c3 : w1.cell? ⟨g, off + 3, none⟩ = some (.int .u8 (b3.toNat : Int)) := hcell 3 (by simp)
    have t0 := b0.toNat_lt
    have t1 := b1.toNat_lt
    have t2 := b2.toNat_lt
    have t3 := b3.toNat_lt
    have n1 : num (bs.take 16) = b0.toNat + 256 * b1.toNat := by
      rw [← num_two, show bs.take 16 = (bs.take 32).take 16 from by rw [List.take_take]; rfl, ← hl]
      rfl
    have n2 : num ((bs.drop 16).take 16) = b2.toNat + 256 * b3.toNat := by
      rw [← num_two, show (bs.drop 16).take 16 = (bs.take 32).drop 16 from by rw [List.drop_take], ← hl]
      rfl
    have HNum := Lib.hid (And.intro n1 n2)
    have o1 := u16_two b0.toNat b1.toNat t0 t1
    have o2 := u16_two b2.toNat b3.toNat t2 t3
    generalize b0.toNat = y0 at *
    generalize b1.toNat = y1 at *
    generalize b2.toNat = y2 at *
    generalize b3.toNat = y3 at *
    have v0 : IntKind.u16.wrap (y0 : Int) = (y0 : Int) := by rw [IntKind.wrap_u16]; omega
    have v1 : IntKind.u16.wrap (y1 : Int) = (y1 : Int) := by rw [IntKind.wrap_u16]; omega
    have v2 : IntKind.u16.wrap (y2 : Int) = (y2 : Int) := by rw [IntKind.wrap_u16]; omega
    have v3 : IntKind.u16.wrap (y3 : Int) = (y3 : Int) := by rw [IntKind.wrap_u16]; omega
    have u1 : IntKind.u16.wrap ((y1 : Int) * 256) = (y1 : Int) * 256 := by rw [IntKind.wrap_u16]; omega
    have u3 : IntKind.u16.wrap ((y3 : Int) * 256) = (y3 : Int) * 256 := by rw [IntKind.wrap_u16]; omega
    obtain ⟨N, hN⟩ : ∃ N, N = y0 + 256 * y1 := ⟨_, rfl⟩
    obtain ⟨I, hI⟩ : ∃ I, I = y2 + 256 * y3 := ⟨_, rfl⟩
    rw [← hN] at o1
    rw [← hI] at o2
    have HNI : Hid (num (bs.take 16) = N ∧ num ((bs.drop 16).take 16) = I) := Lib.hid ⟨HNum.out.1.trans hN.symm, HNum.out.2.trans hI.symm⟩
    have hN6 : N < 65536 := by omega
    have hI6 : I < 65536 := by omega
    have HO := Lib.hid (And.intro ho hcol)
    clear hl hl4 hby hcell e1 e2 e3 n1 n2 hN hI hcol ho hn h hbs hbl HNum t0 t1 t2 t3
    have hx := u16_not N hN6
    have hsg : (if IntKind.u16.signed = true then (-1 : Int) else IntKind.u16.max) = 65535 := by decide
    obtain ⟨J, hJ⟩ : ∃ J, J = 65535 - N := ⟨_, rfl⟩
    rw [← hJ] at hx
    have HJ := Lib.hid hJ
    clear hJ
    by_cases hq : I = J
    · subst hq
      have h8 : w1.cell? ⟨x, 8, none⟩ = some (.int .i64 (s.left : Int)) := H1.out.blk.cell 8
      have f8 := H1.out.blk.frozen 8
      have h6 : w1.cell? ⟨x, 6, none⟩ = some (.int .i64 (s.next : Int)) := H1.out.blk.cell 6
      have f6 := H1.out.blk.frozen 6
      have w8 : IntKind.i64.wrap (N : Int) = (N : Int) := IntWalk.i64_in _ (by omega)
      have H3 : ∀ n, Hid (At B (((w1.drewN n).setCell ⟨x, 8, none⟩ (.int .i64 (N : Int))).setCell ⟨x, 6, none⟩ (.int .i64 3)) x { s with bits := bs.drop 32, left := N, next := 3 } d1 ∧ Mv d.c d1.c w (((w1.drewN n).setCell ⟨x, 8, none⟩ (.int .i64 (N : Int))).setCell ⟨x, 6, none⟩ (.int .i64 3))) := fun n => Lib.hid (by
        have h1 := (H1.out.drewN n).set 8 (.int .i64 (N : Int)) { s with bits := bs.drop 32, left := N } rfl ⟨rfl, rfl, rfl, rfl, rfl, rfl, rfl, rfl, rfl, rfl, rfl⟩
        have m1 := (M1.out.drewN n).trans ((H1.out.drewN n).set_mv 8 (.int .i64 (N : Int)))
        exact ⟨h1.set 6 (.int .i64 3) _ rfl ⟨rfl, rfl, rfl, rfl, rfl, rfl, rfl, rfl, rfl, rfl, rfl⟩, m1.trans (h1.set_mv 6 _)⟩)
      go_wp2_with fail
      go_quiet (fail)
      go_wp2_with fail
      go_end0
      refine ⟨d1, Lib.hid (H3 _).out.2, .inl ⟨rfl, { s with bits := bs.drop 32, left := N, next := 3 }, ?_, (fun h => by simp at h), Lib.hid (H3 _).out.1⟩⟩
      have hst : InfMath.step { s with bits := bs } = .more { s with bits := bs.drop 32, left := N, next := 3 } := by
        rw [HP.out.1]
        unfold InfMath.readSize
        have e1 := HNI.out.1
        have e2 := HNI.out.2
        have e3 := HJ.out
        rw [if_neg HP.out.2, if_neg (show ¬ bs.length < 32 by have := HBL.out; omega), if_neg (by simp only; rw [e1, e2]; omega)]
        simp only
        rw [e1]
      exact steps1_of HA.out hst
    · go_wp2_with fail
      go_quiet (fail)
      go_wp2_with fail
      refine (fail_any 2 _).mono ?_
      rintro e w' ⟨rfl, rfl⟩
      go_wp2_with fail
      refine ⟨rfl, d1, Lib.hid (M1.out.drewN _), .inr ⟨2, { s with bits := bs }, _, rfl, ⟨HA.out, ?_⟩, Lib.hid (H1.out.drewN _), rfl, rfl, fun h => by simp at h⟩⟩
      rw [HP.out.1]
      unfold InfMath.readSize
      have e1 := HNI.out.1
      have e2 := HNI.out.2
      have e3 := HJ.out
      rw [if_neg HP.out.2, if_neg (show ¬ bs.length < 32 by have := HBL.out; omega), if_pos (by simp only; rw [e1, e2]; omega)]

/-- The machine behind k bytes of a stored block. -/
def fed (s : M) (l : List UInt8) (k : Nat) : M := { s with bits := s.bits.drop (8 * k), hist := s.hist ++ l.take k, out := s.out ++ l.take k, total := s.total + k, left := s.left - k }
theorem fed_step (s : M) (l : List UInt8) (m : Nat) (hn : s.next = 3) (hl : bitsOf l = s.bits.take (8 * m)) (hb : 8 * m ≤ s.bits.length) (hm : m ≤ s.left) (hr : s.total + m ≤ s.most) (k : Nat) (hk : k + 1 ≤ m) : InfMath.step (fed s l k) = .more (fed s l (k + 1)) := by
  have hlm : l.length = m := by have := congrArg List.length hl; rw [bitsOf_len, List.length_take] at this; omega
  have hb1 : num ((s.bits.drop (8 * k)).take 8) = (l[k]'(by omega)).toNat := by
    have e1 : (s.bits.drop (8 * k)).take 8 = ((s.bits.take (8 * m)).drop (8 * k)).take 8 := by rw [List.drop_take, List.take_take, Nat.min_eq_left (by omega)]
    rw [e1, ← hl, bitsOf_drop, List.drop_eq_getElem_cons (by omega), bitsOf_cons, take_lows]
  unfold InfMath.step
  rw [show (fed s l k).next = 3 from hn]
  show InfMath.readBytes (fed s l k) = _
  unfold InfMath.readBytes fed
  simp only
  rw [if_neg (show ¬ s.left - k = 0 by omega), if_neg (show ¬ (s.bits.drop (8 * k)).length < 8 by rw [List.length_drop]; omega), if_neg (show ¬ s.most ≤ s.total + k by omega)]
  have e2 : UInt8.ofNat (num ((s.bits.drop (8 * k)).take 8)) = l[k]'(by omega) := by rw [hb1, UInt8.ofNat_toNat]
  have e3 : l.take (k + 1) = l.take k ++ [l[k]'(by omega)] := List.take_succ_eq_append_getElem (by omega)
  unfold InfMath.put
  simp only
  rw [e2, e3, List.drop_drop, ← List.append_assoc, ← List.append_assoc]
  congr 2
theorem fed_steps (s : M) (l : List UInt8) (m : Nat) (hn : s.next = 3) (hl : bitsOf l = s.bits.take (8 * m)) (hb : 8 * m ≤ s.bits.length) (hm : m ≤ s.left) (hr : s.total + m ≤ s.most) : ∀ k, k ≤ m → InfMath.Steps s (fed s l k) := by
  intro k
  induction k with
  | zero =>
    intro _
    have e : fed s l 0 = s := by unfold fed; simp
    rw [e]
    exact .refl _
  | succ k ih =>
    intro hk
    exact (ih (by omega)).snoc (fed_step s l m hn hl hb hm hr k hk)

set_option maxRecDepth 100000 in
set_option maxHeartbeats 4000000 in
theorem bytes_any (h : Hid (At B w x s d)) (hok : Ok s) (hn : s.next = 3) :
    Calls Tryz.prog 45 #[.pointer (some ⟨x, 0, none⟩)] w (Goes B x s d w) := by
  have HS : Hid (InfMath.step s = InfMath.readBytes s) := Lib.hid (by unfold InfMath.step; rw [hn]; rfl)
  have hb : s.bits.length ≤ 1000000000 := by have := hok.bnd; have := hok.psh; omega
  have h8 : w.cell? ⟨x, 8, none⟩ = some (.int .i64 (s.left : Int)) := h.out.blk.cell 8
  by_cases hl0 : s.left = 0
  · rw [hl0] at h8
    go_enter Tryz.func45, Tryz.ntmps45
    go_wp2_with fail
    refine (close_any h).mono ?_
    rintro e w' ⟨rfl, hA, hM⟩
    have HA := Lib.hid (And.intro hA hM)
    clear hA hM
    go_wp2_with fail
    go_end0
    refine Goes.more ?_ (Lib.hid HA.out.1) (Lib.hid HA.out.2) (fun h => absurd h (close_ne s))
    rw [HS.out]; unfold InfMath.readBytes; rw [if_pos hl0]
  · have h2 : w.cell? ⟨x, 2, none⟩ = some (.pointer (some ⟨d.f, 0, none⟩)) := h.out.blk.cell 2
    have hal := hok.al hn
    have hlm := hok.left
    have hlz : ((s.left : Int) == 0) = false := by simp; omega
    have HBits := fun k => bits_any _ _ _ _ _ _ (w.drewN k) (h.out.drewN k).rs.feed.1 (by omega)
    have HB := Lib.hid HBits
    clear HBits
    obtain ⟨n, hnq⟩ : ∃ n, n = min s.left (s.bits.length / 8) := ⟨_, rfl⟩
    have HN := Lib.hid hnq
    have hmin : (if (s.bits.length : Int) / 8 < (s.left : Int) then (s.bits.length : Int) / 8 else (s.left : Int)) = (n : Int) := by
      by_cases hc : (s.bits.length : Int) / 8 < (s.left : Int)
      · rw [if_pos hc]; omega
      · rw [if_neg hc]; omega
    clear hnq
    go_enter Tryz.func45, Tryz.ntmps45
    go_wp2_with fail
    go_quiet ((go_at_call 40; refine Calls.quiet_of (HB.out _)))
    rename_i nq
    by_cases hn0 : n = 0
    · subst hn0
      have HX := h.out.mv_drew nq
      go_wp2_with fail
      refine (lack_any HX.1).mono ?_
      rintro e w' ⟨rfl, rfl⟩
      go_wp2_with fail
      refine ⟨rfl, Goes.halt ?_ HX.1 HX.2 rfl⟩
      rw [HS.out]; unfold InfMath.readBytes; rw [if_neg hl0, if_pos (by have := HN.out; omega)]
    · have hnz : ((n : Int) == 0) = false := by simp; omega
      have HX := h.out.mv_drew nq
      go_wp2_with fail
      refine (room_any 1 HX.1 hok.room hok.most).mono ?_
      rintro e w1 ⟨hr, j, hj⟩
      have H1 : Hid (At B w1 x s d) := Lib.hid (by rw [hj]; exact HX.1.out.drewN j)
      have M1 : Hid (Mv d.c d.c w w1) := Lib.hid (by rw [hj]; exact HX.2.out.drewN j)
      clear hj HX
      rcases hr with ⟨hr, rfl⟩ | ⟨hr, rfl⟩
      · go_wp2_with fail
        refine ⟨rfl, Goes.halt ?_ H1 M1 rfl⟩
        rw [HS.out]; unfold InfMath.readBytes; rw [if_neg hl0, if_neg (by have := HN.out; omega), if_pos (by omega)]
      · have h21 : w1.cell? ⟨x, 2, none⟩ = some (.pointer (some ⟨d.f, 0, none⟩)) := H1.out.blk.cell 2
        have h11 : w1.cell? ⟨x, 1, none⟩ = some (.int .i64 (s.most : Int)) := H1.out.blk.cell 1
        have h51 : w1.cell? ⟨x, 5, none⟩ = some (.int .i64 (s.total : Int)) := H1.out.blk.cell 5
        have hmo := hok.most
        have w5 : IntKind.i64.wrap ((s.most : Int) - (s.total : Int)) = (s.most : Int) - (s.total : Int) := IntWalk.i64_in _ (by omega)
        obtain ⟨m, hmq⟩ : ∃ m, m = min n (s.most - s.total) := ⟨_, rfl⟩
        have hmin2 : (if (s.most : Int) - (s.total : Int) < (n : Int) then (s.most : Int) - (s.total : Int) else (n : Int)) = (m : Int) := by
          by_cases hc : (s.most : Int) - (s.total : Int) < (n : Int)
          · rw [if_pos hc]; omega
          · rw [if_neg hc]; omega
        have HM := Lib.hid hmq
        clear hmq
        go_upto_region 6 with (fail)
        go_cut [3] (fun bv wx => TakenAt B x s d w1 m bv wx)
        case first =>
          have HD1 : Hid (At B w1.drew x s d) := Lib.hid (H1.out.drewN 1)
          go_region_law (go_simp; (go_at_call 56; refine (take_at (m : Int) (by assumption) hb).mono ?_; rintro e w2 ⟨a, c, l, rfl, ho, hl, d2, H2, M2, hcol⟩))
          all_goals
            go_wp2_with fail
            go_meet
            case rel => exact ⟨a, c, l, d2, rfl, ho, hl, H2, M2.out.of_drew, hcol⟩
        case rest =>
          obtain ⟨a, c, l, d2, rfl, ho, hl, H2, m2, hcol⟩ := hcut
          have hmb : 8 * m ≤ s.bits.length ∧ 1 ≤ m ∧ m ≤ s.left ∧ s.total + m ≤ s.most := by have := HM.out; have := HN.out; omega
          have e1 : takeBits s.bits (m : Int) = s.bits.drop (8 * m) := by unfold takeBits; rw [if_neg (by omega), if_neg (by omega), hal, List.drop_zero, Int.toNat_natCast]
          have e2 : takeBytes s.bits (m : Int) = s.bits.take (8 * m) := by unfold takeBytes; rw [if_neg (by omega), if_neg (by omega), hal, List.drop_zero, Int.toNat_natCast]
          rw [e1] at H2
          rw [e2] at hl
          have hlen : l.length = m := by have := congrArg List.length hl; rw [bitsOf_len, List.length_take] at this; omega
          have hby := own_bytes ho rfl
          obtain ⟨g, off, rfl⟩ := hby.some_ (by omega)
          obtain ⟨gg, oo, hgo, hglt, hcell⟩ := hby.at_.resolve_left (by omega)
          simp only [Option.some.injEq, Addr.mk.injEq, and_true] at hgo
          obtain ⟨rfl, rfl⟩ := hgo
          have hg0 : d2.c g = 0 := hcol g rfl
          have HC := Lib.hid (And.intro hglt (And.intro hcell hg0))
          have HL := Lib.hid hl
          have HMB := Lib.hid hmb
          have M2 := Lib.hid m2
          have HLEN := Lib.hid hlen
          have HT := Lib.hid hok.tot
          have HO := Lib.hid hok.outl
          have hroom := hok.room
          rw [hlen]
          clear ho hl m2 hcol hby hcell hg0 hglt e1 e2 hmin hmin2 h21 h11 h51 w5 hlen hal h2 h8
          go_wp2_with fail
          go_loopw [6, 52] (fun _ i wr => ∃ k d', k ≤ m ∧ i = .int .i64 ((k : Nat) : Int) ∧ Hid (At B wr x { s with bits := s.bits.drop (8 * m), hist := s.hist ++ l.take k, out := s.out ++ l.take k, total := s.total + k } d') ∧ Hid (Mv d2.c d'.c wc wr)) (fun _ i _ => m - (intOf i).toNat)
          case atStart => exact ⟨0, d2, Nat.zero_le _, rfl, Lib.hid (by simpa using H2.out), Lib.hid (Mv.refl _ _)⟩
          case round =>
            obtain ⟨k, d3, hk, rfl, H3, M3⟩ := hrel
            by_cases hlt : k < m
            · have hkl : k < l.length := by rw [HLEN.out]; exact hlt
              have hc : wr.cell? ⟨g, off + k, none⟩ = some (.int .u8 (l[k].toNat : Int)) := by
                rw [M3.out.only.cell (p := ⟨g, off + k, none⟩) HC.out.1 (fun e => e HC.out.2.2)]
                exact HC.out.2.1 k hkl
              have HPut := Lib.hid (put_any l[k] H3 (by simp only; have := HMB.out; omega) (by simp only; rw [List.length_append, List.length_take]; have := HMB.out; have := HT.out; omega) (by simp only; rw [List.length_append, List.length_take]; have := HMB.out; have := HO.out; omega))
              have e3 : InfMath.put { s with bits := s.bits.drop (8 * m), hist := s.hist ++ l.take k, out := s.out ++ l.take k, total := s.total + k } l[k] = { s with bits := s.bits.drop (8 * m), hist := s.hist ++ l.take (k + 1), out := s.out ++ l.take (k + 1), total := s.total + (k + 1) } := by
                unfold InfMath.put
                rw [List.take_succ_eq_append_getElem hkl, ← List.append_assoc, ← List.append_assoc]
                rfl
              rw [e3] at HPut
              clear e3
              generalize (l[k]).toNat = y at *
              go_wp2_with fail
              refine HPut.out.mono ?_
              rintro e w4 ⟨rfl, d4, H4, M4⟩
              clear HPut hc H3
              go_wp2_with fail
              go_roundw
              case rel => exact ⟨k + 1, d4, by omega, by go_num, H4, Lib.hid (M3.out.trans M4.out)⟩
              case measure => simp [intOf]; omega
            · obtain rfl : k = m := by omega
              have h8 : wr.cell? ⟨x, 8, none⟩ = some (.int .i64 (s.left : Int)) := H3.out.blk.cell 8
              have f8 := H3.out.blk.frozen 8
              have hle := HMB.out
              have w8 : IntKind.i64.wrap ((s.left : Int) - (k : Int)) = (s.left : Int) - (k : Int) := IntWalk.i64_in _ (by omega)
              have H5 : Hid (At B (wr.setCell ⟨x, 8, none⟩ (.int .i64 ((s.left : Int) - (k : Int)))) x (fed s l k) d3) := Lib.hid (H3.out.set 8 _ _ (by unfold fed cells; rw [show ((s.left - k : Nat) : Int) = (s.left : Int) - (k : Int) from by omega]; rfl) ⟨rfl, rfl, rfl, rfl, rfl, rfl, rfl, rfl, rfl, rfl, rfl⟩)
              have M5 := Lib.hid (M1.out.trans (M2.out.trans (M3.out.trans (H3.out.set_mv 8 (.int .i64 ((s.left : Int) - (k : Int)))))))
              go_wp2_with fail
              go_end0
              have hm1 := HMB.out
              refine ⟨d3, M5, .inl ⟨rfl, _, ?_, (fun h => by have h2 : s.next = 10 := h; omega), H5⟩⟩
              obtain ⟨q, rfl⟩ : ∃ q, k = q + 1 := ⟨k - 1, by omega⟩
              exact steps1_of (fed_steps s l (q + 1) hn HL.out hm1.1 hm1.2.2.1 hm1.2.2.2 q (by omega)) (fed_step s l (q + 1) hn HL.out hm1.1 hm1.2.2.1 hm1.2.2.2 q (by omega))
end
end Go.Proofs.YtjejlhpnhkacmaaGreatDoor.InfC
end

section
/-
  readCodeLengths: the lengths of the code for the lengths, one by one.
-/
namespace Go.Proofs.YtjejlhpnhkacmaaGreatDoor.InfC
open Go.RowKit Go.My BitMath CanMath TabMath WinMath FeedC TabC CanC
open WinC (Wn)
open InfMath (M Ok CodeOk mu lack fixL fixD)

theorem wp_throw {P : Program} {Q : Exit → Act → World → Prop} {o : Oper} {a : Act} {w : World} {K : Act → World → Prop} {f : FuncId} {args : Array Value} {R : Ending → World → Prop}
    (hr : (execOp a.eval o).run P w = .ok (.enter f args) w) (hc : Calls P f args w R) (h : ∀ e w', R e w' → ∃ c, e = .panicked c ∧ Q (.panic c) a w') : o.wp P a w K Q := by
  unfold Oper.wp
  rw [hr]
  simp only [Oper.upon]
  exact hc.mono fun e w' hR => by obtain ⟨c, rfl, hQ⟩ := h e w' hR; exact hQ
theorem step_append_row {P : Program} {w : World} {ops : Array Oper} {o : Oper} {a : Act} {K : Act → World → Prop} {Q : Exit → Act → World → Prop} {F : Prop} (hgd : o.guard = none) (s x : Operand) (t : TypeId)
    (ho : o.op = .call { callee := .builtin .append, args := #[s, x], argTypes := #[t, t] }) (base : Nat) (E : TypeId) (z : Value) (by_ : Nat) (ht : P.underlying t = some (.slice E))
    (hi : (P.info? E).map (fun i => (i.zero, i.size, i.bytes)) = some (some z, 1, by_)) (hz1 : z.cells.size = 1)
    (v : Value) (l : List Value) (n : Nat) (hn : l.length = n) (hs : a.eval s = v) (hown : OwnV E base w v l) (ad : Option Addr) (m c : Nat) (l2 : List Value) (hx : a.eval x = .slice ad m c) (hb : RowIn w ad m c l2) (hone : ∀ u ∈ l2, u.oneCell' = true)
    (hlen : (n + m) * by_ ≤ 140737488355328) (hlen2 : n + m ≤ 140737488355328) (hbase : base ≤ w.heap.size)
    (h : ∀ a' c' w', OwnV E base w' (.slice a' (n + m) c') (l ++ l2) → w.grownBy w' v.ownBlock → Nxt v.ownBlock w.heap.size (Value.ownBlock (.slice a' (n + m) c')) → K (a.put o.dst (.slice a' (n + m) c')) w') :
    if Region.wanted o (yielded ops a.tmps) = true then Oper.wp P o a w K Q else F := by
  subst hn
  have hw : Region.wanted o (yielded ops a.tmps) = true := by simp [Region.wanted, hgd]
  rw [if_pos hw]
  exact wp_append_row s x t ho base E z by_ ht hi hz1 v l hs hown ad m c l2 hx hb hone hlen hlen2 hbase fun v' w' h1 h2 h3 => by
    obtain ⟨a', c', rfl, _⟩ := h1.row
    rw [List.length_append, hb.len_eq] at *
    exact h a' c' w' h1 h2 h3

section
variable {B x : Nat} {w w1 : World} {s : M} {d : Ad}
theorem At.feds (h : At B w x s d) {w' : World} {bs : List Bool} {p : Nat} {e : Bool} (hd : Done B d.f d.F w bs p e w') :
    ∃ c F, At B w' x { s with bits := bs, pushed := p, ended := e } { d with c := c, F := F } ∧ Mv d.c c w w' := by
  obtain ⟨F', h1, h2, h3⟩ := hd
  have hB := h.rs.lt
  have t : Turn 2 d.c (recol w.heap.size d.c 2) w w' := ⟨h2.mono (fun k _ hk => h.rs.feed.2 k hk), fun k hk => recol_old d.c hk⟩
  refine ⟨recol w.heap.size d.c 2, F', ⟨h.blk.same (t.only.block x h.lt (by rw [h.rs.cx]; decide)), h.rs.base, (recol_old d.c h.lt).trans h.rs.cx, low_recol h.rs.low hB, ⟨h1, fun k hk => ?_⟩, h.rs.win.turn t (by decide), h.rs.out.turn t (by decide), h.rs.lens.turn t (by decide), h.rs.t1.turn t (by decide), h.rs.t2.turn t (by decide), h.rs.t3.turn t (by decide), h.rs.t4.turn t (by decide), h.rs.t5.turn t (by decide)⟩, t.mv (by decide)⟩
  by_cases hk2 : k < w.heap.size
  · rcases h3 k hk with hF | hF
    · exact (recol_old d.c hk2).trans (h.rs.feed.2 k hF)
    · omega
  · exact recol_new d.c (by omega)
theorem skip_keep (n : Nat) (h : Hid (At B w x s d)) (hn : n ≤ s.bits.length) (hb : s.bits.length ≤ 1000000000) :
    Calls Tryz.prog 67 #[.pointer (some ⟨d.f, 0, none⟩), .int .i64 (n : Int)] w fun e w' => e = .returned (.int .i64 0) ∧ ∃ c F, Hid (At B w' x { s with bits := s.bits.drop n } { d with c := c, F := F }) ∧ Hid (Mv d.c c w w') := by
  refine (skip_any (n : Int) _ _ _ _ _ _ w h.out.rs.feed.1 (by omega)).mono ?_
  rintro e w' ⟨rfl, hd⟩
  have e1 : skipCode s.bits (n : Int) = 0 := by unfold skipCode; rw [if_neg (by omega), if_neg (by omega)]
  have e2 : skipBits s.bits (n : Int) = s.bits.drop n := by unfold skipBits; rw [if_neg (by omega), if_neg (by omega), Int.toNat_natCast]
  rw [e2] at hd
  obtain ⟨c, F, h1, h2⟩ := h.out.feds hd
  exact ⟨by rw [e1], c, F, Lib.hid h1, Lib.hid h2⟩
/-- A number of n bits is read; where the rows lie stays. -/
theorem number_keep (n : Nat) (h : Hid (At B w x s d)) (hn : n ≤ 32) (hb : s.bits.length ≤ 1000000000) :
    Calls Tryz.prog 53 #[.pointer (some ⟨x, 0, none⟩), .int .i64 (n : Int)] w fun e w' =>
      (s.bits.length < n ∧ Thrown (lack s) e ∧ ∃ j, w' = w.drewN j) ∨ (n ≤ s.bits.length ∧ e = .returned (.int .i64 (num (s.bits.take n) : Int)) ∧ ∃ c F, Hid (At B w' x { s with bits := s.bits.drop n } { d with c := c, F := F }) ∧ Hid (Mv d.c c w w')) := by
  go_enter Tryz.func53, Tryz.ntmps53
  go_wp2_with fail
  refine (behind_any 0 n h (by omega) hb).mono ?_
  rw [List.drop_zero, Nat.zero_add]
  rintro e w' ⟨h1, j, rfl⟩
  rcases h1 with ⟨h1, rfl⟩ | ⟨h1, rfl⟩
  · go_wp2_with fail
    exact ⟨rfl, .inl ⟨h1, rfl, _, rfl⟩⟩
  · have HX := Lib.hid (h.out.drewN j)
    have h2' : (w.drewN j).cell? ⟨x, 2, none⟩ = some (.pointer (some ⟨d.f, 0, none⟩)) := HX.out.blk.cell 2
    go_wp2_with fail
    refine (skip_keep n HX h1 hb).mono ?_
    rintro e w2 ⟨rfl, c, F, H1, H2⟩
    go_wp2_with fail
    go_ret
    exact .inr ⟨h1, rfl, c, F, H1, Lib.hid ((Mv.of_below (quiet_below w j) d.c).trans H2.out)⟩

theorem number_short (n : Nat) (h : Hid (At B w x s d)) (hn : n ≤ 32) (hb : s.bits.length ≤ 1000000000) (hs : s.bits.length < n) :
    Calls Tryz.prog 53 #[.pointer (some ⟨x, 0, none⟩), .int .i64 (n : Int)] w fun e w' => Thrown (lack s) e ∧ ∃ j, w' = w.drewN j := by
  refine (number_keep n h hn hb).mono ?_
  rintro e w' (⟨_, h1, h2⟩ | ⟨h1, _⟩)
  · exact ⟨h1, h2⟩
  · omega
theorem number_long (n : Nat) (h : Hid (At B w x s d)) (hn : n ≤ 32) (hb : s.bits.length ≤ 1000000000) (hs : n ≤ s.bits.length) :
    Calls Tryz.prog 53 #[.pointer (some ⟨x, 0, none⟩), .int .i64 (n : Int)] w fun e w' =>
      e = .returned (.int .i64 (num (s.bits.take n) : Int)) ∧ ∃ c F, Hid (At B w' x { s with bits := s.bits.drop n } { d with c := c, F := F }) ∧ Hid (Mv d.c c w w') := by
  refine (number_keep n h hn hb).mono ?_
  rintro e w' (⟨h1, _⟩ | ⟨_, h1, h2⟩)
  · omega
  · exact ⟨h1, h2⟩
theorem At.lens_blk (h : At B w x s d) (hg : w.grownBy w1 (Value.ownBlock (.slice d.la s.lens.length d.lc))) : Blk w1 x 49 (cells s d) :=
  h.blk.grown hg (fun e => by have := h.rs.lens.2 x e.symm; rw [h.rs.cx] at this; cases this)
/-- Lengths behind the lengths. -/
theorem At.app_lens (h : At B w x s d) {l2 : List Nat} {m c2 : Nat} {a2 : Option Addr} (hl : l2.length = m) (hown : OwnV 3 B w1 (.slice a2 (s.lens.length + m) c2) ((ints (s.lens ++ l2)).map iv))
    (hg : w.grownBy w1 (Value.ownBlock (.slice d.la s.lens.length d.lc))) {H : Nat} (hH : w.heap.size ≤ H) (hn : Nxt (Value.ownBlock (.slice d.la s.lens.length d.lc)) H (Value.ownBlock (.slice a2 (s.lens.length + m) c2))) :
    ∃ d', At B (w1.setCell ⟨x, 12, none⟩ (.slice a2 (s.lens.length + m) c2)) x { s with lens := s.lens ++ l2 } d' ∧ Mv d.c d'.c w (w1.setCell ⟨x, 12, none⟩ (.slice a2 (s.lens.length + m) c2)) := by
  have hB := h.rs.lt
  have hb : Blk w1 x 49 (cells s d) := h.blk.grown hg (fun e => by have := h.rs.lens.2 x e.symm; rw [h.rs.cx] at this; cases this)
  have t : Turn 5 d.c (recol w.heap.size d.c 5) w w1 := ⟨(Only.refl _ w).grown hg (fun k _ hk => h.rs.lens.2 k hk), fun k hk => recol_old d.c hk⟩
  have hx : (recol w.heap.size d.c 5) x = 1 := (recol_old d.c h.lt).trans h.rs.cx
  have t2 : Turn 1 (recol w.heap.size d.c 5) (recol w.heap.size d.c 5) w1 (w1.setCell ⟨x, 12, none⟩ (.slice a2 (s.lens.length + m) c2)) := ⟨(only_set w1 x 12 _).mono (fun k _ e => by subst e; exact hx), fun _ _ => rfl⟩
  have hlen : (s.lens ++ l2).length = s.lens.length + m := by rw [List.length_append, hl]
  refine ⟨{ d with c := recol w.heap.size d.c 5, la := a2, lc := c2 }, ⟨?_, h.rs.base, hx, low_recol h.rs.low hB, (h.rs.feed.turn t (by decide)).turn t2 (by decide), (h.rs.win.turn t (by decide)).turn t2 (by decide), (h.rs.out.turn t (by decide)).turn t2 (by decide), ?_, (h.rs.t1.turn t (by decide)).turn t2 (by decide), (h.rs.t2.turn t (by decide)).turn t2 (by decide), (h.rs.t3.turn t (by decide)).turn t2 (by decide), (h.rs.t4.turn t (by decide)).turn t2 (by decide), (h.rs.t5.turn t (by decide)).turn t2 (by decide)⟩, (t.mv (by decide)).trans (t2.mv (by decide))⟩
  · have e := hb.set_ 12 (.slice a2 (s.lens.length + m) c2)
    unfold cells
    simp only [hlen]
    exact e
  · have ho : PL B w1 (recol w.heap.size d.c 5) (.slice a2 (s.lens.length + m) c2) (s.lens ++ l2) := by
      refine ⟨hown, fun k hk => ?_⟩
      rcases hn with e | ⟨j, e, hj⟩
      · have hk2 : Value.ownBlock (.slice d.la s.lens.length d.lc) = some k := by rw [← e]; exact hk
        exact (recol_old d.c (h.rs.lens.1.lt k hk2)).trans (h.rs.lens.2 k hk2)
      · rw [e] at hk
        injection hk with hk
        exact recol_new d.c (by omega)
    have := ho.turn t2 (by decide)
    simp only [hlen]
    exact this
end

/-- How many lengths were read. -/
def lensAt (w : World) (x : Nat) : Nat := match w.cell? ⟨x, 12, none⟩ with | some (.slice _ n _) => n | _ => 0
theorem lensAt_of {B x : Nat} {w : World} {s : M} {d : Ad} (h : At B w x s d) : lensAt w x = s.lens.length := by
  have e : w.cell? ⟨x, 12, none⟩ = some (.slice d.la s.lens.length d.lc) := h.blk.cell 12
  unfold lensAt
  rw [e]
theorem ints_app (a b : List Nat) : (ints (a ++ b)).map iv = (ints a).map iv ++ (ints b).map iv := by simp [ints]

/-- The order of the code lengths lies in memory, below B. -/
structure Ordr (B : Nat) (w : World) : Prop where
  lt : 0 < B
  cell : ∀ i, i < 19 → w.cell? ⟨0, i, none⟩ = some (.int .i64 ((InfMath.order.getD i 0 : Nat) : Int))
theorem Ordr.mv {B : Nat} {w w' : World} {c c' : Nat → Nat} (h : Ordr B w) (hl : ∀ k, k < B → c k = 0) (hB : B ≤ w.heap.size) (m : Mv c c' w w') : Ordr B w' :=
  ⟨h.lt, fun i hi => by
    rw [m.only.cell (p := ⟨0, i, none⟩) (Nat.lt_of_lt_of_le h.lt hB) (fun e => e (hl _ h.lt))]
    exact h.cell i hi⟩
theorem order_lt : ∀ i, i < 19 → InfMath.order.getD i 0 < 19 := by
  have h : ∀ i : Fin 19, InfMath.order.getD i.val 0 < 19 := by decide
  exact fun i hi => h ⟨i, hi⟩
theorem ints_set (l : List Nat) (i v : Nat) : (ints (l.set i v)).map iv = ((ints l).map iv).set i (iv (v : Int)) := by simp [ints, List.map_set]
theorem kind_kd (l : List Nat) : CanC.kindN l = ((InfMath.kd l : Nat) : Int) := by
  unfold CanC.kindN InfMath.kd
  repeat' split
  all_goals rfl
section
variable {B x : Nat} {w : World} {s : M} {d : Ad}
/-- The code for the lengths is stored, the lengths are let go. -/
theorem At.hcode (h : At B w x s d) {g : Nat} {l : List Nat} (t : TabIn w d.c g l 7) :
    At B ((w.setCell ⟨x, 13, none⟩ (.pointer (some ⟨g, 0, none⟩))).setCell ⟨x, 12, none⟩ (.slice none 0 0)) x { s with hcode := some l, lens := [] } { d with ht := some g, la := none, lc := 0 } ∧
      Mv d.c d.c w ((w.setCell ⟨x, 13, none⟩ (.pointer (some ⟨g, 0, none⟩))).setCell ⟨x, 12, none⟩ (.slice none 0 0)) := by
  have hx := only_two w x 13 12 (.pointer (some ⟨g, 0, none⟩)) (.slice none 0 0)
  have hk := (h.blk.set_ 13 (.pointer (some ⟨g, 0, none⟩))).set_ 12 (.slice none 0 0)
  refine ⟨?_, (turn_x h.rs.cx hx).mv (by decide)⟩
  obtain ⟨r1, r2, r3, r4, r5, r6, r7, r8, r9, r10, r11, r12⟩ := h.rs
  have hr : Rs B w x { s with hcode := some l, lens := [] } { d with ht := some g, la := none, lc := 0 } := ⟨r1, r2, r3, r4, r5, r6, ⟨OwnV.nil _ _ _, fun k hk => by cases hk⟩, .inl ⟨g, l, rfl, rfl, t⟩, r9, r10, r11, r12⟩
  exact ⟨hk, hr.only hx⟩
end
/-- The machine stands where lengths are read. -/
def Reads (B x : Nat) (s : M) (d : Ad) (w : World) (t : M) (d' : Ad) (w' : World) : Prop :=
  InfMath.Steps s t ∧ Ok t ∧ t.next = 7 ∧ At B w' x t d' ∧ Mv d.c d'.c w w'
section
variable {B x : Nat} {w : World} {s : M} {d : Ad}
set_option maxRecDepth 100000 in
set_option maxHeartbeats 4000000 in
theorem codelens_any (h : Hid (At B w x s d)) (hok : Ok s) (hn : s.next = 7) (hO : Ordr B w) :
    Calls Tryz.prog 47 #[.pointer (some ⟨x, 0, none⟩)] w (Goes B x s d w) := by
  go_enter Tryz.func47, Tryz.ntmps47
  go_wp2_with fail
  go_loopw [] (fun wr => ∃ t d', Hid (Reads B x s d w t d' wr)) (fun wr => 19 - lensAt wr x)
  case atStart => exact ⟨s, d, Lib.hid ⟨.refl _, hok, hn, h.out, Mv.refl _ _⟩⟩
  case round =>
    have HOrd : Hid (Ordr B w ∧ (∀ k, k < B → d.c k = 0) ∧ B ≤ w.heap.size) := Lib.hid ⟨hO, h.out.rs.low, h.out.rs.lt⟩
    clear h hok hn hO
    obtain ⟨t, d1, HR⟩ := hrel
    have hA := HR.out.2.2.2.1
    have h11 : wr.cell? ⟨x, 11, none⟩ = some (.int .i64 (t.hc : Int)) := hA.blk.cell 11
    have h12 : wr.cell? ⟨x, 12, none⟩ = some (.slice d1.la t.lens.length d1.lc) := hA.blk.cell 12
    have HS : Hid (InfMath.step t = InfMath.readCodeLengths t) := Lib.hid (by unfold InfMath.step; rw [HR.out.2.2.1]; rfl)
    have hhc := HR.out.2.1.hc HR.out.2.2.1
    have hb : t.bits.length ≤ 1000000000 := by have := HR.out.2.1.bnd; have := HR.out.2.1.psh; omega
    have HL := Lib.hid (lensAt_of hA)
    clear hA
    by_cases hlt : t.lens.length < t.hc
    · go_wp2_with fail
      go_quiet (fail)
      have HA1 : Hid (At B (wr.drewN nq) x t d1) := Lib.hid (HR.out.2.2.2.1.drewN _)
      have HM1 : Hid (Mv d.c d1.c w (wr.drewN nq)) := Lib.hid (HR.out.2.2.2.2.drewN _)
      clear h11 h12
      generalize wr.drewN nq = w1 at *
      go_upto_region 1 with (fail)
      have h12 : w1.drew.cell? ⟨x, 12, none⟩ = some (.slice d1.la t.lens.length d1.lc) := HA1.out.blk.cell 12
      have HD1 : Hid (At B w1.drew x t d1) := Lib.hid (HA1.out.drewN 1)
      by_cases hsh : t.bits.length < 3
      · have HQ := Lib.hid (number_short 3 HD1 (by omega) hb hsh)
        have HG : ∀ j, Goes B x s d w (.panicked [{ v := fault (lack t), recovered := false }]) (w1.drew.drewN j) := fun j => by
          refine ⟨d1, Lib.hid ((HM1.out.drewN 1).drewN j), .inr ⟨_, t, t, rfl, ⟨HR.out.1, ?_⟩, Lib.hid (HD1.out.drewN j), rfl, rfl, fun _ => rfl⟩⟩
          rw [HS.out]; unfold InfMath.readCodeLengths; rw [if_pos hlt, if_pos hsh]
        have HG' := Lib.hid HG
        clear HG
        refine wp_region_held (S := fun w' => w'.cell? ⟨x, 12, none⟩ = some (.slice d1.la t.lens.length d1.lc)) (by kernel_rfl) ?_
        change wpAnyH _ _ _ _ _ 14 _ _ w1.drew
        refine ord_take (i := 0) (d := some 17) (.pointer (some ⟨x, 0, none⟩)) rfl (by kernel_rfl) (by kernel_rfl) (by kernel_rfl) (by kernel_rfl) (fun _ _ _ h => h) (by kernel_rfl) (fun w _ => by kernel_rfl) h12 ?_
        refine ord_take (i := 1) (d := some 18) (.pointer (some ⟨x, 0, none⟩)) rfl (by kernel_rfl) (by kernel_rfl) (by kernel_rfl) (by kernel_rfl) (fun _ _ _ h => h) (by kernel_rfl) (fun w _ => by kernel_rfl) h12 ?_
        refine ord_take (i := 2) (d := some 19) (.pointer (some ⟨x, 0, none⟩)) rfl (by kernel_rfl) (by kernel_rfl) (by kernel_rfl) (by kernel_rfl) (fun _ _ _ h => h) (by kernel_rfl) (fun w _ => by kernel_rfl) h12 ?_
        refine ord_take (i := 3) (d := some 20) (.pointer (some ⟨x, 9, none⟩)) rfl (by kernel_rfl) (by kernel_rfl) (by kernel_rfl) (by kernel_rfl) (fun _ _ _ h => h) (by kernel_rfl) (fun w _ => by kernel_rfl) h12 ?_
        refine ord_take (i := 4) (d := some 21) (.pointer (some ⟨x, 12, none⟩)) rfl (by kernel_rfl) (by kernel_rfl) (by kernel_rfl) (by kernel_rfl) (fun _ _ _ h => h) (by kernel_rfl) (fun w _ => by kernel_rfl) h12 ?_
        refine ord_take (i := 5) (d := some 22) (.slice d1.la t.lens.length d1.lc) rfl (by kernel_rfl) (by kernel_rfl) (by kernel_rfl) (by kernel_rfl) (fun _ _ _ h => h) (by kernel_rfl) (fun w' hw' => by go_simp) h12 ?_
        refine ord_take (i := 6) (d := some 23) (.pointer (some ⟨x, 0, none⟩)) rfl (by kernel_rfl) (by kernel_rfl) (by kernel_rfl) (by kernel_rfl) (fun _ _ _ h => h) (by kernel_rfl) (fun w _ => by kernel_rfl) h12 ?_
        refine ord_alone (i := 7) rfl (by kernel_rfl) (by kernel_rfl) ?_
        refine wp_throw (by kernel_rfl) HQ.out ?_
        rintro e w2 ⟨rfl, j, rfl⟩
        exact ⟨_, rfl, And.intro rfl (HG'.out j)⟩
      · have HQ := Lib.hid (number_long 3 HD1 (by omega) hb (by omega))
        have hv7 := InfMath.num_take_lt t.bits 3
        obtain ⟨v, hv⟩ : ∃ v, v = num (t.bits.take 3) := ⟨_, rfl⟩
        have HV := Lib.hid hv
        rw [← hv] at HQ
        clear hv hv7
        go_region_law (first
          | (refine step_append_row (by rfl) _ _ _ (by rfl) B 3 (.int .i64 0) 8 Tryz.underlying42 SlcC.info_int rfl (.slice d1.la t.lens.length d1.lc) ((ints t.lens).map iv) t.lens.length (by simp [ints]) (by rfl) HX.out.rs.lens.1 _ 1 1 [iv (v : Int)] (by rfl) HY.out (by simp [iv]; rfl) (by omega) (by omega) hBX ?_; intro a3 c3 w3 hown hgrow hnext; have hb3 := HX.out.lens_blk hgrow; have h12c : w3.cell? ⟨x, 12, none⟩ = some (.slice d1.la t.lens.length d1.lc) := hb3.cell 12; have f12c := hb3.frozen 12)
          | (go_simp; go_at_call 53; refine HQ.out.mono ?_; rintro e w2 ⟨rfl, c2, F2, H2, M2⟩; have HX := Lib.hid (H2.out.later ((Below.refl w2.heap.size w2).alloc (Nat.le_refl _) (.cells #[iv (v : Int)] 3))); have HY := Lib.hid (one_row w2 (v : Int)); have hBX := HX.out.rs.lt; have h12b : w2.cell? ⟨x, 12, none⟩ = some (.slice d1.la t.lens.length d1.lc) := H2.out.blk.cell 12; have h12e : (w2.alloc (.cells #[.int .i64 (v : Int)] 3)).cell? ⟨x, 12, none⟩ = some (.slice d1.la t.lens.length d1.lc) := HX.out.blk.cell 12))
        all_goals
          obtain ⟨d4, hA4, hM4⟩ := HX.out.app_lens (l2 := [v]) (m := 1) rfl (by rw [ints_app]; exact hown) hgrow (by simp) hnext
          have hM5 : Mv d.c d4.c w (w3.setCell ⟨x, 12, none⟩ (.slice a3 (t.lens.length + 1) c3)) := (HM1.out.drewN 1).trans (M2.out.trans ((Mv.of_below ((Below.refl w2.heap.size w2).alloc (Nat.le_refl _) _) c2).trans hM4))
          have hst : InfMath.step t = .more { t with bits := t.bits.drop 3, lens := t.lens ++ [v] } := by
            rw [HS.out]; unfold InfMath.readCodeLengths; rw [if_pos hlt, if_neg hsh, HV.out]
          have hRR : Reads B x s d w { t with bits := t.bits.drop 3, lens := t.lens ++ [v] } d4 (w3.setCell ⟨x, 12, none⟩ (.slice a3 (t.lens.length + 1) c3)) := ⟨HR.out.1.snoc hst, HR.out.2.1.step hst, HR.out.2.2.1, hA4, hM5⟩
          have hme : lensAt (w3.setCell ⟨x, 12, none⟩ (.slice a3 (t.lens.length + 1) c3)) x = t.lens.length + 1 := by rw [lensAt_of hA4]; simp
          have HME := Lib.hid hme
          have HRR := Lib.hid hRR
          clear hme hRR hst hM5 hA4 hM4
          go_wp2_with fail
          go_roundw
          case rel => exact ⟨_, d4, HRR⟩
          case measure => rw [HME.out, HL.out]; omega
    · have hle := HR.out.2.1.l7 HR.out.2.2.1
      have hd0 : decide ((t.lens.length : Int) < (t.hc : Int)) = false := by simp; omega
      have HLL := Lib.hid hle
      have HHC := Lib.hid hhc
      go_wp2_with fail
      go_quiet (fail)
      have HA1 : Hid (At B (wr.drewN nq) x t d1) := Lib.hid (HR.out.2.2.2.1.drewN _)
      have HM1 : Hid (Mv d.c d1.c w (wr.drewN nq)) := Lib.hid (HR.out.2.2.2.2.drewN _)
      clear h11 h12 hle hhc
      generalize wr.drewN nq = wq at *
      obtain ⟨N, hN⟩ : ∃ N, N = t.lens.length := ⟨_, rfl⟩
      have HN : Hid (N = t.lens.length ∧ N = t.hc ∧ N ≤ 19) := Lib.hid ⟨hN, by have := HLL.out; omega, by have := HLL.out; have := HHC.out; omega⟩
      have hN19 := HN.out.2.2
      have h12 : wq.cell? ⟨x, 12, none⟩ = some (.slice d1.la N d1.lc) := by rw [hN]; exact HA1.out.blk.cell 12
      have HRow : Hid (RowIn wq d1.la N d1.lc ((ints t.lens).map iv)) := Lib.hid (by rw [hN]; exact HA1.out.rs.lens.1.rowIn (by simp [ints]))
      have HOq := Lib.hid (HOrd.out.1.mv HOrd.out.2.1 HOrd.out.2.2 HM1.out)
      have HBq : Hid (B ≤ wq.heap.size) := Lib.hid HA1.out.rs.lt
      clear hN hlt hd0
      go_wp2_with (at_make; refine wpList_make_row _ rfl (.const (.int .i64 19)) (.const (.int .i64 19)) 42 rfl wq.heap.size 3 (.int .i64 0) 8 Tryz.underlying42 SlcC.info_int rfl .i64 .i64 19 rfl rfl (by omega) (by omega) (Nat.le_refl _) ?_)
      intro w3 hown hg
      have hb3 : Below wq.heap.size wq w3 := (Below.refl _ wq).grown hg (Nat.le_refl _) (fun k hk => by cases hk)
      have h123 : w3.cell? ⟨x, 12, none⟩ = some (.slice d1.la N d1.lc) := by rw [hb3.cell (p := ⟨x, 12, none⟩) HA1.out.lt]; exact h12
      obtain ⟨g3, hg3⟩ : ∃ g3, g3 = wq.heap.size := ⟨_, rfl⟩
      have HG3 : Hid (wq.heap.size ≤ g3) := Lib.hid (by omega)
      have HO3 : Hid (OwnV 3 wq.heap.size w3 (.slice (some ⟨g3, 0, none⟩) 19 19) ((ints (InfMath.scat t.lens 0)).map iv)) := Lib.hid (by rw [hg3]; simpa [InfMath.scat, ints, iv] using hown)
      have HB3 := Lib.hid hb3
      rw [← hg3]
      clear hown hg hb3 hg3 h12
      go_wp2_with fail
      clear h123
      go_loopw [3, 4, 37] (fun _ _ i wx => ∃ k : Nat, k ≤ N ∧ i = .int .i64 (k : Int) ∧ Hid (OwnV 3 wq.heap.size wx (.slice (some ⟨g3, 0, none⟩) 19 19) ((ints (InfMath.scat t.lens k)).map iv)) ∧ Hid (Below wq.heap.size wq wx)) (fun _ _ i _ => N - (intOf i).toNat)
      case atStart => exact ⟨0, Nat.zero_le _, rfl, HO3, HB3⟩
      case round =>
        clear HO3 HB3
        obtain ⟨k, hk, rfl, HO3, HB3⟩ := hrel
        by_cases hlt : k < N
        · obtain ⟨b, off, hla⟩ := HRow.out.some_ (by omega)
          have hkl : k < t.lens.length := by rw [← HN.out.1]; exact hlt
          obtain ⟨n, hn⟩ : ∃ n, n = t.lens.getD k 0 := ⟨_, rfl⟩
          obtain ⟨q, hq⟩ : ∃ q, q = InfMath.order.getD k 0 := ⟨_, rfl⟩
          have hq19 : q < 19 := by rw [hq]; exact order_lt k (by omega)
          have hrow : wr.cell? ⟨b, off + k, none⟩ = some (.int .i64 (n : Int)) := by
            have h1 := HRow.out
            rw [hla] at h1
            rw [HB3.out.cell (p := ⟨b, off + k, none⟩) (h1.lt (by omega)), h1.get k (by simp [ints]; exact hkl), hn]
            simp [ints, iv, List.getD_eq_getElem?_getD, List.getElem?_eq_getElem hkl]
          have hord : wr.cell? ⟨0, k, none⟩ = some (.int .i64 (q : Int)) := by
            rw [HB3.out.cell (p := ⟨0, k, none⟩) (Nat.lt_of_lt_of_le HOq.out.lt HBq.out), hq]
            exact HOq.out.cell k (by omega)
          have hl19 : ((ints (InfMath.scat t.lens k)).map iv).length = 19 := by simp [ints, InfMath.scat_len]
          obtain ⟨cv, hcell⟩ : ∃ cv, wr.cell? ⟨g3, q, none⟩ = some cv := ⟨_, HO3.out.cell hl19 q (by rw [hl19]; exact hq19)⟩
          have hfree := HO3.out.free hl19 q
          have HO4 : Hid (OwnV 3 wq.heap.size (wr.setCell ⟨g3, q, none⟩ (.int .i64 (n : Int))) (.slice (some ⟨g3, 0, none⟩) 19 19) ((ints (InfMath.scat t.lens (k + 1))).map iv)) := Lib.hid (by
            rw [InfMath.scat, ints_set, ← hn, ← hq]
            exact HO3.out.store hl19 q (iv (n : Int)))
          have HB4 := Lib.hid (HB3.out.setCell (p := ⟨g3, q, none⟩) HG3.out (.int .i64 (n : Int)))
          rw [hla]
          clear hn hq hla hl19 HO3 HB3
          go_wp2_with fail
          go_roundw
          case rel => exact ⟨k + 1, by omega, by go_num, HO4, HB4⟩
          case measure => simp [intOf]; omega
        · obtain rfl : k = N := by omega
          obtain ⟨L, hLq⟩ : ∃ L, L = InfMath.scat t.lens t.lens.length := ⟨_, rfl⟩
          have HLq := Lib.hid hLq
          have hLL : L.length = 19 := by rw [hLq]; exact InfMath.scat_len _ _
          have hLa : ∀ x ∈ L, x ≤ 7 := by rw [hLq]; exact InfMath.scat_all _ 7 HLL.out.2 _
          have HRL : Hid (RowIn wr (some ⟨g3, 0, none⟩) 19 19 ((ints L).map iv)) := Lib.hid (by
            have h1 := HO3.out
            rw [HN.out.1, ← hLq] at h1
            exact h1.rowIn (by simp [ints, hLL]))
          have HGd : Hid (CanC.Good (ints L)) := Lib.hid (ints_good (by omega) (fun x hx => by have := hLa x hx; omega))
          have HK := Lib.hid (kind_good HRL.out HGd.out)
          rw [nat_ints, kind_kd] at HK
          have HLA := Lib.hid hLa
          have HL19 := Lib.hid hLL
          obtain ⟨K, hK⟩ : ∃ K, K = InfMath.kd L := ⟨_, rfl⟩
          rw [← hK] at HK
          have HKq := Lib.hid hK
          clear hLq hLL hLa hK
          go_wp2_with fail
          refine HK.out.mono ?_
          rintro e w5 ⟨rfl, hb5⟩
          have hbq : Below wq.heap.size wq w5 := HB3.out.trans (hb5.mono HB3.out.size)
          obtain ⟨hA5, hM5⟩ := HA1.out.color hbq 0
          obtain ⟨d5, hd5⟩ : ∃ d5, d5 = { d1 with c := recol wq.heap.size d1.c 0 } := ⟨_, rfl⟩
          have HA5 : Hid (At B w5 x t d5) := Lib.hid (by rw [hd5]; exact hA5)
          have HM5 : Hid (Mv d.c d5.c w w5) := Lib.hid (by rw [hd5]; exact HM1.out.trans hM5)
          have HRL5 : Hid (RowIn w5 (some ⟨g3, 0, none⟩) L.length 19 ((ints L).map iv)) := Lib.hid (by rw [HL19.out]; exact HRL.out.below (Nat.le_refl _) hb5)
          have HStep : Hid (InfMath.step t = if K ≠ 1 then .halt 2 else .more { t with hcode := some L, lens := [], next := 8 }) := Lib.hid (by
            rw [HS.out]
            unfold InfMath.readCodeLengths
            rw [if_neg (by have := HN.out; omega), ← HLq.out, ← HKq.out])
          clear hb5 hbq hA5 hM5 hd5 HRL HK HO3 HB3
          by_cases hK1 : K = 1
          · have hkr := InfMath.kd_kr (ls := L) (k := 1) (by rw [← HKq.out]; exact hK1) (by decide)
            subst hK1
            have HQ := Lib.hid (made_any L 7 (some ⟨g3, 0, none⟩) 19 w5 HRL5.out ⟨by rw [HL19.out]; omega, fun x hx => by have := HLA.out x hx; omega, hkr⟩ (by omega) (by omega))
            rw [HL19.out] at HQ
            clear hkr
            go_wp2_with fail
            refine HQ.out.mono ?_
            rintro e w6 ⟨g, rfl, ht, hb⟩
            obtain ⟨hA6, hM6⟩ := HA5.out.color hb 6
            obtain ⟨d6, hd6⟩ : ∃ d6, d6 = { d5 with c := recol w5.heap.size d5.c 6 } := ⟨_, rfl⟩
            rw [← hd6] at hA6
            have hT6 : TabIn w6 d6.c g L 7 := by rw [hd6]; exact isTab_in d5.c ht
            have h13 : w6.cell? ⟨x, 13, none⟩ = some (ptr d6.ht) := hA6.blk.cell 13
            have h12 : w6.cell? ⟨x, 12, none⟩ = some (.slice d6.la t.lens.length d6.lc) := hA6.blk.cell 12
            have h6 : w6.cell? ⟨x, 6, none⟩ = some (.int .i64 (t.next : Int)) := hA6.blk.cell 6
            have f13 := hA6.blk.frozen 13
            have f12 := hA6.blk.frozen 12
            have f6 := hA6.blk.frozen 6
            obtain ⟨hA7, hM7⟩ := hA6.hcode hT6
            have H8 := Lib.hid (hA7.set 6 (.int .i64 8) { t with hcode := some L, lens := [], next := 8 } rfl ⟨rfl, rfl, rfl, rfl, rfl, rfl, rfl, rfl, rfl, rfl, rfl⟩)
            have M8 := Lib.hid ((show Mv d.c d6.c w w6 by rw [hd6]; exact HM5.out.trans hM6).trans (hM7.trans (hA7.set_mv 6 (.int .i64 8))))
            clear ht hb hA6 hM6 hd6 hT6 hA7 hM7 HQ
            go_wp2_with fail
            go_end0
            refine ⟨{ d6 with ht := some g, la := none, lc := 0 }, M8, .inl ⟨rfl, _, steps1_of HR.out.1 ?_, (fun h => by simp at h), H8⟩⟩
            rw [HStep.out, if_neg (by decide)]
          · have hne : ((K : Int) != 1) = true := by simp; omega
            go_wp2_with fail
            refine (fail_any 2 w5).mono ?_
            rintro e w' ⟨rfl, rfl⟩
            go_wp2_with fail
            refine ⟨rfl, d5, HM5, .inr ⟨2, t, t, rfl, ⟨HR.out.1, ?_⟩, HA5, rfl, rfl, fun h => by simp at h⟩⟩
            rw [HStep.out, if_pos hK1]
end
end Go.Proofs.YtjejlhpnhkacmaaGreatDoor.InfC
end

section
/-
  The order of the code lengths, out of what is laid.
-/
namespace Go.Proofs.YtjejlhpnhkacmaaGreatDoor.InfC
open Go.RowKit Go.My

theorem gOrder : Tryz.prog.globalNamed "stevedore/inflate.order" = some 0 := by kernel_rfl
theorem tOrder : (Tryz.prog.globals[0]?).map (·.type) = some 99 := by kernel_rfl
def orderZ : List Int := [16, 17, 18, 0, 8, 7, 9, 6, 10, 5, 11, 4, 12, 3, 13, 2, 14, 1, 15]
theorem order_of_laid {rest : List (String × DataW Unit)} {W : World} (h : laidMet Tryz.prog (("stevedore/inflate.order", Lib.tabData .i64 orderZ) :: rest) W) : Ordr W.heap.size W := by
  obtain ⟨ps, ⟨g1, t1, cs1, f1, p1, q1, hg1, ht1, hv1, hd1, _, _⟩, _, _⟩ := h
  obtain rfl := Option.some.inj (gOrder.symm.trans hg1)
  obtain rfl := Option.some.inj (tOrder.symm.trans ht1)
  have hc := Lib.cells_of_tab Tryz.underlying99 Tryz.underlying3 (by kernel_rfl) (by kernel_rfl) hd1
  have at_ : ∀ i v, cs1.toList[i]? = some v → W.cell? ⟨0, i, none⟩ = some v := fun i v hv => by
    rw [World.var?_cell hg1 hv1 i]
    simpa using hv
  have hcell : ∀ i, i < 19 → W.cell? ⟨0, i, none⟩ = some (.int .i64 ((InfMath.order.getD i 0 : Nat) : Int)) := fun i hi => by
    refine at_ i _ ?_
    rw [hc]
    have : i = 0 ∨ i = 1 ∨ i = 2 ∨ i = 3 ∨ i = 4 ∨ i = 5 ∨ i = 6 ∨ i = 7 ∨ i = 8 ∨ i = 9 ∨ i = 10 ∨ i = 11 ∨ i = 12 ∨ i = 13 ∨ i = 14 ∨ i = 15 ∨ i = 16 ∨ i = 17 ∨ i = 18 := by omega
    rcases this with rfl | rfl | rfl | rfl | rfl | rfl | rfl | rfl | rfl | rfl | rfl | rfl | rfl | rfl | rfl | rfl | rfl | rfl | rfl <;> rfl
  exact ⟨block_lt_of_cell (hcell 0 (by omega)), hcell⟩
end Go.Proofs.YtjejlhpnhkacmaaGreatDoor.InfC
end

section
/-
  usable, previous.
-/
namespace Go.Proofs.YtjejlhpnhkacmaaGreatDoor.InfC
open Go.RowKit Go.My BitMath CanMath TabMath WinMath FeedC TabC CanC
open WinC (Wn)
open InfMath (M Ok CodeOk mu lack fixL fixD)

theorem kd_le (l : List Nat) : InfMath.kd l ≤ 4 := by
  unfold InfMath.kd
  repeat' split
  all_goals omega
set_option maxHeartbeats 1000000 in
theorem usable_any (l : List Nat) (a : Option Addr) (cap : Nat) (w : World) (h : RowIn w a l.length cap ((ints l).map iv)) (h1 : l.length ≤ 65536) (h2 : ∀ x ∈ l, x ≤ 15) :
    Calls Tryz.prog 65 #[.slice a l.length cap] w fun e w' => e = .returned (.bool (InfMath.usable l)) ∧ Below w.heap.size w w' := by
  have HK := Lib.hid (kind_good h (ints_good h1 h2))
  rw [nat_ints, kind_kd] at HK
  have hk4 := kd_le l
  have HU : Hid (InfMath.usable l = (InfMath.kd l == 1 || InfMath.kd l == 2)) := Lib.hid rfl
  generalize InfMath.kd l = K at *
  generalize InfMath.usable l = U at *
  clear h h1 h2
  rcases (by omega : K = 0 ∨ K = 1 ∨ K = 2 ∨ K = 3 ∨ K = 4) with rfl | rfl | rfl | rfl | rfl
  all_goals
    go_enter Tryz.func65, Tryz.ntmps65
    go_wp2_with fail
    refine HK.out.mono ?_
    rintro e w' ⟨rfl, hb⟩
    go_wp2_with fail
    go_ret
    exact ⟨by rw [HU.out]; rfl, hb⟩

section
variable {B x : Nat} {w : World} {s : M} {d : Ad}
set_option maxHeartbeats 1000000 in
theorem prev_any (h : Hid (At B w x s d)) (hl : s.lens.length ≤ 1000) :
    Calls Tryz.prog 84 #[.pointer (some ⟨x, 0, none⟩)] w fun e w' => (s.lens = [] ∧ Thrown 2 e ∨ s.lens ≠ [] ∧ e = .returned (.int .i64 ((s.lens.getLastD 0 : Nat) : Int))) ∧ ∃ n, w' = w.drewN n := by
  have h12 : w.cell? ⟨x, 12, none⟩ = some (.slice d.la s.lens.length d.lc) := h.out.blk.cell 12
  by_cases h0 : s.lens = []
  · rw [h0] at h12
    simp only [List.length_nil] at h12
    have H0 := Lib.hid h0
    clear h0
    go_enter Tryz.func84, Tryz.ntmps84
    go_wp2_with fail
    refine (fail_any 2 w).mono ?_
    rintro e w' ⟨rfl, rfl⟩
    go_wp2_with fail
    exact ⟨rfl, .inl ⟨H0.out, rfl⟩, 0, rfl⟩
  · have hpos : 0 < s.lens.length := List.length_pos_iff.2 h0
    have hrow := h.out.rs.lens.1.rowIn (by simp [ints])
    obtain ⟨b, off, hla⟩ := hrow.some_ hpos
    rw [hla] at hrow h12
    have hc : w.cell? ⟨b, off + (s.lens.length - 1), none⟩ = some (.int .i64 ((s.lens.getLastD 0 : Nat) : Int)) := by
      rw [hrow.get (s.lens.length - 1) (by simp [ints]; omega)]
      simp only [ints, iv, List.getElem_map]
      rw [List.getLastD_eq_getLast?, List.getLast?_eq_some_getLast h0, Option.getD_some, List.getLast_eq_getElem]
    have hz : ((s.lens.length : Int) == 0) = false := by simp; exact h0
    have H0 := Lib.hid h0
    obtain ⟨N, hN⟩ : ∃ N, N = s.lens.length - 1 := ⟨_, rfl⟩
    rw [← hN] at hc
    have hNl : N < s.lens.length := by omega
    have w1 : IntKind.i64.wrap ((s.lens.length : Int) - 1) = (N : Int) := by rw [IntWalk.i64_in _ (by omega)]; omega
    obtain ⟨W, hW⟩ : ∃ W, W = s.lens.length := ⟨_, rfl⟩
    rw [← hW] at h12 hz w1 hNl hl
    generalize s.lens.getLastD 0 = V at *
    clear h0 hpos hrow hla hN hW
    go_enter Tryz.func84, Tryz.ntmps84
    go_wp2_with fail
    go_quiet (fail)
    go_wp2_with fail
    go_ret
    exact ⟨.inr ⟨H0.out, rfl⟩, _, rfl⟩

theorem extra_le (v : Nat) : InfMath.extra v ≤ 7 := by
  unfold InfMath.extra
  repeat' split
  all_goals omega
theorem least_le (v : Nat) : 1 ≤ InfMath.least v ∧ InfMath.least v ≤ 11 := by
  unfold InfMath.least
  repeat' split
  all_goals omega
/-- What a reading of one step leaves. -/
def Goes1 (B x : Nat) (s : M) (d : Ad) (w : World) (e : Ending) (w' : World) : Prop :=
  ∃ d', Hid (Mv d.c d'.c w w') ∧ ((e = .returned (.tuple #[]) ∧ ∃ t, InfMath.step s = .more t ∧ Hid (At B w' x t d')) ∨
    (∃ c t t', Thrown c e ∧ InfMath.Ends s t c ∧ Hid (At B w' x t' d') ∧ t'.out = t.out ∧ t'.total = t.total ∧ (c = 5 ∨ c = 0 → t' = t)))
theorem Goes1.more {w' : World} {t : M} {d' : Ad} (hs : InfMath.step s = .more t) (h : Hid (At B w' x t d')) (m : Hid (Mv d.c d'.c w w')) : Goes1 B x s d w (.returned (.tuple #[])) w' :=
  ⟨d', m, .inl ⟨rfl, t, hs, h⟩⟩
theorem Goes1.halt {w' : World} {d' : Ad} {e : Ending} {c : Nat} (hs : InfMath.step s = .halt c) (h : Hid (At B w' x s d')) (m : Hid (Mv d.c d'.c w w')) (he : Thrown c e) : Goes1 B x s d w e w' :=
  ⟨d', m, .inr ⟨c, s, s, he, ⟨.refl _, hs⟩, h, rfl, rfl, fun _ => rfl⟩⟩
theorem PT.get {w : World} {c : Nat → Nat} {g : Option Nat} {o : Option (List Nat)} {f : Nat} {l : List Nat} (h : PT w c g o f) (ho : o = some l) : ∃ q, g = some q ∧ TabIn w c q l f := by
  rcases h with ⟨q, l', h1, h2, h3⟩ | ⟨_, h2⟩
  · rw [ho] at h2
    injection h2 with h2
    subst h2
    exact ⟨q, h1, h3⟩
  · rw [ho] at h2; cases h2

set_option maxRecDepth 100000 in
set_option maxHeartbeats 4000000 in
theorem length_any (h : Hid (At B w x s d)) (hok : Ok s) (hn : s.next = 8) (hlt : s.lens.length < s.hl + s.hd) :
    Calls Tryz.prog 64 #[.pointer (some ⟨x, 0, none⟩)] w (Goes1 B x s d w) := by
  obtain ⟨hlb, hall, hs, hhs, hck, hs19⟩ := hok.l8 hn
  have hb : s.bits.length ≤ 1000000000 := by have := hok.bnd; have := hok.psh; omega
  have HS : Hid (InfMath.step s = InfMath.readLength s hs) := Lib.hid (by
    unfold InfMath.step; rw [hn]
    show InfMath.readLengths s = _
    unfold InfMath.readLengths
    rw [if_pos hlt, hhs]; rfl)
  have hhl := hok.hl (by omega) (by omega)
  have hhd := hok.hd (by omega) (by omega)
  obtain ⟨g, hg, ht⟩ := h.out.rs.t1.get hhs
  have h13 : w.cell? ⟨x, 13, none⟩ = some (.pointer (some ⟨g, 0, none⟩)) := by have := h.out.blk.cell 13; rw [this]; show some (ptr d.ht) = _; rw [hg]; rfl
  have HL := Lib.hid (And.intro hlb (And.intro hall (And.intro hhl hhd)))
  have HQ := Lib.hid (symbol_any g 7 hs h ht hck (by omega) (by omega) hb)
  clear ht hg hhs hlb hall hhl hhd
  go_enter Tryz.func64, Tryz.ntmps64
  go_wp2_with fail
  refine HQ.out.mono ?_
  rintro e w1 ⟨hsym, hb1⟩
  have H1 := Lib.hid (h.out.later hb1)
  have M1 := Lib.hid (Mv.of_below hb1 d.c)
  clear hb1 h13 HQ
  rcases hsym with ⟨hc0, rfl⟩ | ⟨hc0, rfl⟩
  · go_wp2_with fail
    refine ⟨rfl, Goes1.halt ?_ H1 M1 rfl⟩
    rw [HS.out]; unfold InfMath.readLength; rw [if_pos hc0]
  · obtain ⟨-, -, s1, s2, s3, s4⟩ := InfMath.sym_ok hc0
    have HS2 : Hid (InfMath.step s = InfMath.readLen s (InfMath.sym hs s.bits).1 (InfMath.sym hs s.bits).2.1) := Lib.hid (by
      rw [HS.out]; unfold InfMath.readLength; rw [if_neg (by omega)])
    rw [hs19] at s4
    obtain ⟨v, hv⟩ : ∃ v, v = (InfMath.sym hs s.bits).1 := ⟨_, rfl⟩
    obtain ⟨n, hnq⟩ : ∃ n, n = (InfMath.sym hs s.bits).2.1 := ⟨_, rfl⟩
    rw [← hv] at HS2 s4 ⊢
    rw [← hnq] at HS2 s1 s2 s3 ⊢
    clear hc0 hv hnq HS hck hs19
    go_upto_block 0 with (fail)
    go_cut [4, 5, 6] (fun a b c wx => (v = 16 → s.lens ≠ []) ∧ a = .int .i64 ((InfMath.length_ v s.lens : Nat) : Int) ∧ b = .int .i64 ((InfMath.least v : Nat) : Int) ∧ c = .int .i64 ((InfMath.extra v : Nat) : Int) ∧ ∃ j, wx = w1.drewN j)
    case first =>
      by_cases h16 : v = 16
      · subst h16
        go_wp2_with fail
        refine (prev_any H1 (by have := HL.out; omega)).mono ?_
        rintro e w2 ⟨hp, j, rfl⟩
        rcases hp with ⟨hp, rfl⟩ | ⟨hp, rfl⟩
        · go_wp2_with fail
          refine ⟨rfl, Goes1.halt ?_ (Lib.hid (H1.out.drewN j)) (Lib.hid (M1.out.drewN j)) rfl⟩
          rw [HS2.out]; unfold InfMath.readLen; rw [if_pos ⟨rfl, hp⟩]
        · go_wp2_with fail
          go_meet
          case rel => exact ⟨fun _ => hp, by simp [InfMath.length_], rfl, rfl, j, rfl⟩
      · have z16 : ((v : Int) == 16) = false := by simp; omega
        by_cases h17 : v = 17
        · subst h17
          go_wp2_with fail
          go_meet
          case rel => exact ⟨fun e => absurd e h16, rfl, rfl, rfl, 0, rfl⟩
        · have z17 : ((v : Int) == 17) = false := by simp; omega
          by_cases h18 : v = 18
          · subst h18
            go_wp2_with fail
            go_meet
            case rel => exact ⟨fun e => absurd e h16, rfl, rfl, rfl, 0, rfl⟩
          · have z18 : ((v : Int) == 18) = false := by simp; omega
            have e1 : InfMath.length_ v s.lens = v := by unfold InfMath.length_; rw [if_neg h16, if_neg h17, if_neg h18]
            have e2 : InfMath.least v = 1 := by unfold InfMath.least; rw [if_neg h16, if_neg h17, if_neg h18]
            have e3 : InfMath.extra v = 0 := by unfold InfMath.extra; rw [if_neg h16, if_neg h17, if_neg h18]
            have HE := Lib.hid (And.intro e1 (And.intro e2 e3))
            clear e1 e2 e3
            go_wp2_with fail
            go_meet
            case rel => exact ⟨fun e => absurd e h16, by rw [HE.out.1], by rw [HE.out.2.1]; rfl, by rw [HE.out.2.2]; rfl, 0, rfl⟩
    case rest =>
      obtain ⟨h16, rfl, rfl, rfl, j, hj⟩ := hcut
      have H2 : Hid (At B wc x s d) := Lib.hid (by rw [hj]; exact H1.out.drewN j)
      have M2 : Hid (Mv d.c d.c w wc) := Lib.hid (by rw [hj]; exact M1.out.drewN j)
      clear hj H1 M1 h
      have HRL : Hid (InfMath.step s = if s.bits.length < n + InfMath.extra v then .halt (lack s) else if s.hl + s.hd < s.lens.length + (InfMath.least v + num ((s.bits.drop n).take (InfMath.extra v))) then .halt 2
          else .more { s with bits := s.bits.drop (n + InfMath.extra v), lens := s.lens ++ List.replicate (InfMath.least v + num ((s.bits.drop n).take (InfMath.extra v))) (InfMath.length_ v s.lens) }) := Lib.hid (by
        rw [HS2.out]; unfold InfMath.readLen; rw [if_neg (fun hh => h16 hh.1 hh.2)])
      have hex := extra_le v
      have hle := least_le v
      obtain ⟨ex, hexq⟩ : ∃ ex, ex = InfMath.extra v := ⟨_, rfl⟩
      obtain ⟨tm, htm⟩ : ∃ tm, tm = InfMath.least v := ⟨_, rfl⟩
      obtain ⟨lv, hlv⟩ : ∃ lv, lv = InfMath.length_ v s.lens := ⟨_, rfl⟩
      rw [← hexq] at HRL hex ⊢
      rw [← htm] at HRL hle ⊢
      rw [← hlv] at HRL ⊢
      clear hexq htm hlv HS2 h16
      have hz := InfMath.num_take_lt (s.bits.drop n) ex
      have hp7 : 2 ^ ex ≤ 2 ^ 7 := Nat.pow_le_pow_right (by omega) hex
      have hz128 : num ((s.bits.drop n).take ex) < 128 := by omega
      have HBH := Lib.hid (behind_any n ex H2 (by omega) hb)
      obtain ⟨z, hzq⟩ : ∃ z, z = num ((s.bits.drop n).take ex) := ⟨_, rfl⟩
      rw [← hzq] at HRL hz128 HBH
      clear hz hp7 hzq
      go_wp2_with fail
      refine HBH.out.mono ?_
      rintro e w3 ⟨hbh, j3, hj3⟩
      have H3 : Hid (At B w3 x s d) := Lib.hid (by rw [hj3]; exact H2.out.drewN j3)
      have M3 : Hid (Mv d.c d.c w w3) := Lib.hid (by rw [hj3]; exact M2.out.drewN j3)
      clear hj3 H2 M2 HBH
      rcases hbh with ⟨hbl, rfl⟩ | ⟨hbl, rfl⟩
      · go_wp2_with fail
        refine ⟨rfl, Goes1.halt ?_ H3 M3 rfl⟩
        rw [HRL.out, if_pos hbl]
      · have w1' : IntKind.i64.wrap ((tm : Int) + (z : Int)) = ((tm + z : Nat) : Int) := by rw [IntWalk.i64_in _ (by omega)]; omega
        obtain ⟨T, hT⟩ : ∃ T, T = tm + z := ⟨_, rfl⟩
        rw [← hT] at HRL w1'
        have hTb : 1 ≤ T ∧ T ≤ 139 := by omega
        have h9 : w3.cell? ⟨x, 9, none⟩ = some (.int .i64 (s.hl : Int)) := H3.out.blk.cell 9
        have h10 : w3.cell? ⟨x, 10, none⟩ = some (.int .i64 (s.hd : Int)) := H3.out.blk.cell 10
        have h12 : w3.cell? ⟨x, 12, none⟩ = some (.slice d.la s.lens.length d.lc) := H3.out.blk.cell 12
        have hb' := HL.out
        have w2' : IntKind.i64.wrap ((s.lens.length : Int) + (T : Int)) = (s.lens.length : Int) + (T : Int) := IntWalk.i64_in _ (by omega)
        have w3' : IntKind.i64.wrap ((s.hl : Int) + (s.hd : Int)) = (s.hl : Int) + (s.hd : Int) := IntWalk.i64_in _ (by omega)
        have w4' : IntKind.i64.wrap ((n : Int) + (ex : Int)) = ((n + ex : Nat) : Int) := by rw [IntWalk.i64_in _ (by omega)]; omega
        clear hT hz128 hle hb'
        by_cases hov : s.hl + s.hd < s.lens.length + T
        · have hdd : decide ((s.lens.length : Int) + (T : Int) > (s.hl : Int) + (s.hd : Int)) = true := by simp; omega
          go_wp2_with fail
          go_quiet (fail)
          go_wp2_with fail
          refine (fail_any 2 _).mono ?_
          rintro e w' ⟨rfl, rfl⟩
          go_wp2_with fail
          refine ⟨rfl, Goes1.halt ?_ (Lib.hid (H3.out.drewN _)) (Lib.hid (M3.out.drewN _)) rfl⟩
          rw [HRL.out, if_neg (by omega), if_pos hov]
        · have hdd : decide ((s.lens.length : Int) + (T : Int) > (s.hl : Int) + (s.hd : Int)) = false := by simp; omega
          have h2 : w3.cell? ⟨x, 2, none⟩ = some (.pointer (some ⟨d.f, 0, none⟩)) := H3.out.blk.cell 2
          go_wp2_with fail
          go_quiet (fail)
          go_wp2_with fail
          refine (skip_keep (n + ex) (Lib.hid (H3.out.drewN _)) hbl hb).mono ?_
          rintro e w4 ⟨rfl, c4, F4, H4, M4⟩
          have M5 := Lib.hid ((M3.out.drewN _).trans M4.out)
          clear h9 h10 h12 h2 w1' w2' w3' w4' H3 M3 M4
          go_wp2_with fail
          have hlb2 : s.lens.length + T ≤ 1000 := by have := HL.out; omega
          have h12a : w4.drew.cell? ⟨x, 12, none⟩ = some (.slice d.la s.lens.length d.lc) := H4.out.blk.cell 12
          have HA4 : Hid (At B (w4.alloc (.cells #[iv (lv : Int)] 3)).drew x { s with bits := s.bits.drop (n + ex) } { d with c := c4, F := F4 }) := Lib.hid ((H4.out.later ((Below.refl _ _).alloc (Nat.le_refl _) _)).drewN 1)
          have h12b : (w4.alloc (.cells #[.int .i64 (lv : Int)] 3)).cell? ⟨x, 12, none⟩ = some (.slice d.la s.lens.length d.lc) := HA4.out.blk.cell 12
          have HQ := Lib.hid (SlcC.repeat_any (lv : Int) T hTb.1 (by omega) _ _ (w4.alloc (.cells #[iv (lv : Int)] 3)).drew ((one_row w4 (lv : Int)).below (Nat.le_refl _) ((Below.refl _ _).drew)))
          go_region_law (first
            | (refine step_append_row (by rfl) _ _ _ (by rfl) B 3 (.int .i64 0) 8 Tryz.underlying42 SlcC.info_int rfl (.slice d.la s.lens.length d.lc) ((ints s.lens).map iv) s.lens.length (by simp [ints]) (by rfl) HX.out.rs.lens.1 _ T T (List.replicate T (iv (lv : Int))) (by rfl) HR5.out (fun u hu => by rw [(List.mem_replicate.1 hu).2]; rfl) (by omega) (by omega) hBX ?_; intro a6 c6 w6 hown hgrow hnext; have hb6 := HX.out.lens_blk hgrow; have h12d : w6.cell? ⟨x, 12, none⟩ = some (.slice d.la s.lens.length d.lc) := hb6.cell 12; have f12d := hb6.frozen 12)
            | (go_simp; (go_at_call 75; refine HQ.out.mono ?_; rintro e w5 ⟨g5, rfl, hown5, hb5⟩; have HX := Lib.hid (HA4.out.later hb5); have HR5 := Lib.hid (hown5.rowIn (by simp)); have hBX := HX.out.rs.lt; have h12c : w5.cell? ⟨x, 12, none⟩ = some (.slice d.la s.lens.length d.lc) := HX.out.blk.cell 12)))
          all_goals
            have hM5 : Mv c4 c4 w4 w5 := Mv.of_below ((((Below.refl w4.heap.size w4).alloc (Nat.le_refl _) _).drew).trans (hb5.mono (by simp [World.drew]))) c4
            obtain ⟨d7, hA7, hM7⟩ := HX.out.app_lens (l2 := List.replicate T lv) (m := T) (by simp) (by rw [ints_app, ints_rep]; exact hown) hgrow (Nat.le_refl _) hnext
            have HA7 := Lib.hid hA7
            have HM7 := Lib.hid (M5.out.trans (hM5.trans hM7))
            clear hA7 hM7 hM5
            go_wp2_with fail
            go_end0
            refine Goes1.more ?_ HA7 HM7
            rw [HRL.out, if_neg (by omega), if_neg hov]
end
end Go.Proofs.YtjejlhpnhkacmaaGreatDoor.InfC
end

section
/-
  readLengths: the codes of a block.
-/
namespace Go.Proofs.YtjejlhpnhkacmaaGreatDoor.InfC
open Go.RowKit Go.My BitMath CanMath TabMath WinMath FeedC TabC CanC
open WinC (Wn)
open InfMath (M Ok CodeOk mu lack fixL fixD)

theorem row_take {w : World} {a : Option Addr} {len cap : Nat} {vs : List Value} (h : RowIn w a len cap vs) (k : Nat) (hk : k ≤ len) : RowIn w a k cap (vs.take k) := by
  obtain ⟨rfl, h2, h3, h4, h5⟩ := h
  refine ⟨by simp; omega, by omega, h3, fun h => ⟨by have := (h4 h).1; omega, (h4 h).2⟩, ?_⟩
  rcases h5 with h5 | ⟨b, off, ha, hs, hc⟩
  · left; omega
  · right
    exact ⟨b, off, ha, hs, fun i hi => by rw [hc i (by simp at hi; omega), List.getElem_take]⟩
theorem row_drop {w : World} {b off len cap : Nat} {vs : List Value} (h : RowIn w (some ⟨b, off, none⟩) len cap vs) (k : Nat) (hk : k ≤ len) : RowIn w (some ⟨b, off + k, none⟩) (len - k) (cap - k) (vs.drop k) := by
  obtain ⟨rfl, h2, h3, h4, h5⟩ := h
  refine ⟨by simp, by omega, by omega, fun h => (by cases h), ?_⟩
  rcases h5 with h5 | ⟨b', off', ha, hs, hc⟩
  · left; omega
  · right
    cases ha
    exact ⟨b, off + k, rfl, hs, fun i hi => by
      rw [List.getElem_drop, ← hc (k + i) (by simp at hi; omega), Nat.add_assoc]⟩
theorem step8 {s t : M} (hn : s.next = 8) (hlt : s.lens.length < s.hl + s.hd) (h : InfMath.step s = .more t) : t.next = 8 ∧ s.lens.length < t.lens.length := by
  unfold InfMath.step at h
  rw [hn] at h
  simp only at h
  unfold InfMath.readLengths at h
  rw [if_pos hlt] at h
  unfold InfMath.readLength at h
  split at h
  · cases h
  · unfold InfMath.readLen at h
    repeat' split at h
    all_goals first | (cases h; done) | skip
    cases h
    refine ⟨hn, ?_⟩
    have := least_le (InfMath.sym (s.hcode.getD []) s.bits).1
    simp
    omega

/-- The machine stands where lengths are read. -/
def Reads8 (B x : Nat) (s : M) (d : Ad) (w : World) (t : M) (d' : Ad) (w' : World) : Prop :=
  InfMath.Steps s t ∧ Ok t ∧ t.next = 8 ∧ At B w' x t d' ∧ Mv d.c d'.c w w'
section
variable {B x : Nat} {w : World} {s : M} {d : Ad}
set_option maxRecDepth 100000 in
set_option maxHeartbeats 4000000 in
theorem lengths_any (h : Hid (At B w x s d)) (hok : Ok s) (hn : s.next = 8) :
    Calls Tryz.prog 48 #[.pointer (some ⟨x, 0, none⟩)] w (Goes B x s d w) := by
  go_enter Tryz.func48, Tryz.ntmps48
  go_wp2_with fail
  go_loopw [] (fun wr => ∃ t d', Hid (Reads8 B x s d w t d' wr)) (fun wr => 400 - lensAt wr x)
  case atStart => exact ⟨s, d, Lib.hid ⟨.refl _, hok, hn, h.out, Mv.refl _ _⟩⟩
  case round =>
    clear h hok hn
    obtain ⟨t, d1, HR⟩ := hrel
    have hA := HR.out.2.2.2.1
    have h9 : wr.cell? ⟨x, 9, none⟩ = some (.int .i64 (t.hl : Int)) := hA.blk.cell 9
    have h10 : wr.cell? ⟨x, 10, none⟩ = some (.int .i64 (t.hd : Int)) := hA.blk.cell 10
    have h12 : wr.cell? ⟨x, 12, none⟩ = some (.slice d1.la t.lens.length d1.lc) := hA.blk.cell 12
    have hhl := HR.out.2.1.hl (by have := HR.out.2.2.1; omega) (by have := HR.out.2.2.1; omega)
    have hhd := HR.out.2.1.hd (by have := HR.out.2.2.1; omega) (by have := HR.out.2.2.1; omega)
    have w3' : IntKind.i64.wrap ((t.hl : Int) + (t.hd : Int)) = (t.hl : Int) + (t.hd : Int) := IntWalk.i64_in _ (by omega)
    have HL := Lib.hid (lensAt_of hA)
    have HH := Lib.hid (And.intro hhl hhd)
    clear hA
    by_cases hlt : t.lens.length < t.hl + t.hd
    · have hdd : decide ((t.lens.length : Int) < (t.hl : Int) + (t.hd : Int)) = true := by simp; omega
      go_wp2_with fail
      go_quiet (fail)
      have HA1 : Hid (At B (wr.drewN nq) x t d1) := Lib.hid (HR.out.2.2.2.1.drewN _)
      have HM1 : Hid (Mv d.c d1.c w (wr.drewN nq)) := Lib.hid (HR.out.2.2.2.2.drewN _)
      have HQ := Lib.hid (length_any HA1 HR.out.2.1 HR.out.2.2.1 hlt)
      clear h9 h10 h12 w3' hdd
      generalize wr.drewN nq = w1 at *
      go_wp2_with fail
      refine HQ.out.mono ?_
      rintro e w2 ⟨d2, M2, hg⟩
      rcases hg with ⟨rfl, t2, hst, H2⟩ | ⟨c, t2, t3, rfl, hen, H2, ho, hto, h5⟩
      · obtain ⟨hn2, hl2⟩ := step8 HR.out.2.2.1 hlt hst
        have HRR : Hid (Reads8 B x s d w t2 d2 w2) := Lib.hid ⟨HR.out.1.snoc hst, HR.out.2.1.step hst, hn2, H2.out, HM1.out.trans M2.out⟩
        have HME := Lib.hid (And.intro (lensAt_of H2.out) hl2)
        clear hst hn2 hl2 HQ
        go_wp2_with fail
        go_roundw
        case rel => exact ⟨_, d2, HRR⟩
        case measure => have h1 := HME.out; have h2 := HH.out; have h3 := HL.out; rw [h1.1, h3]; omega
      · go_wp2_with fail
        exact ⟨rfl, d2, Lib.hid (HM1.out.trans M2.out), .inr ⟨c, t2, t3, rfl, hen.of HR.out.1, H2, ho, hto, h5⟩⟩
    · have hdd : decide ((t.lens.length : Int) < (t.hl : Int) + (t.hd : Int)) = false := by simp; omega
      obtain ⟨hlb, hall, -⟩ := HR.out.2.1.l8 HR.out.2.2.1
      have hlen : t.lens.length = t.hl + t.hd := by omega
      have HLen := Lib.hid (And.intro hlen hall)
      have HStep : Hid (InfMath.step t = if InfMath.goodCodes (t.lens.take t.hl) (t.lens.drop t.hl) = false then .halt 2
          else .more { t with lit := some (t.lens.take t.hl), dist := some (t.lens.drop t.hl), hl := 0, hd := 0, hc := 0, lens := [], hcode := none, next := 9 }) := Lib.hid (by
        unfold InfMath.step
        rw [HR.out.2.2.1]
        show InfMath.readLengths t = _
        unfold InfMath.readLengths
        rw [if_neg hlt])
      clear hlb hall hlen
      go_wp2_with fail
      go_quiet (fail)
      have HA1 : Hid (At B (wr.drewN nq) x t d1) := Lib.hid (HR.out.2.2.2.1.drewN _)
      have HM1 : Hid (Mv d.c d1.c w (wr.drewN nq)) := Lib.hid (HR.out.2.2.2.2.drewN _)
      clear h9 h10 h12 w3' hdd hlt
      generalize wr.drewN nq = wq at *
      have hrow := HA1.out.rs.lens.1.rowIn (by simp [ints])
      obtain ⟨b, off, hla⟩ := hrow.some_ (by have := HLen.out.1; omega)
      have hlc := hrow.le_cap
      have hcm := hrow.cap_le
      obtain ⟨Hl, hHl⟩ : ∃ Hl, Hl = t.hl := ⟨_, rfl⟩
      obtain ⟨N, hN⟩ : ∃ N, N = t.lens.length := ⟨_, rfl⟩
      obtain ⟨l, hl⟩ : ∃ l, l = t.lens.take t.hl := ⟨_, rfl⟩
      obtain ⟨dl, hdl⟩ : ∃ dl, dl = t.lens.drop t.hl := ⟨_, rfl⟩
      have hll : l.length = Hl := by rw [hl, List.length_take]; have := HLen.out.1; omega
      have hdll : dl.length = N - Hl := by rw [hdl, List.length_drop]; omega
      have hrl : RowIn wq (some ⟨b, off, none⟩) l.length d1.lc ((ints l).map iv) := by
        have h1 := hrow
        rw [hla] at h1
        have := row_take h1 Hl (by have := HLen.out.1; omega)
        rw [hll, hl, ← hHl]
        simpa [ints, List.map_take] using this
      have hrd : RowIn wq (some ⟨b, off + Hl, none⟩) dl.length (d1.lc - Hl) ((ints dl).map iv) := by
        have h1 := hrow
        rw [hla] at h1
        have := row_drop h1 Hl (by have := HLen.out.1; omega)
        rw [hdll, hdl, ← hHl, hN]
        simpa [ints, List.map_drop] using this
      have h12 : wq.cell? ⟨x, 12, none⟩ = some (.slice (some ⟨b, off, none⟩) N d1.lc) := by have := HA1.out.blk.cell 12; rw [this, ← hla, hN]; rfl
      have h9 : wq.cell? ⟨x, 9, none⟩ = some (.int .i64 (Hl : Int)) := by have := HA1.out.blk.cell 9; rw [this, hHl]; rfl
      have hnums : 257 ≤ Hl ∧ Hl ≤ 286 ∧ Hl < N ∧ N ≤ d1.lc ∧ N - Hl ≤ 32 := by have := HLen.out.1; have := HH.out; omega
      have hne : ¬ d1.lc = Hl := by omega
      have HRL := Lib.hid (And.intro hrl (And.intro hrd (And.intro hll hdll)))
      have HNum := Lib.hid hnums
      rw [← hl, ← hdl] at HStep
      have HAll : Hid ((∀ y ∈ l, y ≤ 15) ∧ ∀ y ∈ dl, y ≤ 15) := Lib.hid ⟨fun y hy => HLen.out.2 y (by rw [hl] at hy; exact List.mem_of_mem_take hy), fun y hy => HLen.out.2 y (by rw [hdl] at hy; exact List.mem_of_mem_drop hy)⟩
      clear hrow hla hHl hN hl hdl hll hdll hrl hrd HLen HH
      go_wp2_with fail
      go_quiet (fail)
      have HA2 : Hid (At B (wq.drewN nq) x t d1) := Lib.hid (HA1.out.drewN _)
      have HM2 : Hid (Mv d.c d1.c w (wq.drewN nq)) := Lib.hid (HM1.out.drewN _)
      have hq : Below wq.heap.size wq (wq.drewN nq) := quiet_below wq nq
      have HRL2 : Hid (RowIn (wq.drewN nq) (some ⟨b, off, none⟩) l.length d1.lc ((ints l).map iv) ∧ RowIn (wq.drewN nq) (some ⟨b, off + Hl, none⟩) dl.length (d1.lc - Hl) ((ints dl).map iv) ∧ l.length = Hl ∧ dl.length = N - Hl) := Lib.hid ⟨HRL.out.1.below (Nat.le_refl _) hq, HRL.out.2.1.below (Nat.le_refl _) hq, HRL.out.2.2⟩
      clear h12 h9 hne hlc hcm hnums hq HRL HA1 HM1 hhl hhd
      generalize wq.drewN nq = w0 at *
      have HU : Hid (∀ w', Below w0.heap.size w0 w' → Calls Tryz.prog 65 #[.slice (some ⟨b, off, none⟩) Hl d1.lc] w' fun e w'' => e = .returned (.bool (InfMath.usable l)) ∧ Below w'.heap.size w' w'') := Lib.hid (fun w' hb => by
        have h1 := usable_any l _ _ w' (HRL2.out.1.below (Nat.le_refl _) hb) (by have := HRL2.out; have := HNum.out; omega) HAll.out.1
        rw [HRL2.out.2.2.1] at h1; exact h1)
      have HUD : Hid (∀ w', Below w0.heap.size w0 w' → Calls Tryz.prog 65 #[.slice (some ⟨b, off + Hl, none⟩) (N - Hl) (d1.lc - Hl)] w' fun e w'' => e = .returned (.bool (InfMath.usable dl)) ∧ Below w'.heap.size w' w'') := Lib.hid (fun w' hb => by
        have h1 := usable_any dl _ _ w' (HRL2.out.2.1.below (Nat.le_refl _) hb) (by have := HRL2.out; have := HNum.out; omega) HAll.out.2
        rw [HRL2.out.2.2.2] at h1; exact h1)
      have HKD : Hid (∀ w', Below w0.heap.size w0 w' → Calls Tryz.prog 62 #[.slice (some ⟨b, off + Hl, none⟩) (N - Hl) (d1.lc - Hl)] w' fun e w'' => e = .returned (.int .i64 ((InfMath.kd dl : Nat) : Int)) ∧ Below w'.heap.size w' w'') := Lib.hid (fun w' hb => by
        have h1 := kind_good (HRL2.out.2.1.below (Nat.le_refl _) hb) (ints_good (by have := HRL2.out; have := HNum.out; omega) HAll.out.2)
        rw [nat_ints, kind_kd, HRL2.out.2.2.2] at h1; exact h1)
      have HGC : Hid (InfMath.goodCodes l dl = (l.getD 256 0 != 0 && InfMath.usable l && (InfMath.kd dl == 0 || InfMath.usable dl))) := Lib.hid rfl
      have hc256 : w0.cell? ⟨b, off + 256, none⟩ = some (.int .i64 ((l.getD 256 0 : Nat) : Int)) := by
        have hk : 256 < l.length := by rw [HRL2.out.2.2.1]; have := HNum.out; omega
        rw [HRL2.out.1.get 256 (by simp [ints]; exact hk)]
        simp [ints, iv, List.getD_eq_getElem?_getD, List.getElem?_eq_getElem hk]
      have hH256 : (256 : Nat) < Hl := by have := HNum.out; omega
      obtain ⟨G, hG⟩ : ∃ G, G = InfMath.goodCodes l dl := ⟨_, rfl⟩
      have HGq := Lib.hid hG
      rw [← hG] at HGC HStep
      generalize l.getD 256 0 = L at *
      obtain ⟨U, hU⟩ : ∃ U, U = InfMath.usable l := ⟨_, rfl⟩
      obtain ⟨UD, hUD⟩ : ∃ UD, UD = InfMath.usable dl := ⟨_, rfl⟩
      obtain ⟨K, hK⟩ : ∃ K, K = InfMath.kd dl := ⟨_, rfl⟩
      have HUq := Lib.hid (And.intro hU (And.intro hUD hK))
      rw [← hU] at HU HGC
      rw [← hUD] at HUD HGC
      rw [← hK] at HKD HGC
      clear hG hU hUD hK
      go_upto_region 3 with (fail)
      go_cut [64] (fun bv wx => bv = .bool (!G) ∧ Below w0.heap.size w0 wx)
      case first =>
        by_cases hL0 : L = 0
        · subst hL0
          go_wp2_with fail
          go_meet
          case rel => exact ⟨by rw [HGC.out]; rfl, Below.refl _ _⟩
        · have hLz : ((L : Int) == 0) = false := by simp; omega
          have HLz : Hid ((L != 0) = true) := Lib.hid (by simp; omega)
          cases U
          · go_wp2_with fail
            refine (HU.out _ (Below.refl _ _)).mono ?_
            rintro e w1 ⟨rfl, hb1⟩
            go_wp2_with fail
            go_meet
            case rel => exact ⟨by rw [HGC.out]; simp, hb1⟩
          · by_cases hK0 : K = 0
            · subst hK0
              go_wp2_with fail
              refine (HU.out _ (Below.refl _ _)).mono ?_
              rintro e w1 ⟨rfl, hb1⟩
              have HB1 := Lib.hid hb1
              clear hb1
              go_wp2_with fail
              refine (HKD.out _ HB1.out).mono ?_
              rintro e w2 ⟨rfl, hb2⟩
              have HB2 := Lib.hid (HB1.out.trans (hb2.mono HB1.out.size))
              clear hb2
              go_wp2_with fail
              go_meet
              case rel => exact ⟨by rw [HGC.out, HLz.out]; rfl, HB2.out⟩
            · have hKz : ((K : Int) != 0) = true := by simp; omega
              have HKz : Hid ((K == 0) = false) := Lib.hid (by simp; omega)
              cases UD
              all_goals
                go_wp2_with fail
                refine (HU.out _ (Below.refl _ _)).mono ?_
                rintro e w1 ⟨rfl, hb1⟩
                have HB1 := Lib.hid hb1
                clear hb1
                go_wp2_with fail
                refine (HKD.out _ HB1.out).mono ?_
                rintro e w2 ⟨rfl, hb2⟩
                have HB2 := Lib.hid (HB1.out.trans (hb2.mono HB1.out.size))
                clear hb2
                go_wp2_with fail
                refine (HUD.out _ HB2.out).mono ?_
                rintro e w3 ⟨rfl, hb3⟩
                have HB3 := Lib.hid (HB2.out.trans (hb3.mono HB2.out.size))
                clear hb3
                go_wp2_with fail
                go_meet
                case rel => exact ⟨by rw [HGC.out, HLz.out, HKz.out]; rfl, HB3.out⟩
      case rest =>
        obtain ⟨rfl, hbc⟩ := hcut
        obtain ⟨hAc, hMc⟩ := HA2.out.color hbc 0
        obtain ⟨d3, hd3⟩ : ∃ d3, d3 = { d1 with c := recol w0.heap.size d1.c 0 } := ⟨_, rfl⟩
        have HA3 : Hid (At B wc x t d3) := Lib.hid (by rw [hd3]; exact hAc)
        have HM3 : Hid (Mv d.c d3.c w wc) := Lib.hid (by rw [hd3]; exact HM2.out.trans hMc)
        have HRc : Hid (RowIn wc (some ⟨b, off, none⟩) l.length d1.lc ((ints l).map iv) ∧ RowIn wc (some ⟨b, off + Hl, none⟩) dl.length (d1.lc - Hl) ((ints dl).map iv)) := Lib.hid ⟨HRL2.out.1.below (Nat.le_refl _) hbc, HRL2.out.2.1.below (Nat.le_refl _) hbc⟩
        clear hbc hAc hMc hd3 HU HUD HKD hc256 HA2 HM2
        cases G
        · go_wp2_with fail
          refine (fail_any 2 wc).mono ?_
          rintro e w' ⟨rfl, rfl⟩
          go_wp2_with fail
          refine ⟨rfl, d3, HM3, .inr ⟨2, t, t, rfl, ⟨HR.out.1, ?_⟩, HA3, rfl, rfl, fun h => by simp at h⟩⟩
          rw [HStep.out]; exact if_pos trivial
        · have hgood : InfMath.usable l = true ∧ (InfMath.kd dl = 0 ∨ InfMath.usable dl = true) := by
            have h1 := HGq.out
            unfold InfMath.goodCodes at h1
            have h2 := h1.symm
            simp only [Bool.and_eq_true, Bool.or_eq_true, beq_iff_eq] at h2
            exact ⟨h2.1.2, h2.2⟩
          have hcl : CodeOk l := ⟨by rw [HRL2.out.2.2.1]; have := HNum.out; omega, HAll.out.1, InfMath.usable_kr hgood.1⟩
          have hcd : CodeOk dl := ⟨by rw [HRL2.out.2.2.2]; have := HNum.out; omega, HAll.out.2, by
            rcases hgood.2 with hg | hg
            · exact InfMath.kd_kr hg (by decide)
            · exact InfMath.usable_kr hg⟩
          have HCD := Lib.hid hcd
          have HQ := Lib.hid (made_any l 9 _ _ wc HRc.out.1 hcl (by omega) (by omega))
          rw [HRL2.out.2.2.1] at HQ
          clear hgood hcl hcd
          go_wp2_with fail
          refine HQ.out.mono ?_
          rintro e w4 ⟨g1, rfl, ht, hb4⟩
          obtain ⟨hA4, hM4⟩ := HA3.out.color hb4 6
          obtain ⟨d4, hd4⟩ : ∃ d4, d4 = { d3 with c := recol wc.heap.size d3.c 6 } := ⟨_, rfl⟩
          have HA4 : Hid (At B w4 x t d4) := Lib.hid (by rw [hd4]; exact hA4)
          have HM4 : Hid (Mv d.c d4.c w w4) := Lib.hid (by rw [hd4]; exact HM3.out.trans hM4)
          have HT4 : Hid (TabIn w4 d4.c g1 l 9) := Lib.hid (by rw [hd4]; exact isTab_in d3.c ht)
          have HQ2 := Lib.hid (made_any dl 6 _ _ w4 (HRc.out.2.below (Nat.le_refl _) hb4) HCD.out (by omega) (by omega))
          rw [HRL2.out.2.2.2] at HQ2
          clear ht hb4 hA4 hM4 hd4 HQ HA3 HM3 HRc
          go_wp2_with fail
          refine HQ2.out.mono ?_
          rintro e w5 ⟨g2, rfl, ht, hb5⟩
          obtain ⟨hA5, hM5⟩ := HA4.out.color hb5 6
          obtain ⟨d5, hd5⟩ : ∃ d5, d5 = { d4 with c := recol w4.heap.size d4.c 6 } := ⟨_, rfl⟩
          rw [← hd5] at hA5
          have hM5' : Mv d.c d5.c w w5 := by rw [hd5]; exact HM4.out.trans hM5
          have hT5 : TabIn w5 d5.c g1 l 9 := by rw [hd5]; exact HT4.out.turn (i := 0) ⟨Only.of_below hb5 _, fun k hk => recol_old d4.c hk⟩ (by decide)
          have hT5b : TabIn w5 d5.c g2 dl 6 := by rw [hd5]; exact isTab_in d4.c ht
          have h16 : w5.cell? ⟨x, 16, none⟩ = some (ptr d5.lt) := hA5.blk.cell 16
          have h17 : w5.cell? ⟨x, 17, none⟩ = some (ptr d5.dt) := hA5.blk.cell 17
          have h9 : w5.cell? ⟨x, 9, none⟩ = some (.int .i64 (t.hl : Int)) := hA5.blk.cell 9
          have h10 : w5.cell? ⟨x, 10, none⟩ = some (.int .i64 (t.hd : Int)) := hA5.blk.cell 10
          have h11 : w5.cell? ⟨x, 11, none⟩ = some (.int .i64 (t.hc : Int)) := hA5.blk.cell 11
          have h12 : w5.cell? ⟨x, 12, none⟩ = some (.slice d5.la t.lens.length d5.lc) := hA5.blk.cell 12
          have h13 : w5.cell? ⟨x, 13, none⟩ = some (ptr d5.ht) := hA5.blk.cell 13
          have h6 : w5.cell? ⟨x, 6, none⟩ = some (.int .i64 (t.next : Int)) := hA5.blk.cell 6
          have f16 := hA5.blk.frozen 16
          have f17 := hA5.blk.frozen 17
          have f9 := hA5.blk.frozen 9
          have f10 := hA5.blk.frozen 10
          have f11 := hA5.blk.frozen 11
          have f12 := hA5.blk.frozen 12
          have f13 := hA5.blk.frozen 13
          have f6 := hA5.blk.frozen 6
          obtain ⟨hA6, hM6⟩ := hA5.codes hT5 hT5b
          obtain ⟨hA7, hM7⟩ := hA6.head 0
          have H8 := Lib.hid (hA7.set 6 (.int .i64 9) { t with lit := some l, dist := some dl, hl := 0, hd := 0, hc := 0, lens := [], hcode := none, next := 9 } rfl ⟨rfl, rfl, rfl, rfl, rfl, rfl, rfl, rfl, rfl, rfl, rfl⟩)
          have M8 := Lib.hid (hM5'.trans (hM6.trans (hM7.trans (hA7.set_mv 6 (.int .i64 9)))))
          unfold heads at H8 M8
          clear ht hb5 hA5 hM5 hM5' hd5 hT5 hT5b hA6 hM6 hA7 hM7 HQ2 HA4 HM4 HT4
          go_wp2_with fail
          go_end0
          refine ⟨{ d5 with lt := some g1, dt := some g2, la := none, lc := 0, ht := none }, M8, .inl ⟨rfl, _, steps1_of HR.out.1 ?_, (fun h => by simp at h), H8⟩⟩
          rw [HStep.out, if_neg (by decide)]
end
end Go.Proofs.YtjejlhpnhkacmaaGreatDoor.InfC
end
