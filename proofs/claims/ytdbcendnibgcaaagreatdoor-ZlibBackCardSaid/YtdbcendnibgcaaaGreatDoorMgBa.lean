import Derived.Test.YtdbcendnibgcaaaGreatDoorMgAz
import Derived.Test.YtdbcendnibgcaaaGreatDoorMgAa
import Derived.OrdersHeld

section
/-
  Stored blocks: readSize, readBytes.
-/
namespace Go.Proofs.YtdbcendnibgcaaaGreatDoor.InfC
open Go.RowKit Go.My BitMath CanMath TabMath WinMath FeedC TabC CanC
open WinC (Wn)
open InfMath (M Ok CodeOk mu lack fixL fixD)

theorem num_byte (b : UInt8) : num (lows 8 b.toNat) = b.toNat := by
  rw [num_lows, Nat.mod_eq_of_lt]
  have := b.toNat_lt; omega
theorem num_two (a b : UInt8) : num (bitsOf [a, b]) = a.toNat + 256 * b.toNat := by
  rw [bitsOf_cons, bitsOf_one, num_append, lows_len, num_byte, num_byte]
/-- Two bytes as one number. -/
theorem u16_two (a b : Nat) (ha : a < 256) (hb : b < 256) : bits .or .u16 (a : Int) ((b : Int) * 256) = ((a + 256 * b : Nat) : Int) := by
  rw [show (b : Int) * 256 = ((b * 2 ^ 8 : Nat) : Int) from by omega, u16_or_nat _ _ (by omega) (by omega), or_join 8 a b ha]

theorem u16_not (N : Nat) (h : N < 65536) : bits .xor .u16 65535 (N : Int) = ((65535 - N : Nat) : Int) := by
  rw [show (65535 : Int) = ((65535 : Nat) : Int) from rfl, u16_xor_nat _ _ (by omega) h]
  congr 1
  have h1 : (BitVec.allOnes 16 ^^^ BitVec.ofNat 16 N).toNat = (~~~(BitVec.ofNat 16 N)).toNat := by rw [BitVec.allOnes_xor]
  rw [BitVec.toNat_xor, BitVec.toNat_not, BitVec.toNat_allOnes, BitVec.toNat_ofNat, Nat.mod_eq_of_lt (by omega)] at h1
  exact h1
theorem Mv.of_drew {c c' : Nat → Nat} {w w' : World} (m : Mv c c' w.drew w') : Mv c c' w w' := ⟨Only.of_drewN (n := 1) m.only, m.col⟩
section
variable {B x : Nat} {w : World} {s : M} {d : Ad}
/-- Bytes are taken. -/
theorem take_at (n : Int) (h : Hid (At B w x s d)) (hb : s.bits.length ≤ 1000000000) :
    Calls Tryz.prog 89 #[.pointer (some ⟨d.f, 0, none⟩), .int .i64 n] w fun e w' => ∃ a c l, e = .returned (.tuple #[.slice a l.length c, .int .i64 (takeCode s.bits n)]) ∧ Own 5 w.heap.size w' (.slice a l.length c) l ∧ bitsOf l = takeBytes s.bits n ∧
      ∃ d', Hid (At B w' x { s with bits := takeBits s.bits n } d') ∧ Hid (Mv d.c d'.c w w') ∧ ∀ k, Value.ownBlock (.slice a l.length c) = some k → d'.c k = 0 := by
  refine (take_own n _ _ _ _ _ _ w h.out.rs.feed.1 hb).mono ?_
  rintro e w' ⟨a, c, l, rfl, ho, hl, F', h1, h2, h3, h4⟩
  refine ⟨a, c, l, rfl, ho, hl, ?_⟩
  have hB := h.out.rs.lt
  obtain ⟨c', hc'⟩ : ∃ c', c' = fun k => if Value.ownBlock (.slice a l.length c) = some k then 0 else recol w.heap.size d.c 2 k := ⟨_, rfl⟩
  have hlie : ∀ k, Value.ownBlock (.slice a l.length c) = some k → w.heap.size ≤ k := fun k hk => (World.ownsRow.lt ho k hk).1
  have hold : ∀ k, k < w.heap.size → c' k = d.c k := fun k hk => by
    rw [hc']
    by_cases e : Value.ownBlock (.slice a l.length c) = some k
    · have := hlie k e; omega
    · simp only; rw [if_neg e]; exact recol_old d.c hk
  have t : Turn 2 d.c c' w w' := ⟨h2.mono (fun k _ hk => h.out.rs.feed.2 k hk), hold⟩
  refine ⟨{ d with c := c', F := F' }, Lib.hid ⟨h.out.blk.same (t.only.block x h.out.lt (by rw [h.out.rs.cx]; decide)), h.out.rs.base, (hold x h.out.lt).trans h.out.rs.cx, fun k hk => (hold k (by omega)).trans (h.out.rs.low k hk), ⟨h1, fun k hk => ?_⟩, h.out.rs.win.turn t (by decide), h.out.rs.out.turn t (by decide), h.out.rs.lens.turn t (by decide), h.out.rs.t1.turn t (by decide), h.out.rs.t2.turn t (by decide), h.out.rs.t3.turn t (by decide), h.out.rs.t4.turn t (by decide), h.out.rs.t5.turn t (by decide)⟩, Lib.hid (t.mv (by decide)), fun k hk => by simp only; rw [hc']; simp only; rw [if_pos hk]⟩
  by_cases hk2 : k < w.heap.size
  · rcases h3 k hk with hF | hF
    · exact (hold k hk2).trans (h.out.rs.feed.2 k hF)
    · omega
  · simp only
    rw [hc']
    simp only
    rw [if_neg (fun e => h4 k e hk)]
    exact recol_new d.c (by omega)

/-- m bytes were taken. -/
def TakenAt (B x : Nat) (s : M) (d : Ad) (w : World) (m : Nat) (bv : Value) (w' : World) : Prop :=
  ∃ a c l d2, bv = .slice a l.length c ∧ Own 5 w.heap.size w' (.slice a l.length c) l ∧ bitsOf l = takeBytes s.bits (m : Int) ∧
    Hid (At B w' x { s with bits := takeBits s.bits (m : Int) } d2) ∧ Mv d.c d2.c w w' ∧ ∀ k, Value.ownBlock (.slice a l.length c) = some k → d2.c k = 0
theorem own_bytes {E : TypeId} {B : Nat} {w : World} {a : Option Addr} {n c : Nat} {l : List UInt8} (h : Own E B w (.slice a n c) l) (hn : l.length = n) : Bytes w a n c l := by
  subst hn
  obtain ⟨a', c', e, hb⟩ := h.bytes
  simp only [Value.slice.injEq, true_and] at e
  obtain ⟨rfl, rfl⟩ := e
  exact hb

theorem steps1_of {s t u : M} (h : InfMath.Steps s t) (k : InfMath.step t = .more u) : Steps1 s u := by
  cases h with
  | refl => exact ⟨u, k, .refl _⟩
  | cons h1 h2 => exact ⟨_, h1, h2.snoc k⟩
set_option maxRecDepth 100000 in
set_option maxHeartbeats 4000000 in
theorem size_any (h : Hid (At B w x s d)) (hn : s.next = 2) (hb : s.bits.length ≤ 1000000000) :
    Calls Tryz.prog 79 #[.pointer (some ⟨x, 0, none⟩)] w (Goes B x s d w) := by
  have HS : Hid (∀ t : M, t.next = 2 → InfMath.step t = InfMath.readSize t) := Lib.hid (fun t ht => by unfold InfMath.step; rw [ht]; rfl)
  have HN := Lib.hid hn
  have h2 : w.cell? ⟨x, 2, none⟩ = some (.pointer (some ⟨d.f, 0, none⟩)) := h.out.blk.cell 2
  obtain ⟨bs, hbs⟩ : ∃ bs, bs = s.bits.drop (s.bits.length % 8) := ⟨_, rfl⟩
  have hbl : bs.length = 8 * (s.bits.length / 8) := by rw [hbs, List.length_drop]; omega
  have HBS := Lib.hid hbs
  have HBL := Lib.hid hbl
  -- the machine, lined up
  have HA : Hid (InfMath.Steps s { s with bits := bs }) := Lib.hid (by
    by_cases h8 : s.bits.length % 8 = 0
    · rw [hbs, h8, List.drop_zero]; exact .refl _
    · refine .one ?_
      rw [HS.out s hn]
      unfold InfMath.readSize
      rw [if_pos h8, hbs])
  have HP : Hid (InfMath.step { s with bits := bs } = InfMath.readSize { s with bits := bs } ∧ ¬ (({ s with bits := bs } : M).bits.length % 8 ≠ 0)) := Lib.hid ⟨HS.out _ hn, by simp only; omega⟩
  go_enter Tryz.func79, Tryz.ntmps79
  go_wp2_with fail
  refine (take_at 4 h hb).mono ?_
  rintro e w1 ⟨a, c, l, rfl, ho, hl, d1, H1, M1, hcol⟩
  by_cases hlt : s.bits.length / 8 < 4
  · have e1 : takeCode s.bits 4 = 5 := by unfold takeCode; rw [if_neg (by omega), if_pos (by omega)]
    have e2 : takeBits s.bits 4 = bs := by unfold takeBits; rw [if_neg (by omega), if_pos (by omega), hbs]
    rw [e2] at H1
    rw [e1]
    have HO := Lib.hid (And.intro ho hcol)
    clear hl e1 e2 hbs hbl hcol ho hn h
    go_wp2_with fail
    refine (lack_any H1).mono ?_
    rintro e w' ⟨rfl, rfl⟩
    go_wp2_with fail
    refine ⟨rfl, d1, M1, .inr ⟨_, _, _, rfl, ⟨HA.out, ?_⟩, H1, rfl, rfl, fun _ => rfl⟩⟩
    rw [HP.out.1]
    unfold InfMath.readSize
    rw [if_neg HP.out.2, if_pos (show bs.length < 32 by have := HBL.out; omega)]
  · have e1 : takeCode s.bits 4 = 0 := by unfold takeCode; rw [if_neg (by omega), if_neg (by omega)]
    have e2 : takeBits s.bits 4 = bs.drop 32 := by unfold takeBits; rw [if_neg (by omega), if_neg (by omega), hbs]; rfl
    have e3 : takeBytes s.bits 4 = bs.take 32 := by unfold takeBytes; rw [if_neg (by omega), if_neg (by omega), hbs]; rfl
    rw [e2] at H1
    rw [e3] at hl
    rw [e1]
    have hl4 : l.length = 4 := by have := congrArg List.length hl; rw [bitsOf_len, List.length_take] at this; omega
    obtain ⟨b0, b1, b2, b3, rfl⟩ : ∃ b0 b1 b2 b3, l = [b0, b1, b2, b3] := by
      match l, hl4 with
      | [b0, b1, b2, b3], _ => exact ⟨b0, b1, b2, b3, rfl⟩
    have hby := own_bytes ho rfl
    obtain ⟨g, off, rfl⟩ := hby.some_ (by simp)
    obtain ⟨gg, oo, hgo, -, hcell⟩ := hby.at_.resolve_left (by simp)
    simp only [Option.some.injEq, Addr.mk.injEq, and_true] at hgo
    obtain ⟨rfl, rfl⟩ := hgo
    have c0 : w1.cell? ⟨g, off, none⟩ = some (.int .u8 (b0.toNat : Int)) := hcell 0 (by simp)
    have c1 : w1.cell? ⟨g, off + 1, none⟩ = some (.int .u8 (b1.toNat : Int)) := hcell 1 (by simp)
    have c2 : w1.cell? ⟨g, off + 2, none⟩ = some (.int .u8 (b2.toNat : Int)) := hcell 2 (by simp)
    have c3 : w1.cell? ⟨g, off + 3, none⟩ = some (.int .u8 (b3.toNat : Int)) := hcell 3 (by simp)
    have t0 := b0.toNat_lt
    have t1 := b1.toNat_lt
    have t2 := b2.toNat_lt
    have t3 := b3.toNat_lt
    have n1 : num (bs.take 16) = b0.toNat + 256 * b1.toNat := by
      rw [← num_two, show bs.take 16 = (bs.take 32).take 16 from by rw [List.take_take]; rfl, ← hl]
      rfl
    have n2 : num ((bs.drop 16).take 16) = b2.toNat + 256 * b3.toNat := by
      rw [← num_two, show (bs.drop 16).take 16 = (bs.take 32).drop 16 from by rw [List.drop_take], ← hl]
      rfl
    have HNum := Lib.hid (And.intro n1 n2)
    have o1 := u16_two b0.toNat b1.toNat t0 t1
    have o2 := u16_two b2.toNat b3.toNat t2 t3
    generalize b0.toNat = y0 at *
    generalize b1.toNat = y1 at *
    generalize b2.toNat = y2 at *
    generalize b3.toNat = y3 at *
    have v0 : IntKind.u16.wrap (y0 : Int) = (y0 : Int) := by rw [IntKind.wrap_u16]; omega
    have v1 : IntKind.u16.wrap (y1 : Int) = (y1 : Int) := by rw [IntKind.wrap_u16]; omega
    have v2 : IntKind.u16.wrap (y2 : Int) = (y2 : Int) := by rw [IntKind.wrap_u16]; omega
    have v3 : IntKind.u16.wrap (y3 : Int) = (y3 : Int) := by rw [IntKind.wrap_u16]; omega
    have u1 : IntKind.u16.wrap ((y1 : Int) * 256) = (y1 : Int) * 256 := by rw [IntKind.wrap_u16]; omega
    have u3 : IntKind.u16.wrap ((y3 : Int) * 256) = (y3 : Int) * 256 := by rw [IntKind.wrap_u16]; omega
    obtain ⟨N, hN⟩ : ∃ N, N = y0 + 256 * y1 := ⟨_, rfl⟩
    obtain ⟨I, hI⟩ : ∃ I, I = y2 + 256 * y3 := ⟨_, rfl⟩
    rw [← hN] at o1
    rw [← hI] at o2
    have HNI : Hid (num (bs.take 16) = N ∧ num ((bs.drop 16).take 16) = I) := Lib.hid ⟨HNum.out.1.trans hN.symm, HNum.out.2.trans hI.symm⟩
    have hN6 : N < 65536 := by omega
    have hI6 : I < 65536 := by omega
    have HO := Lib.hid (And.intro ho hcol)
    clear hl hl4 hby hcell e1 e2 e3 n1 n2 hN hI hcol ho hn h hbs hbl HNum t0 t1 t2 t3
    have hx := u16_not N hN6
    have hsg : (if IntKind.u16.signed = true then (-1 : Int) else IntKind.u16.max) = 65535 := by decide
    obtain ⟨J, hJ⟩ : ∃ J, J = 65535 - N := ⟨_, rfl⟩
    rw [← hJ] at hx
    have HJ := Lib.hid hJ
    clear hJ
    by_cases hq : I = J
    · subst hq
      have h8 : w1.cell? ⟨x, 8, none⟩ = some (.int .i64 (s.left : Int)) := H1.out.blk.cell 8
      have f8 := H1.out.blk.frozen 8
      have h6 : w1.cell? ⟨x, 6, none⟩ = some (.int .i64 (s.next : Int)) := H1.out.blk.cell 6
      have f6 := H1.out.blk.frozen 6
      have w8 : IntKind.i64.wrap (N : Int) = (N : Int) := IntWalk.i64_in _ (by omega)
      have H3 : ∀ n, Hid (At B (((w1.drewN n).setCell ⟨x, 8, none⟩ (.int .i64 (N : Int))).setCell ⟨x, 6, none⟩ (.int .i64 3)) x { s with bits := bs.drop 32, left := N, next := 3 } d1 ∧ Mv d.c d1.c w (((w1.drewN n).setCell ⟨x, 8, none⟩ (.int .i64 (N : Int))).setCell ⟨x, 6, none⟩ (.int .i64 3))) := fun n => Lib.hid (by
        have h1 := (H1.out.drewN n).set 8 (.int .i64 (N : Int)) { s with bits := bs.drop 32, left := N } rfl ⟨rfl, rfl, rfl, rfl, rfl, rfl, rfl, rfl, rfl, rfl, rfl⟩
        have m1 := (M1.out.drewN n).trans ((H1.out.drewN n).set_mv 8 (.int .i64 (N : Int)))
        exact ⟨h1.set 6 (.int .i64 3) _ rfl ⟨rfl, rfl, rfl, rfl, rfl, rfl, rfl, rfl, rfl, rfl, rfl⟩, m1.trans (h1.set_mv 6 _)⟩)
      go_wp2_with fail
      go_quiet (fail)
      go_wp2_with fail
      go_end0
      refine ⟨d1, Lib.hid (H3 _).out.2, .inl ⟨rfl, { s with bits := bs.drop 32, left := N, next := 3 }, ?_, (fun h => by simp at h), Lib.hid (H3 _).out.1⟩⟩
      have hst : InfMath.step { s with bits := bs } = .more { s with bits := bs.drop 32, left := N, next := 3 } := by
        rw [HP.out.1]
        unfold InfMath.readSize
        have e1 := HNI.out.1
        have e2 := HNI.out.2
        have e3 := HJ.out
        rw [if_neg HP.out.2, if_neg (show ¬ bs.length < 32 by have := HBL.out; omega), if_neg (by simp only; rw [e1, e2]; omega)]
        simp only
        rw [e1]
      exact steps1_of HA.out hst
    · go_wp2_with fail
      go_quiet (fail)
      go_wp2_with fail
      refine (fail_any 2 _).mono ?_
      rintro e w' ⟨rfl, rfl⟩
      go_wp2_with fail
      refine ⟨rfl, d1, Lib.hid (M1.out.drewN _), .inr ⟨2, { s with bits := bs }, _, rfl, ⟨HA.out, ?_⟩, Lib.hid (H1.out.drewN _), rfl, rfl, fun h => by simp at h⟩⟩
      rw [HP.out.1]
      unfold InfMath.readSize
      have e1 := HNI.out.1
      have e2 := HNI.out.2
      have e3 := HJ.out
      rw [if_neg HP.out.2, if_neg (show ¬ bs.length < 32 by have := HBL.out; omega), if_pos (by simp only; rw [e1, e2]; omega)]

/-- The machine behind k bytes of a stored block. -/
def fed (s : M) (l : List UInt8) (k : Nat) : M := { s with bits := s.bits.drop (8 * k), hist := s.hist ++ l.take k, out := s.out ++ l.take k, total := s.total + k, left := s.left - k }
theorem fed_step (s : M) (l : List UInt8) (m : Nat) (hn : s.next = 3) (hl : bitsOf l = s.bits.take (8 * m)) (hb : 8 * m ≤ s.bits.length) (hm : m ≤ s.left) (hr : s.total + m ≤ s.most) (k : Nat) (hk : k + 1 ≤ m) : InfMath.step (fed s l k) = .more (fed s l (k + 1)) := by
  have hlm : l.length = m := by have := congrArg List.length hl; rw [bitsOf_len, List.length_take] at this; omega
  have hb1 : num ((s.bits.drop (8 * k)).take 8) = (l[k]'(by omega)).toNat := by
    have e1 : (s.bits.drop (8 * k)).take 8 = ((s.bits.take (8 * m)).drop (8 * k)).take 8 := by rw [List.drop_take, List.take_take, Nat.min_eq_left (by omega)]
    rw [e1, ← hl, bitsOf_drop, List.drop_eq_getElem_cons (by omega), bitsOf_cons, take_lows]
  unfold InfMath.step
  rw [show (fed s l k).next = 3 from hn]
  show InfMath.readBytes (fed s l k) = _
  unfold InfMath.readBytes fed
  simp only
  rw [if_neg (show ¬ s.left - k = 0 by omega), if_neg (show ¬ (s.bits.drop (8 * k)).length < 8 by rw [List.length_drop]; omega), if_neg (show ¬ s.most ≤ s.total + k by omega)]
  have e2 : UInt8.ofNat (num ((s.bits.drop (8 * k)).take 8)) = l[k]'(by omega) := by rw [hb1, UInt8.ofNat_toNat]
  have e3 : l.take (k + 1) = l.take k ++ [l[k]'(by omega)] := List.take_succ_eq_append_getElem (by omega)
  unfold InfMath.put
  simp only
  rw [e2, e3, List.drop_drop, ← List.append_assoc, ← List.append_assoc]
  congr 2
theorem fed_steps (s : M) (l : List UInt8) (m : Nat) (hn : s.next = 3) (hl : bitsOf l = s.bits.take (8 * m)) (hb : 8 * m ≤ s.bits.length) (hm : m ≤ s.left) (hr : s.total + m ≤ s.most) : ∀ k, k ≤ m → InfMath.Steps s (fed s l k) := by
  intro k
  induction k with
  | zero =>
    intro _
    have e : fed s l 0 = s := by unfold fed; simp
    rw [e]
    exact .refl _
  | succ k ih =>
    intro hk
    exact (ih (by omega)).snoc (fed_step s l m hn hl hb hm hr k hk)

set_option maxRecDepth 100000 in
set_option maxHeartbeats 4000000 in
theorem bytes_any (h : Hid (At B w x s d)) (hok : Ok s) (hn : s.next = 3) :
    Calls Tryz.prog 80 #[.pointer (some ⟨x, 0, none⟩)] w (Goes B x s d w) := by
  have HS : Hid (InfMath.step s = InfMath.readBytes s) := Lib.hid (by unfold InfMath.step; rw [hn]; rfl)
  have hb : s.bits.length ≤ 1000000000 := by have := hok.bnd; have := hok.psh; omega
  have h8 : w.cell? ⟨x, 8, none⟩ = some (.int .i64 (s.left : Int)) := h.out.blk.cell 8
  by_cases hl0 : s.left = 0
  · rw [hl0] at h8
    go_enter Tryz.func80, Tryz.ntmps80
    go_wp2_with fail
    refine (close_any h).mono ?_
    rintro e w' ⟨rfl, hA, hM⟩
    have HA := Lib.hid (And.intro hA hM)
    clear hA hM
    go_wp2_with fail
    go_end0
    refine Goes.more ?_ (Lib.hid HA.out.1) (Lib.hid HA.out.2) (fun h => absurd h (close_ne s))
    rw [HS.out]; unfold InfMath.readBytes; rw [if_pos hl0]
  · have h2 : w.cell? ⟨x, 2, none⟩ = some (.pointer (some ⟨d.f, 0, none⟩)) := h.out.blk.cell 2
    have hal := hok.al hn
    have hlm := hok.left
    have hlz : ((s.left : Int) == 0) = false := by simp; omega
    have HBits := fun k => bits_any _ _ _ _ _ _ (w.drewN k) (h.out.drewN k).rs.feed.1 (by omega)
    have HB := Lib.hid HBits
    clear HBits
    obtain ⟨n, hnq⟩ : ∃ n, n = min s.left (s.bits.length / 8) := ⟨_, rfl⟩
    have HN := Lib.hid hnq
    have hmin : (if (s.bits.length : Int) / 8 < (s.left : Int) then (s.bits.length : Int) / 8 else (s.left : Int)) = (n : Int) := by
      by_cases hc : (s.bits.length : Int) / 8 < (s.left : Int)
      · rw [if_pos hc]; omega
      · rw [if_neg hc]; omega
    clear hnq
    go_enter Tryz.func80, Tryz.ntmps80
    go_wp2_with fail
    go_quiet ((go_at_call 75; refine Calls.quiet_of (HB.out _)))
    rename_i nq
    by_cases hn0 : n = 0
    · subst hn0
      have HX := h.out.mv_drew nq
      go_wp2_with fail
      refine (lack_any HX.1).mono ?_
      rintro e w' ⟨rfl, rfl⟩
      go_wp2_with fail
      refine ⟨rfl, Goes.halt ?_ HX.1 HX.2 rfl⟩
      rw [HS.out]; unfold InfMath.readBytes; rw [if_neg hl0, if_pos (by have := HN.out; omega)]
    · have hnz : ((n : Int) == 0) = false := by simp; omega
      have HX := h.out.mv_drew nq
      go_wp2_with fail
      refine (room_any 1 HX.1 hok.room hok.most).mono ?_
      rintro e w1 ⟨hr, j, hj⟩
      have H1 : Hid (At B w1 x s d) := Lib.hid (by rw [hj]; exact HX.1.out.drewN j)
      have M1 : Hid (Mv d.c d.c w w1) := Lib.hid (by rw [hj]; exact HX.2.out.drewN j)
      clear hj HX
      rcases hr with ⟨hr, rfl⟩ | ⟨hr, rfl⟩
      · go_wp2_with fail
        refine ⟨rfl, Goes.halt ?_ H1 M1 rfl⟩
        rw [HS.out]; unfold InfMath.readBytes; rw [if_neg hl0, if_neg (by have := HN.out; omega), if_pos (by omega)]
      · have h21 : w1.cell? ⟨x, 2, none⟩ = some (.pointer (some ⟨d.f, 0, none⟩)) := H1.out.blk.cell 2
        have h11 : w1.cell? ⟨x, 1, none⟩ = some (.int .i64 (s.most : Int)) := H1.out.blk.cell 1
        have h51 : w1.cell? ⟨x, 5, none⟩ = some (.int .i64 (s.total : Int)) := H1.out.blk.cell 5
        have hmo := hok.most
        have w5 : IntKind.i64.wrap ((s.most : Int) - (s.total : Int)) = (s.most : Int) - (s.total : Int) := IntWalk.i64_in _ (by omega)
        obtain ⟨m, hmq⟩ : ∃ m, m = min n (s.most - s.total) := ⟨_, rfl⟩
        have hmin2 : (if (s.most : Int) - (s.total : Int) < (n : Int) then (s.most : Int) - (s.total : Int) else (n : Int)) = (m : Int) := by
          by_cases hc : (s.most : Int) - (s.total : Int) < (n : Int)
          · rw [if_pos hc]; omega
          · rw [if_neg hc]; omega
        have HM := Lib.hid hmq
        clear hmq
        go_upto_region 6 with (fail)
        go_cut [3] (fun bv wx => TakenAt B x s d w1 m bv wx)
        case first =>
          have HD1 : Hid (At B w1.drew x s d) := Lib.hid (H1.out.drewN 1)
          go_region_law (go_simp; (go_at_call 89; refine (take_at (m : Int) (by assumption) hb).mono ?_; rintro e w2 ⟨a, c, l, rfl, ho, hl, d2, H2, M2, hcol⟩))
          all_goals
            go_wp2_with fail
            go_meet
            case rel => exact ⟨a, c, l, d2, rfl, ho, hl, H2, M2.out.of_drew, hcol⟩
        case rest =>
          obtain ⟨a, c, l, d2, rfl, ho, hl, H2, m2, hcol⟩ := hcut
          have hmb : 8 * m ≤ s.bits.length ∧ 1 ≤ m ∧ m ≤ s.left ∧ s.total + m ≤ s.most := by have := HM.out; have := HN.out; omega
          have e1 : takeBits s.bits (m : Int) = s.bits.drop (8 * m) := by unfold takeBits; rw [if_neg (by omega), if_neg (by omega), hal, List.drop_zero, Int.toNat_natCast]
          have e2 : takeBytes s.bits (m : Int) = s.bits.take (8 * m) := by unfold takeBytes; rw [if_neg (by omega), if_neg (by omega), hal, List.drop_zero, Int.toNat_natCast]
          rw [e1] at H2
          rw [e2] at hl
          have hlen : l.length = m := by have := congrArg List.length hl; rw [bitsOf_len, List.length_take] at this; omega
          have hby := own_bytes ho rfl
          obtain ⟨g, off, rfl⟩ := hby.some_ (by omega)
          obtain ⟨gg, oo, hgo, hglt, hcell⟩ := hby.at_.resolve_left (by omega)
          simp only [Option.some.injEq, Addr.mk.injEq, and_true] at hgo
          obtain ⟨rfl, rfl⟩ := hgo
          have hg0 : d2.c g = 0 := hcol g rfl
          have HC := Lib.hid (And.intro hglt (And.intro hcell hg0))
          have HL := Lib.hid hl
          have HMB := Lib.hid hmb
          have M2 := Lib.hid m2
          have HLEN := Lib.hid hlen
          have HT := Lib.hid hok.tot
          have HO := Lib.hid hok.outl
          have hroom := hok.room
          rw [hlen]
          clear ho hl m2 hcol hby hcell hg0 hglt e1 e2 hmin hmin2 h21 h11 h51 w5 hlen hal h2 h8
          go_wp2_with fail
          go_loopw [6, 52] (fun _ i wr => ∃ k d', k ≤ m ∧ i = .int .i64 ((k : Nat) : Int) ∧ Hid (At B wr x { s with bits := s.bits.drop (8 * m), hist := s.hist ++ l.take k, out := s.out ++ l.take k, total := s.total + k } d') ∧ Hid (Mv d2.c d'.c wc wr)) (fun _ i _ => m - (intOf i).toNat)
          case atStart => exact ⟨0, d2, Nat.zero_le _, rfl, Lib.hid (by simpa using H2.out), Lib.hid (Mv.refl _ _)⟩
          case round =>
            obtain ⟨k, d3, hk, rfl, H3, M3⟩ := hrel
            by_cases hlt : k < m
            · have hkl : k < l.length := by rw [HLEN.out]; exact hlt
              have hc : wr.cell? ⟨g, off + k, none⟩ = some (.int .u8 (l[k].toNat : Int)) := by
                rw [M3.out.only.cell (p := ⟨g, off + k, none⟩) HC.out.1 (fun e => e HC.out.2.2)]
                exact HC.out.2.1 k hkl
              have HPut := Lib.hid (put_any l[k] H3 (by simp only; have := HMB.out; omega) (by simp only; rw [List.length_append, List.length_take]; have := HMB.out; have := HT.out; omega) (by simp only; rw [List.length_append, List.length_take]; have := HMB.out; have := HO.out; omega))
              have e3 : InfMath.put { s with bits := s.bits.drop (8 * m), hist := s.hist ++ l.take k, out := s.out ++ l.take k, total := s.total + k } l[k] = { s with bits := s.bits.drop (8 * m), hist := s.hist ++ l.take (k + 1), out := s.out ++ l.take (k + 1), total := s.total + (k + 1) } := by
                unfold InfMath.put
                rw [List.take_succ_eq_append_getElem hkl, ← List.append_assoc, ← List.append_assoc]
                rfl
              rw [e3] at HPut
              clear e3
              generalize (l[k]).toNat = y at *
              go_wp2_with fail
              refine HPut.out.mono ?_
              rintro e w4 ⟨rfl, d4, H4, M4⟩
              clear HPut hc H3
              go_wp2_with fail
              go_roundw
              case rel => exact ⟨k + 1, d4, by omega, by go_num, H4, Lib.hid (M3.out.trans M4.out)⟩
              case measure => simp [intOf]; omega
            · obtain rfl : k = m := by omega
              have h8 : wr.cell? ⟨x, 8, none⟩ = some (.int .i64 (s.left : Int)) := H3.out.blk.cell 8
              have f8 := H3.out.blk.frozen 8
              have hle := HMB.out
              have w8 : IntKind.i64.wrap ((s.left : Int) - (k : Int)) = (s.left : Int) - (k : Int) := IntWalk.i64_in _ (by omega)
              have H5 : Hid (At B (wr.setCell ⟨x, 8, none⟩ (.int .i64 ((s.left : Int) - (k : Int)))) x (fed s l k) d3) := Lib.hid (H3.out.set 8 _ _ (by unfold fed cells; rw [show ((s.left - k : Nat) : Int) = (s.left : Int) - (k : Int) from by omega]; rfl) ⟨rfl, rfl, rfl, rfl, rfl, rfl, rfl, rfl, rfl, rfl, rfl⟩)
              have M5 := Lib.hid (M1.out.trans (M2.out.trans (M3.out.trans (H3.out.set_mv 8 (.int .i64 ((s.left : Int) - (k : Int)))))))
              go_wp2_with fail
              go_end0
              have hm1 := HMB.out
              refine ⟨d3, M5, .inl ⟨rfl, _, ?_, (fun h => by have h2 : s.next = 10 := h; omega), H5⟩⟩
              obtain ⟨q, rfl⟩ : ∃ q, k = q + 1 := ⟨k - 1, by omega⟩
              exact steps1_of (fed_steps s l (q + 1) hn HL.out hm1.1 hm1.2.2.1 hm1.2.2.2 q (by omega)) (fed_step s l (q + 1) hn HL.out hm1.1 hm1.2.2.1 hm1.2.2.2 q (by omega))
end
end Go.Proofs.YtdbcendnibgcaaaGreatDoor.InfC
end

section
/-
  A region that draws its order, taken operation by operation in the text's own order: what yields its value in every later world is taken first; what makes memory stands alone. No dump.
-/
namespace Go.My
open Go.RowKit
section
variable {P : Program} {ops : Array Oper} {Q : Exit → Act → World → Prop} {md : Region.Mode} {S : World → Prop}

theorem held_weaken {S' : World → Prop} (h : ∀ w, S' w → S w) : ∀ (fuel : Nat) (listed : Array Bool) (a : Act) (w : World), wpAnyH P md ops Q S' fuel listed a w → wpAnyH P md ops Q S fuel listed a w
  | 0, _, _, _, hh => hh
  | fuel + 1, _, _, _, hh => ⟨hh.1, fun i hi => wpOp_mono (fun a' w' h' => ⟨h _ h'.1, held_weaken h fuel _ a' w' h'.2⟩) (hh.2 i hi)⟩

/-- One operation that yields its value in every world that meets S. -/
theorem ord_take {i : Nat} {o : Oper} {d : Option Tmp} (v : Value) {fuel : Nat} {listed : Array Bool} {a : Act} {w : World} (hi : ops[i]? = some o) (hd : o.dst = d)
    (hs : Region.noSelect ops = true) (hf : Region.free md ops listed i = true) (hr : (Region.ready md ops listed).contains i = true)
    (hQ : ∀ c a w, Q (.panic c) (a.put d v) w → Q (.panic c) a w) (hw : Region.wanted o (yielded ops a.tmps) = true) (hy : ∀ w, S w → (execOp a.eval o).run P w = .ok (.value v) w) (hS : S w)
    (h : wpAnyH P md ops Q S fuel (listed.setIfInBounds i true) (a.put d v) w) : wpAnyH P md ops Q S (fuel + 1) listed a w := by
  subst hd
  exact wpAnyH_take hi hs hf hr hQ (.inl ⟨hw, hy⟩) hS h
/-- The one operation that may come up. -/
theorem ord_alone {i : Nat} {o : Oper} {fuel : Nat} {listed : Array Bool} {a : Act} {w : World} (hi : ops[i]? = some o) (hr : Region.ready md ops listed = [i])
    (hw : Region.wanted o (yielded ops a.tmps) = true)
    (h : o.wp P a w (fun a' w' => S w' ∧ wpAnyH P md ops Q S fuel (listed.setIfInBounds i true) a' w') Q) : wpAnyH P md ops Q S (fuel + 1) listed a w := by
  refine wpAnyH_all hr (by simp) fun j hj => ?_
  obtain rfl : j = i := by simpa using hj
  unfold wpOp
  simp only [hi, hw, if_true]
  exact .inl h
theorem wp_enter {o : Oper} {a : Act} {w : World} {K : Act → World → Prop} {d : Option Tmp} {f : FuncId} {args : Array Value} {R : Ending → World → Prop} (hd : o.dst = d)
    (hr : (execOp a.eval o).run P w = .ok (.enter f args) w) (hc : Calls P f args w R) (h : ∀ e w', R e w' → ∃ v, e = .returned v ∧ K (a.put d v) w') : o.wp P a w K Q := by
  subst hd
  unfold Oper.wp
  rw [hr]
  simp only [Oper.upon]
  exact hc.mono fun e w' hR => by obtain ⟨v, rfl, hK⟩ := h e w' hR; exact hK
theorem wp_value {o : Oper} {a : Act} {w w' : World} {K : Act → World → Prop} {d : Option Tmp} {v : Value} (hd : o.dst = d)
    (hr : (execOp a.eval o).run P w = .ok (.value v) w') (h : K (a.put d v) w') : o.wp P a w K Q := by
  subst hd
  unfold Oper.wp
  rw [hr]
  exact h
theorem wp_append_d {w : World} {o : Oper} {a : Act} {K : Act → World → Prop} {d : Option Tmp} (hd : o.dst = d) (s x : Operand) (t : TypeId)
    (ho : o.op = .call { callee := .builtin .append, args := #[s, x], argTypes := #[t, t] }) (base : Nat) (E : TypeId) (ht : P.underlying t = some (.slice E))
    (hi : (P.info? E).map (fun i => (i.zero, i.size, i.bytes)) = some (some (.int .u8 0), 1, 1))
    (v : Value) (l : List UInt8) (hs : a.eval s = v) (hown : Own E base w v l) (ad : Option Addr) (m c : Nat) (l2 : List UInt8) (hx : a.eval x = .slice ad m c) (hb : Bytes w ad m c l2)
    (hlen : l.length + m ≤ 140737488355328) (hbase : base ≤ w.heap.size)
    (h : ∀ v' w', Own E base w' v' (l ++ l2) → w.grownBy w' v.ownBlock → K (a.put d v') w') : o.wp P a w K Q := by
  subst hd
  exact wp_append_bytes s x t ho base E ht hi v l hs hown ad m c l2 hx hb hlen hbase h
end
end Go.My
end
