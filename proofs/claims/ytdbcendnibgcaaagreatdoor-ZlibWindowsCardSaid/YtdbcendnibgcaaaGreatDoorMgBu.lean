import Derived.Test.YtdbcendnibgcaaaGreatDoorMgBt
import Derived.Deep.DeepCutAuto
import Derived.Deep.CutBlock
import Derived.Test.YtdbcendnibgcaaaGreatDoorMgBs
import Derived.Test.YtdbcendnibgcaaaGreatDoorMgAx
import Derived.Test.YtdbcendnibgcaaaGreatDoorMgBa
import Derived.Test.YtdbcendnibgcaaaGreatDoorMgBd

section
/-
  The document's Codes as rows of codes; the fixed ones.
-/
namespace Go.Proofs.YtdbcendnibgcaaaGreatDoor.RfC
open Go.RowKit Go.My BitMath CanMath TabMath CanC

theorem infoI : (Tryz.prog.info? 3).map (fun i => (i.zero, i.size, i.bytes)) = some (some (.int .i64 0), 1, 8) := by kernel_rfl
theorem own_blk {E : TypeId} {B : Nat} {w : World} {g n : Nat} {vs : List Value} (h : OwnV E B w (.slice (some ⟨g, 0, none⟩) n n) vs) (hn : vs.length = n) : Blk w g E vs.toArray := by
  subst hn
  rcases h.2 with ⟨h1, _⟩ | ⟨g', cap, cur, h1, h2, h3, h4, h5, h6, h7⟩
  · cases h1
  · simp only [Value.slice.injEq, Option.some.injEq, Addr.mk.injEq, and_true, true_and] at h1
    obtain ⟨rfl, rfl⟩ := h1
    have e : cur = vs.toArray := by
      apply Array.ext'
      rw [List.take_of_length_le (by simp [h6])] at h7
      rw [h7]
    rw [← e]
    exact h3
theorem zs_append (a b : List Nat) : zs (a ++ b) = zs a ++ zs b := by unfold zs; rw [List.map_append]
theorem zs_len (ls : List Nat) : (zs ls).length = ls.length := by unfold zs; rw [List.length_map]
theorem nat_kr {ls : List Nat} (h : InfMath.CodeOk ls) : kr (CanC.nat (zs ls)) ≤ 32768 := by rw [nat_zs]; exact h.kr
/-- Codes of lengths that may be. -/
theorem codes_row {w : World} {a : Option Addr} {len cap : Nat} {ls : List Nat} (h : RowIn w a len cap ((zs ls).map iv)) (ok : InfMath.CodeOk ls) :
    Calls Tryz.prog 62 #[.slice a len cap] w fun e w' => ∃ g, e = .returned (.tuple #[.slice (some ⟨g, 0, none⟩) ls.length ls.length, .int .i64 0]) ∧ Hid (Blk w' g 9 (texts ls).toArray) ∧ Below w.heap.size w w' :=
  (refcodes_ok h (good_zs ok) (nat_kr ok)).mono fun e w' ⟨g, he, _, ho, hb⟩ => by
    rw [zs_len] at he ho
    rw [nat_zs] at ho
    exact ⟨g, he, Lib.hid (own_blk ho (texts_len ls)), hb⟩
def fixN (k : Nat) : Nat := if k < 144 then 8 else if k < 256 then 9 else if k < 280 then 7 else 8
theorem fixL_len : InfMath.fixL.length = 288 := by decide +kernel
theorem fixL_at : ∀ k : Fin 288, InfMath.fixL.getD k.val 0 = fixN k.val := by decide +kernel
theorem fixL_take (k : Nat) (h : k < 288) : InfMath.fixL.take (k + 1) = InfMath.fixL.take k ++ [fixN k] := by
  have hl : k < InfMath.fixL.length := by rw [fixL_len]; exact h
  have := fixL_at ⟨k, h⟩
  simp only at this
  rw [List.getD_eq_getElem?_getD, List.getElem?_eq_getElem hl] at this
  rw [List.take_succ_eq_append_getElem hl, ← this]
  rfl
theorem fixD_take (k : Nat) (h : k < 32) : InfMath.fixD.take (k + 1) = InfMath.fixD.take k ++ [5] := by
  unfold InfMath.fixD
  rw [List.take_replicate, List.take_replicate, Nat.min_eq_left (by omega), Nat.min_eq_left (by omega), List.replicate_succ']
/-- One number more behind a row of numbers. -/
theorem lit_int (w : World) (v : Nat) : RowIn (w.alloc (.cells #[.int .i64 (v : Int)] 3)) (some ⟨w.heap.size, 0, none⟩) 1 1 ((zs [v]).map iv) := by
  refine ⟨rfl, Nat.le_refl _, by omega, (fun e => by cases e), .inr ⟨w.heap.size, 0, rfl, by simp, fun i hi => ?_⟩⟩
  obtain rfl : i = 0 := by simp [zs] at hi; omega
  rw [(Blk.new w 3 #[.int .i64 (v : Int)]).cell]
  rfl
theorem one_int (v : Nat) : ∀ u ∈ (zs [v]).map iv, u.oneCell' = true := by
  intro u hu
  simp [zs] at hu
  subst hu
  rfl

set_option maxRecDepth 100000 in
set_option maxHeartbeats 8000000 in
theorem fixed_any (w : World) : Calls Tryz.prog 42 #[] w fun e w' => ∃ g1 g2, e = .returned (.tuple #[.slice (some ⟨g1, 0, none⟩) 288 288, .slice (some ⟨g2, 0, none⟩) 32 32]) ∧ Hid (Blk w' g1 9 (texts InfMath.fixL).toArray) ∧ Hid (Blk w' g2 9 (texts InfMath.fixD).toArray) ∧ Below w.heap.size w w' := by
  go_enter Tryz.func42, Tryz.ntmps42
  go_wp2_with fail
  go_loopw [2, 4] (fun lv iv' wr => ∃ k : Nat, k ≤ 288 ∧ iv' = .int .i64 (k : Int) ∧ Hid (OwnV 3 w.heap.size wr lv ((zs (InfMath.fixL.take k)).map iv)) ∧ Hid (Below w.heap.size w wr)) (fun _ iv' _ => 288 - (intOf iv').toNat)
  case atStart => exact ⟨0, by omega, rfl, Lib.hid (OwnV.nil _ _ _), Lib.hid (Below.refl _ _)⟩
  case round =>
    obtain ⟨k, hk, rfl, HO, HB⟩ := hrel
    by_cases hlt : k < 288
    · have HTK := Lib.hid (fixL_take k hlt)
      obtain ⟨n, hn⟩ : ∃ n, n = fixN k := ⟨_, rfl⟩
      rw [← hn] at HTK
      have HOA := Lib.hid (HO.out.below (Nat.le_refl _) ((Below.refl _ wr).alloc (Nat.le_refl _) (.cells #[.int .i64 (n : Int)] 3)))
      have HBA := Lib.hid (HB.out.alloc HB.out.size (.cells #[.int .i64 (n : Int)] 3))
      have HRI := Lib.hid (lit_int wr n)
      have HL : Hid (((zs (InfMath.fixL.take k)).map iv).length = k) := Lib.hid (by rw [List.length_map, zs_len, List.length_take, fixL_len]; omega)
      have hways : (k < 144 ∧ n = 8) ∨ (144 ≤ k ∧ k < 256 ∧ n = 9) ∨ (256 ≤ k ∧ k < 280 ∧ n = 7) ∨ (280 ≤ k ∧ n = 8) := by
        rw [hn]; unfold fixN
        by_cases h1 : k < 144
        · rw [if_pos h1]; omega
        · by_cases h2 : k < 256
          · rw [if_neg h1, if_pos h2]; omega
          · by_cases h3 : k < 280
            · rw [if_neg h1, if_neg h2, if_pos h3]; omega
            · rw [if_neg h1, if_neg h2, if_neg h3]; omega
      clear hn HO HB
      rcases hways with ⟨h1, rfl⟩ | ⟨h1, h2, rfl⟩ | ⟨h1, h2, rfl⟩ | ⟨h1, rfl⟩
      all_goals
        go_wp2_with (at_builtin; refine wpList_append_row (by rfl) (.tmp 27) (.tmp 29) 92 rfl w.heap.size 3 (.int .i64 0) 8 Tryz.underlying92 infoI rfl _ _ (by rfl) HOA.out (some ⟨wr.heap.size, 0, none⟩) 1 1 _ (by rfl) HRI.out (one_int _) (by rw [HL.out]; omega) (by rw [HL.out]; omega) HBA.out.size ?_)
        intro a2 c2 w2 hown hg _
        rw [show (zs (InfMath.fixL.take k)).length = k from by have := HL.out; rwa [List.length_map] at this] at hown ⊢
        have HO2 : Hid (OwnV 3 w.heap.size w2 (.slice a2 (k + 1) c2) ((zs (InfMath.fixL.take (k + 1))).map iv)) := Lib.hid (by rw [HTK.out, zs_append, List.map_append]; exact hown)
        have HB2 := Lib.hid (HOA.out.grown HBA.out hg HBA.out.size)
        clear hown hg HOA HBA HRI HTK HL
        go_wp2_with fail
        go_roundw
        case rel => exact ⟨k + 1, by omega, by go_num, HO2, HB2⟩
        case measure => simp [intOf]; omega
    · rw [List.take_of_length_le (by rw [fixL_len]; omega)] at HO
      have hkI : ¬ (k : Int) < 288 := by omega
      clear hk hlt
      obtain ⟨a1, c1, hv, hr⟩ := HO.out.row
      rw [List.length_map, zs_len, fixL_len] at hv hr
      subst hv
      have HR1 := Lib.hid hr
      clear HO hr
      go_wp2_with fail
      clear hkI
      obtain ⟨W2, hW2⟩ : ∃ W2, W2 = wr := ⟨_, rfl⟩
      rw [← hW2] at HR1 HB
      have HW2 := Lib.hid hW2
      clear hW2
      go_loopw [3, 6] (fun lv iv' wx => ∃ k : Nat, k ≤ 32 ∧ iv' = .int .i64 (k : Int) ∧ Hid (OwnV 3 W2.heap.size wx lv ((zs (InfMath.fixD.take k)).map iv)) ∧ Hid (Below W2.heap.size W2 wx)) (fun _ iv' _ => 32 - (intOf iv').toNat)
      case atStart => exact ⟨0, by omega, rfl, Lib.hid (OwnV.nil _ _ _), Lib.hid (by rw [HW2.out]; exact Below.refl _ _)⟩
      case round =>
        clear HW2
        obtain ⟨k, hk, rfl, HO, HB2⟩ := hrel
        by_cases hlt : k < 32
        · have HTK := Lib.hid (fixD_take k hlt)
          have HOA := Lib.hid (HO.out.below (Nat.le_refl _) ((Below.refl _ wr).alloc (Nat.le_refl _) (.cells #[.int .i64 ((5 : Nat) : Int)] 3)))
          have HBA := Lib.hid (HB2.out.alloc HB2.out.size (.cells #[.int .i64 ((5 : Nat) : Int)] 3))
          have HRI := Lib.hid (lit_int wr 5)
          have hL : (zs (InfMath.fixD.take k)).length = k := by rw [zs_len, List.length_take, show InfMath.fixD.length = 32 from by decide +kernel]; omega
          have HL := Lib.hid hL
          clear hL HO HB2
          go_wp2_with (at_builtin; refine wpList_append_row (by rfl) (.tmp 35) (.tmp 36) 92 rfl W2.heap.size 3 (.int .i64 0) 8 Tryz.underlying92 infoI rfl _ _ (by rfl) HOA.out (some ⟨wr.heap.size, 0, none⟩) 1 1 _ (by rfl) HRI.out (one_int _) (by rw [List.length_map, HL.out]; omega) (by rw [List.length_map, HL.out]; omega) HBA.out.size ?_)
          intro a2 c2 w2 hown hg _
          rw [HL.out] at hown ⊢
          have HO2 : Hid (OwnV 3 W2.heap.size w2 (.slice a2 (k + 1) c2) ((zs (InfMath.fixD.take (k + 1))).map iv)) := Lib.hid (by rw [HTK.out, zs_append, List.map_append]; exact hown)
          have HB3 := Lib.hid (HOA.out.grown HBA.out hg HBA.out.size)
          clear hown hg HOA HBA HRI HTK HL
          go_wp2_with fail
          go_roundw
          case rel => exact ⟨k + 1, by omega, by go_num, HO2, HB3⟩
          case measure => simp [intOf]; omega
        · obtain rfl : k = 32 := by omega
          rw [List.take_of_length_le (by rw [show InfMath.fixD.length = 32 from by decide +kernel]; omega)] at HO
          clear hk hlt
          obtain ⟨a2, c2, hv, hr⟩ := HO.out.row
          rw [List.length_map, zs_len, show InfMath.fixD.length = 32 from by decide +kernel] at hv hr
          subst hv
          have HR2 := Lib.hid hr
          have HC1 := Lib.hid (codes_row (HR1.out.below (Nat.le_refl _) HB2.out) InfMath.fixL_ok)
          have HB4 := Lib.hid (HB.out.trans (HB2.out.mono HB.out.size))
          clear HO hr
          go_wp2_with fail
          refine HC1.out.mono ?_
          rw [fixL_len]
          rintro e w3 ⟨g1, rfl, HK1, hb3⟩
          have HC2 := Lib.hid (codes_row (HR2.out.below (Nat.le_refl _) hb3) InfMath.fixD_ok)
          have HB5 := Lib.hid (HB4.out.trans (hb3.mono HB4.out.size))
          clear hb3
          go_wp2_with fail
          refine HC2.out.mono ?_
          rw [show InfMath.fixD.length = 32 from by decide +kernel]
          rintro e w4 ⟨g2, rfl, HK2, hb4⟩
          have HK3 := Lib.hid (HK1.out.same (hb4.block g1 HK1.out.lt))
          have HB6 := Lib.hid (HB5.out.trans (hb4.mono HB5.out.size))
          clear hb4
          go_wp2_with fail
          go_ret2
          exact ⟨g1, g2, rfl, HK3, HK2, HB6.out⟩
end Go.Proofs.YtdbcendnibgcaaaGreatDoor.RfC
end

section
/-
  The document's X beside rows of ints of the call's own.
-/
namespace Go.Proofs.YtdbcendnibgcaaaGreatDoor.RfC
open Go.RowKit Go.My BitMath CanMath TabMath CanC RefC

section
variable {w0 w w' : World} {g : Nat} {a : Option Addr} {len cap : Nat} {l : List UInt8} {p : Nat} {ov : Value} {out : List UInt8} {wide : Bool} {S most code : Nat} {R A : List (Nat × TypeId × Array Value)}
theorem XAt.less (h : XAt w0 w g a len cap l p ov out wide S most code R) (hA : ∀ x ∈ A, x ∈ R) : XAt w0 w g a len cap l p ov out wide S most code A :=
  ⟨h.blk, h.own, h.base, h.byt, h.below, h.lt, h.short, fun x hx => h.rows x (hA x hx)⟩
theorem XAt.more (h : XAt w0 w g a len cap l p ov out wide S most code R) (hA : ∀ x ∈ A, Blk w x.1 x.2.1 x.2.2 ∧ x.2.1 ≠ 76 ∧ x.2.1 ≠ 5) : XAt w0 w g a len cap l p ov out wide S most code (A ++ R) :=
  ⟨h.blk, h.own, h.base, h.byt, h.below, h.lt, h.short, fun x hx => (List.mem_append.1 hx).elim (hA x) (h.rows x)⟩
/-- What an own row is: blocks that stand. -/
theorem own_rows {E : TypeId} {B : Nat} {v : Value} {vs : List Value} (h : OwnV E B w v vs) : ∃ A : List (Nat × TypeId × Array Value), (∀ x ∈ A, Blk w x.1 x.2.1 x.2.2 ∧ x.2.1 = E) ∧ ∀ w', (∀ x ∈ A, Blk w' x.1 x.2.1 x.2.2) → OwnV E B w' v vs := by
  rcases h.2 with hn | ⟨k, c, cur, h1, h2, h3, h4⟩
  · exact ⟨[], by simp, fun w' _ => ⟨h.1, .inl hn⟩⟩
  · refine ⟨[(k, E, cur)], ?_, fun w' hb => ⟨h.1, .inr ⟨k, c, cur, h1, h2, hb (k, E, cur) (by simp), h4⟩⟩⟩
    intro x hx
    obtain rfl : x = (k, E, cur) := by simpa using hx
    exact ⟨h3, rfl⟩
/-- get beside a row of ints of the call's own. -/
theorem get_own (n : Nat) (hn : n ≤ 16) (h : Hid (XAt w0 w g a len cap l p ov out wide S most code R)) {B : Nat} {v : Value} {vs : List Value} (ho : OwnV 3 B w v vs) :
    Calls Tryz.prog 43 #[.pointer (some ⟨g, 0, none⟩), .int .i64 (n : Int)] w fun e w' => Got w0 g a len cap l p ov out wide S most code n R e w' ∧ Hid (OwnV 3 B w' v vs) := by
  obtain ⟨A, hA, hown⟩ := own_rows ho
  have hx := h.out.more (A := A) (fun x hx => ⟨(hA x hx).1, by rw [(hA x hx).2]; decide, by rw [(hA x hx).2]; decide⟩)
  refine (get_any n hn (Lib.hid hx)).mono fun e w' hg => ?_
  have key : ∀ q, Hid (XAt w0 w' g a len cap l q ov out wide S most code (A ++ R)) → Hid (XAt w0 w' g a len cap l q ov out wide S most code R) ∧ Hid (OwnV 3 B w' v vs) := fun q hq =>
    ⟨Lib.hid (hq.out.less fun x hx => List.mem_append_right _ hx), Lib.hid (hown w' fun x hx => (hq.out.rows x (List.mem_append_left _ hx)).1)⟩
  rcases hg with ⟨h1, h2, h3⟩ | ⟨h1, h2, h3⟩
  · exact ⟨.inl ⟨h1, h2, (key _ h3).1⟩, (key _ h3).2⟩
  · exact ⟨.inr ⟨h1, h2, (key _ h3).1⟩, (key _ h3).2⟩
theorem ownV_ne {E : TypeId} {B : Nat} {v : Value} {vs : List Value} {k : Nat} {t : TypeId} {cs : Array Value} (ho : OwnV E B w v vs) (hb : Blk w k t cs) (ht : t ≠ E) : v.ownBlock ≠ some k := by
  rcases ho.2 with ⟨rfl, _⟩ | ⟨g', cap, cur, rfl, _, hgg, _⟩
  · simp [Value.ownBlock]
  · intro h
    simp only [Value.ownBlock, Option.some.injEq] at h
    subst h
    unfold Blk at hb
    rw [hgg] at hb
    injection hb with hb
    injection hb with _ hb
    exact ht hb.symm
/-- An append to a row of ints leaves X as it is. -/
theorem XAt.grown (h : XAt w0 w g a len cap l p ov out wide S most code R) {B : Nat} {v : Value} {vs : List Value} (ho : OwnV 3 B w v vs) (hB : w0.heap.size ≤ B) (hR : ∀ x ∈ R, x.2.1 ≠ 3) {o : Obj} (hg : (w.alloc o).grownBy w' v.ownBlock) : XAt w0 w' g a len cap l p ov out wide S most code R := by
  have hO : Only (fun k => v.ownBlock = some k) w w' := ((Only.refl _ w).alloc o).grown hg (fun k _ hk => hk)
  have hne := ownV_ne ho h.blk (by decide)
  refine ⟨hO.blk h.blk hne, hO.own h.own (fun k hk e => ?_), h.base, h.byt, h.below.trans (hO.below h.below.size (fun k hk => Nat.le_trans hB (ho.base k hk))), h.lt, h.short, fun x hx => ⟨hO.blk (h.rows x hx).1 (ownV_ne ho (h.rows x hx).1 (hR x hx)), (h.rows x hx).2⟩⟩
  rcases ho.2 with ⟨rfl, _⟩ | ⟨g', cap', cur, rfl, _, hgg, _⟩
  · cases e
  · simp only [Value.ownBlock, Option.some.injEq] at e
    subst e
    exact own_len_ne h.own (show Blk w g' 3 cur from hgg) (by decide) hk
/-- A cell of x turned: a row of ints stays. -/
theorem ownV_put {B : Nat} {v : Value} {vs : List Value} (h : XAt w0 w g a len cap l p ov out wide S most code R) (ho : OwnV 3 B w v vs) (i : Nat) (u : Value) : OwnV 3 B (w.setCell ⟨g, i, none⟩ u) v vs :=
  ho.only ((Only.refl (fun k => k = g) w).setCell (p := ⟨g, i, none⟩) (fun _ => rfl) u) (fun k hk e => ownV_ne ho h.blk (by decide) (by rw [hk, e]))
/-- The document's Kind. -/
theorem kind_row {ls : List Nat} {ar : Option Addr} {n c : Nat} (h : RowIn w ar n c ((zs ls).map iv)) (hall : ∀ x ∈ ls, x ≤ 15) (hl : ls.length ≤ 65536) :
    Calls Tryz.prog 66 #[.slice ar n c] w fun e w' => e = .returned (.int .i64 ((InfMath.kd ls : Nat) : Int)) ∧ w = w' := by
  have hg : CanC.Good (zs ls) := by
    refine ⟨by rw [zs_len]; exact hl, fun x hx => ?_⟩
    unfold zs at hx
    obtain ⟨n, hn, rfl⟩ := List.mem_map.1 hx
    have := hall n hn
    omega
  have := refkind_good h hg
  rw [nat_zs, InfC.kind_kd] at this
  exact this
end
end Go.Proofs.YtdbcendnibgcaaaGreatDoor.RfC
end

section
/-
  inflate's machine, token by token, over the bits of bytes that are all there. No program, no dump.
-/
namespace InfMath
open BitMath CanMath TabMath WinMath

/-- The machine stands at bit p of l, these bytes came out. -/
structure Bd (l : List UInt8) (p : Nat) (out : List UInt8) (wide : Bool) (S most : Nat) (s : M) : Prop where
  eb : s.bits = (bitsOf l).drop p
  eh : s.hist = out
  eo : s.out = out
  et : s.total = out.length
  ew : s.wide = wide
  es : s.size = S
  em : s.most = most
  ep : s.pushed = l.length
/-- It comes to an end that is an error. -/
def Bad (s : M) : Prop := ∃ t c, Ends s t c ∧ c ≠ 0
theorem Bad.now {s : M} {c : Nat} (h : step s = .halt c) (hc : c ≠ 0) : Bad s := ⟨s, c, ⟨.refl s, h⟩, hc⟩
theorem Bad.of {s t : M} (h : Steps s t) (k : Bad t) : Bad s := by
  obtain ⟨u, c, hu, hc⟩ := k
  exact ⟨u, c, .of h hu, hc⟩
structure St9 (l : List UInt8) (p : Nat) (out : List UInt8) (wide : Bool) (S most : Nat) (ls ds : List Nat) (fin : Bool) (s : M) : Prop where
  bd : Bd l p out wide S most s
  next : s.next = 9
  lit : s.lit = some ls
  dist : s.dist = some ds
  final : s.final = fin
structure St10 (l : List UInt8) (p : Nat) (out : List UInt8) (wide : Bool) (S most : Nat) (ls ds : List Nat) (fin : Bool) (m : Nat) (s : M) : Prop where
  bd : Bd l p out wide S most s
  next : s.next = 10
  lit : s.lit = some ls
  dist : s.dist = some ds
  final : s.final = fin
  mat : s.matching = m
/-- Behind a block. -/
structure St1 (l : List UInt8) (p : Nat) (out : List UInt8) (wide : Bool) (S most : Nat) (fin : Bool) (s : M) : Prop where
  bd : Bd l p out wide S most s
  next : s.next = if fin then 11 else 1
  final : s.final = fin

section
variable {l : List UInt8} {p : Nat} {out : List UInt8} {wide : Bool} {S most : Nat} {ls ds : List Nat} {fin : Bool} {s : M} {m : Nat}
theorem St9.step_ (h : St9 l p out wide S most ls ds fin s) : step s = readLiteral s := by unfold step; rw [h.next]; rfl
theorem St10.step_ (h : St10 l p out wide S most ls ds fin m s) : step s = readDistance s := by unfold step; rw [h.next]; rfl
theorem tk_err (h : St9 l p out wide S most ls ds fin s) (he : (sym ls ((bitsOf l).drop p)).2.2 ≠ 0) : Bad s := by
  refine .now (c := bad s (sym ls ((bitsOf l).drop p)).2.2) ?_ (bad_ne _ _ he)
  rw [h.step_]
  unfold readLiteral
  rw [h.lit, h.bd.eb]
  simp only [Option.getD_some]
  rw [if_pos he]
theorem tk_lit_ (h : St9 l p out wide S most ls ds fin s) (he : (sym ls ((bitsOf l).drop p)).2.2 = 0) : step s = readLit s (sym ls ((bitsOf l).drop p)).1 (sym ls ((bitsOf l).drop p)).2.1 := by
  rw [h.step_]
  unfold readLiteral
  rw [h.lit, h.bd.eb]
  simp only [Option.getD_some]
  rw [if_neg (by rw [he]; decide)]
variable {v n : Nat}
theorem tk_full (h : St9 l p out wide S most ls ds fin s) (he : sym ls ((bitsOf l).drop p) = (v, n, 0)) (hv : v < 256) (hm : most ≤ out.length) : Bad s := by
  have h1 := tk_lit_ h (by rw [he])
  rw [he] at h1
  refine .now (c := 3) ?_ (by decide)
  rw [h1]
  simp only
  unfold readLit
  rw [if_pos hv, if_pos (by rw [h.bd.em, h.bd.et]; exact hm)]
theorem tk_lit (h : St9 l p out wide S most ls ds fin s) (he : sym ls ((bitsOf l).drop p) = (v, n, 0)) (hv : v < 256) (hm : ¬ most ≤ out.length) : ∃ s', Steps s s' ∧ St9 l (p + n) (out ++ [UInt8.ofNat v]) wide S most ls ds fin s' := by
  have h1 := tk_lit_ h (by rw [he])
  rw [he] at h1
  simp only at h1
  unfold readLit at h1
  rw [if_pos hv, if_neg (by rw [h.bd.em, h.bd.et]; exact hm)] at h1
  refine ⟨_, .one h1, ⟨?_, h.next, h.lit, h.dist, h.final⟩⟩
  obtain ⟨b1, b2, b3, b4, b5, b6, b7, b8⟩ := h.bd
  exact ⟨by show s.bits.drop n = _; rw [b1, List.drop_drop], by show s.hist ++ _ = _; rw [b2], by show s.out ++ _ = _; rw [b3], by show s.total + 1 = _; rw [b4]; simp, (by first | exact b5 | rfl), b6, b7, b8⟩
theorem tk_end (h : St9 l p out wide S most ls ds fin s) (he : sym ls ((bitsOf l).drop p) = (256, n, 0)) : ∃ s', Steps s s' ∧ St1 l (p + n) out wide S most fin s' := by
  have h1 := tk_lit_ h (by rw [he])
  rw [he] at h1
  simp only at h1
  unfold readLit at h1
  rw [if_neg (by omega), if_pos rfl] at h1
  refine ⟨_, .one h1, ⟨?_, by simp only [close, h.final], h.final⟩⟩
  obtain ⟨b1, b2, b3, b4, b5, b6, b7, b8⟩ := h.bd
  exact ⟨by simp only [close]; rw [b1, List.drop_drop], b2, b3, b4, (by first | exact b5 | rfl), b6, b7, b8⟩
theorem tk_nobase (h : St9 l p out wide S most ls ds fin s) (he : sym ls ((bitsOf l).drop p) = (v, n, 0)) (hv : 256 < v) (hb : base v wide = none) : Bad s := by
  have h1 := tk_lit_ h (by rw [he])
  rw [he] at h1
  simp only at h1
  unfold readLit at h1
  rw [if_neg (by omega), if_neg (by omega), h.bd.ew, hb] at h1
  exact .now h1 (by decide)
variable {b x : Nat}
theorem tk_short (h : St9 l p out wide S most ls ds fin s) (he : sym ls ((bitsOf l).drop p) = (v, n, 0)) (hv : 256 < v) (hb : base v wide = some (b, x)) (hl : 8 * l.length - p < n + x) : Bad s := by
  have h1 := tk_lit_ h (by rw [he])
  rw [he] at h1
  simp only at h1
  unfold readLit at h1
  rw [if_neg (by omega), if_neg (by omega), h.bd.ew, hb] at h1
  simp only at h1
  rw [if_pos (by rw [h.bd.eb, List.length_drop, bitsOf_len]; exact hl)] at h1
  exact .now h1 (lack_ne _)
theorem tk_match (h : St9 l p out wide S most ls ds fin s) (he : sym ls ((bitsOf l).drop p) = (v, n, 0)) (hv : 256 < v) (hb : base v wide = some (b, x)) (hl : ¬ 8 * l.length - p < n + x) : ∃ s', Steps s s' ∧ St10 l (p + n + x) out wide S most ls ds fin (b + num (((bitsOf l).drop (p + n)).take x)) s' := by
  have h1 := tk_lit_ h (by rw [he])
  rw [he] at h1
  simp only at h1
  unfold readLit at h1
  rw [if_neg (by omega), if_neg (by omega), h.bd.ew, hb] at h1
  simp only at h1
  rw [if_neg (by rw [h.bd.eb, List.length_drop, bitsOf_len]; exact hl)] at h1
  refine ⟨_, .one h1, ⟨?_, rfl, h.lit, h.dist, h.final, ?_⟩⟩
  · obtain ⟨b1, b2, b3, b4, b5, b6, b7, b8⟩ := h.bd
    exact ⟨by simp only; rw [b1, List.drop_drop, Nat.add_assoc], b2, b3, b4, (by first | exact b5 | rfl), b6, b7, b8⟩
  · simp only; rw [h.bd.eb, List.drop_drop]
theorem td_ (h : St10 l p out wide S most ls ds fin m s) : step s = if most < out.length + m then .halt 3 else if (sym ds ((bitsOf l).drop p)).2.2 ≠ 0 then .halt (bad s (sym ds ((bitsOf l).drop p)).2.2) else readDist s (sym ds ((bitsOf l).drop p)).1 (sym ds ((bitsOf l).drop p)).2.1 := by
  rw [h.step_]
  unfold readDistance
  rw [h.bd.em, h.bd.et, h.mat, h.dist, h.bd.eb]
  simp only [Option.getD_some]
theorem td_over (h : St10 l p out wide S most ls ds fin m s) (hm : most < out.length + m) : Bad s := by
  have h1 := td_ h
  rw [if_pos hm] at h1
  exact .now h1 (by decide)
theorem td_err (h : St10 l p out wide S most ls ds fin m s) (he : (sym ds ((bitsOf l).drop p)).2.2 ≠ 0) : Bad s := by
  by_cases hm : most < out.length + m
  · exact td_over h hm
  · have h1 := td_ h
    rw [if_neg hm, if_pos he] at h1
    exact .now h1 (bad_ne _ _ he)
theorem td_dist (h : St10 l p out wide S most ls ds fin m s) (he : sym ds ((bitsOf l).drop p) = (v, n, 0)) (hm : ¬ most < out.length + m) : step s = readDist s v n := by
  have h1 := td_ h
  rw [if_neg hm, he] at h1
  simpa using h1
theorem td_nofar (h : St10 l p out wide S most ls ds fin m s) (he : sym ds ((bitsOf l).drop p) = (v, n, 0)) (hb : far v wide = none) : Bad s := by
  by_cases hm : most < out.length + m
  · exact td_over h hm
  · have h1 := td_dist h he hm
    unfold readDist at h1
    rw [h.bd.ew, hb] at h1
    exact .now h1 (by decide)
theorem td_short (h : St10 l p out wide S most ls ds fin m s) (he : sym ds ((bitsOf l).drop p) = (v, n, 0)) (hb : far v wide = some (b, x)) (hl : 8 * l.length - p < n + x) : Bad s := by
  by_cases hm : most < out.length + m
  · exact td_over h hm
  · have h1 := td_dist h he hm
    unfold readDist at h1
    rw [h.bd.ew, hb] at h1
    simp only at h1
    rw [if_pos (by rw [h.bd.eb, List.length_drop, bitsOf_len]; exact hl)] at h1
    exact .now h1 (lack_ne _)
theorem td_copied (h : St10 l p out wide S most ls ds fin m s) (he : sym ds ((bitsOf l).drop p) = (v, n, 0)) (hb : far v wide = some (b, x)) (hl : ¬ 8 * l.length - p < n + x) (hm : ¬ most < out.length + m) : step s = copied s (b + num (((bitsOf l).drop (p + n)).take x)) (n + x) := by
  have h1 := td_dist h he hm
  unfold readDist at h1
  rw [h.bd.ew, hb] at h1
  simp only at h1
  rw [if_neg (by rw [h.bd.eb, List.length_drop, bitsOf_len]; exact hl), h.bd.eb, List.drop_drop] at h1
  exact h1
theorem td_far (h : St10 l p out wide S most ls ds fin m s) (he : sym ds ((bitsOf l).drop p) = (v, n, 0)) (hb : far v wide = some (b, x)) (hl : ¬ 8 * l.length - p < n + x) (hd : min out.length S < b + num (((bitsOf l).drop (p + n)).take x)) : Bad s := by
  by_cases hm : most < out.length + m
  · exact td_over h hm
  · have h1 := td_copied h he hb hl hm
    unfold copied at h1
    rw [if_pos (by rw [h.bd.eh, h.bd.es]; exact hd)] at h1
    exact .now h1 (by decide)
theorem td_ok (h : St10 l p out wide S most ls ds fin m s) (he : sym ds ((bitsOf l).drop p) = (v, n, 0)) (hb : far v wide = some (b, x)) (hl : ¬ 8 * l.length - p < n + x) (hd : ¬ min out.length S < b + num (((bitsOf l).drop (p + n)).take x)) (hm : ¬ most < out.length + m) :
    ∃ s', Steps s s' ∧ St9 l (p + n + x) (grow out (b + num (((bitsOf l).drop (p + n)).take x)) m) wide S most ls ds fin s' := by
  have h1 := td_copied h he hb hl hm
  unfold copied at h1
  rw [if_neg (by rw [h.bd.eh, h.bd.es]; exact hd)] at h1
  refine ⟨_, .one h1, ⟨?_, rfl, h.lit, h.dist, h.final⟩⟩
  obtain ⟨b1, b2, b3, b4, b5, b6, b7, b8⟩ := h.bd
  exact ⟨by simp only; rw [b1, List.drop_drop, Nat.add_assoc], by simp only; rw [b2, h.mat], by simp only; rw [b2, b3, h.mat, ← grow_copy], by simp only; rw [b4, h.mat, grow_len], (by first | exact b5 | rfl), b6, b7, b8⟩
end
end InfMath
end

section
/-
  The document's Base, Far.
-/
namespace Go.Proofs.YtdbcendnibgcaaaGreatDoor.InfC
open Go.RowKit Go.My BitMath CanMath TabMath WinMath CanC
open InfMath (M Ok Steps Ends CodeOk mu lack fixL fixD)

theorem rbase_no (z : Int) (wide : Bool) (w : World) (h : z < 257 ∨ 285 < z) :
    Calls Tryz.prog 69 #[.int .i64 z, .bool wide] w fun e w' => e = .returned (.tuple #[.int .i64 0, .int .i64 0, .bool false]) ∧ w = w' := by
  by_cases h1 : z < 257
  · go_enter Tryz.func69, Tryz.ntmps69
    go_wp2_with fail
    go_ret3
    exact ⟨rfl, rfl⟩
  · have h2 : decide (z > 285) = true := by simp; omega
    go_enter Tryz.func69, Tryz.ntmps69
    go_wp2_with fail
    go_ret3
    exact ⟨rfl, rfl⟩
theorem rbase_low (v : Nat) (wide : Bool) (w : World) (h1 : 257 ≤ v) (h2 : v < 265) :
    Calls Tryz.prog 69 #[.int .i64 (v : Int), .bool wide] w fun e w' => e = .returned (.tuple #[.int .i64 ((v - 254 : Nat) : Int), .int .i64 0, .bool true]) ∧ w = w' := by
  rcases (by omega : v = 257 ∨ v = 258 ∨ v = 259 ∨ v = 260 ∨ v = 261 ∨ v = 262 ∨ v = 263 ∨ v = 264) with rfl | rfl | rfl | rfl | rfl | rfl | rfl | rfl
  all_goals
    clear h1 h2
    go_enter Tryz.func69, Tryz.ntmps69
    go_wp2_with fail
    go_ret3
    exact ⟨rfl, rfl⟩
theorem rbase_mid (v : Nat) (wide : Bool) (w : World) (h1 : 265 ≤ v) (h2 : v < 285) :
    Calls Tryz.prog 69 #[.int .i64 (v : Int), .bool wide] w fun e w' => e = .returned (.tuple #[.int .i64 ((3 + (4 + (v - 265) % 4) * 2 ^ ((v - 265) / 4 + 1) : Nat) : Int), .int .i64 (((v - 265) / 4 + 1 : Nat) : Int), .bool true]) ∧ w = w' := by
  rcases (by omega : v = 265 ∨ v = 266 ∨ v = 267 ∨ v = 268 ∨ v = 269 ∨ v = 270 ∨ v = 271 ∨ v = 272 ∨ v = 273 ∨ v = 274 ∨ v = 275 ∨ v = 276 ∨ v = 277 ∨ v = 278 ∨ v = 279 ∨ v = 280 ∨ v = 281 ∨ v = 282 ∨ v = 283 ∨ v = 284) with rfl | rfl | rfl | rfl | rfl | rfl | rfl | rfl | rfl | rfl | rfl | rfl | rfl | rfl | rfl | rfl | rfl | rfl | rfl | rfl
  all_goals
    clear h1 h2
    go_enter Tryz.func69, Tryz.ntmps69
    go_wp2_with fail
    go_ret3
    exact ⟨rfl, rfl⟩
theorem rbase_top (wide : Bool) (w : World) :
    Calls Tryz.prog 69 #[.int .i64 285, .bool wide] w fun e w' => e = .returned (ansB (InfMath.base 285 wide)) ∧ w = w' := by
  cases wide
  all_goals
    go_enter Tryz.func69, Tryz.ntmps69
    go_wp2_with fail
    go_ret3
    exact ⟨rfl, rfl⟩
theorem rbase_any (z : Int) (wide : Bool) (w : World) :
    Calls Tryz.prog 69 #[.int .i64 z, .bool wide] w fun e w' => e = .returned (ansB (baseZ z wide)) ∧ w = w' := by
  by_cases h : z < 257 ∨ 285 < z
  · have e : baseZ z wide = none := by
      unfold baseZ InfMath.base
      by_cases h0 : z < 0
      · rw [if_pos h0]
      · rw [if_neg h0, if_pos (by omega)]
    rw [e]
    exact rbase_no z wide w h
  · obtain ⟨v, rfl⟩ : ∃ v : Nat, z = (v : Int) := ⟨z.toNat, by omega⟩
    rw [baseZ_nat]
    by_cases h1 : v < 265
    · have e : InfMath.base v wide = some (v - 254, 0) := by unfold InfMath.base; rw [if_neg (by omega), if_pos h1]
      rw [e]
      exact rbase_low v wide w (by omega) h1
    · by_cases h2 : v < 285
      · have e : InfMath.base v wide = some (3 + (4 + (v - 265) % 4) * 2 ^ ((v - 265) / 4 + 1), (v - 265) / 4 + 1) := by unfold InfMath.base; rw [if_neg (by omega), if_neg h1, if_pos h2]
        rw [e]
        exact rbase_mid v wide w (by omega) h2
      · obtain rfl : v = 285 := by omega
        exact rbase_top wide w

theorem rfar_neg (z : Int) (wide : Bool) (w : World) (h : z < 0) :
    Calls Tryz.prog 30 #[.int .i64 z, .bool wide] w fun e w' => e = .returned (.tuple #[.int .i64 0, .int .i64 0, .bool false]) ∧ w = w' := by
  go_enter Tryz.func30, Tryz.ntmps30
  go_wp2_with fail
  go_ret3
  exact ⟨rfl, rfl⟩
theorem rfar_no (v : Nat) (wide : Bool) (w : World) (h : InfMath.lastD wide < v) :
    Calls Tryz.prog 30 #[.int .i64 (v : Int), .bool wide] w fun e w' => e = .returned (.tuple #[.int .i64 0, .int .i64 0, .bool false]) ∧ w = w' := by
  by_cases h1 : 31 < v
  · have h0 : decide ((v : Int) < 0) = false := by simp
    have h2 : decide ((v : Int) > 31) = true := by simp; omega
    clear h
    go_enter Tryz.func30, Tryz.ntmps30
    go_wp2_with fail
    go_ret3
    exact ⟨rfl, rfl⟩
  · cases wide with
    | true => unfold InfMath.lastD at h; simp at h; omega
    | false =>
      have : v = 30 ∨ v = 31 := by unfold InfMath.lastD at h; simp at h; omega
      clear h h1
      rcases this with rfl | rfl
      all_goals
        go_enter Tryz.func30, Tryz.ntmps30
        go_wp2_with fail
        go_ret3
        exact ⟨rfl, rfl⟩
theorem rfar_low (v : Nat) (wide : Bool) (w : World) (h : v < 4) :
    Calls Tryz.prog 30 #[.int .i64 (v : Int), .bool wide] w fun e w' => e = .returned (.tuple #[.int .i64 ((1 + v : Nat) : Int), .int .i64 0, .bool true]) ∧ w = w' := by
  rcases (by omega : v = 0 ∨ v = 1 ∨ v = 2 ∨ v = 3) with rfl | rfl | rfl | rfl
  all_goals
    go_enter Tryz.func30, Tryz.ntmps30
    go_wp2_with fail
    go_ret3
    exact ⟨rfl, rfl⟩
theorem rfar_mid (v : Nat) (wide : Bool) (w : World) (h1 : 4 ≤ v) (h : v ≤ InfMath.lastD wide) :
    Calls Tryz.prog 30 #[.int .i64 (v : Int), .bool wide] w fun e w' => e = .returned (.tuple #[.int .i64 ((1 + (2 + v % 2) * 2 ^ (v / 2 - 1) : Nat) : Int), .int .i64 ((v / 2 - 1 : Nat) : Int), .bool true]) ∧ w = w' := by
  have hle := lastD_le wide
  have hw : 30 ≤ v → wide = true := by cases wide; (intro h2; unfold InfMath.lastD at h; simp at h; omega); (intro _; rfl)
  rcases (by omega : v = 4 ∨ v = 5 ∨ v = 6 ∨ v = 7 ∨ v = 8 ∨ v = 9 ∨ v = 10 ∨ v = 11 ∨ v = 12 ∨ v = 13 ∨ v = 14 ∨ v = 15 ∨ v = 16 ∨ v = 17 ∨ v = 18 ∨ v = 19 ∨ v = 20 ∨ v = 21 ∨ v = 22 ∨ v = 23 ∨ v = 24 ∨ v = 25 ∨ v = 26 ∨ v = 27 ∨ v = 28 ∨ v = 29 ∨ v = 30 ∨ v = 31) with
    rfl | rfl | rfl | rfl | rfl | rfl | rfl | rfl | rfl | rfl | rfl | rfl | rfl | rfl | rfl | rfl | rfl | rfl | rfl | rfl | rfl | rfl | rfl | rfl | rfl | rfl | rfl | rfl
  all_goals
    go_enter Tryz.func30, Tryz.ntmps30
    go_wp2_with fail
    go_ret3
    exact ⟨rfl, rfl⟩
theorem rfar_any (z : Int) (wide : Bool) (w : World) :
    Calls Tryz.prog 30 #[.int .i64 z, .bool wide] w fun e w' => e = .returned (ansB (farZ z wide)) ∧ w = w' := by
  by_cases h : z < 0
  · have e : farZ z wide = none := by unfold farZ; rw [if_pos h]
    rw [e]
    exact rfar_neg z wide w h
  · obtain ⟨v, rfl⟩ : ∃ v : Nat, z = (v : Int) := ⟨z.toNat, by omega⟩
    rw [farZ_nat]
    by_cases h1 : InfMath.lastD wide < v
    · have e : InfMath.far v wide = none := by unfold InfMath.far; rw [if_pos h1]
      rw [e]
      exact rfar_no v wide w h1
    · by_cases h2 : v < 4
      · have e : InfMath.far v wide = some (1 + v, 0) := by unfold InfMath.far; rw [if_neg h1, if_pos h2]
        rw [e]
        exact rfar_low v wide w h2
      · have e : InfMath.far v wide = some (1 + (2 + v % 2) * 2 ^ (v / 2 - 1), v / 2 - 1) := by unfold InfMath.far; rw [if_neg h1, if_neg h2]
        rw [e]
        exact rfar_mid v wide w (by omega) (by omega)
end Go.Proofs.YtdbcendnibgcaaaGreatDoor.InfC
end

section
/-
  A drawn region over a frame that is a LETTER: each operation's frame has a name of its own, what its slots hold is carried by plain equations, so no step looks at the other slots. No dump.
-/
namespace Go.My
open Go.RowKit
theorem ev_eq {A B : Act} {d n : Nat} {v : Value} (h : B = A.put (some d) v) (hs : A.tmps.size = n) (hd : d < n) : B.eval (.tmp d) = v := by
  subst h; subst hs
  simp [Act.eval, Act.put, Array.getD, hd]
theorem ev_ne {A B : Act} {d t : Nat} {v x : Value} (h : B = A.put (some d) v) (hx : A.eval (.tmp t) = x) (hne : d ≠ t) : B.eval (.tmp t) = x := by
  subst h; subst hx
  simp [Act.eval, Act.put, Array.getD_eq_getD_getElem?, hne]
theorem sz_put {A B : Act} {d : Option Tmp} {n : Nat} {v : Value} (h : B = A.put d v) (hs : A.tmps.size = n) : B.tmps.size = n := by
  subst h; subst hs
  cases d <;> simp [Act.put]
/-- A slot written in a frame that is written out ('simp only [put_lit, List.set_cons_succ, List.set_cons_zero]': a second for a dozen slots of 157). -/
theorem put_lit (l : List Value) (ds : List Deferred) (d : Nat) (v : Value) : Act.put ⟨l.toArray, ds⟩ (some d) v = ⟨(l.set d v).toArray, ds⟩ := by simp [Act.put]
section
variable {P : Program} {ops : Array Oper} {Q : Exit → Act → World → Prop} {md : Region.Mode} {S : World → Prop}
theorem act_name {fuel : Nat} {listed : Array Bool} {a : Act} {w : World} (h : ∀ A, A = a → wpAnyH P md ops Q S fuel listed A w) : wpAnyH P md ops Q S fuel listed a w := h a rfl
theorem act_as {fuel : Nat} {listed : Array Bool} {a b : Act} {w : World} (h : a = b) (hp : wpAnyH P md ops Q S fuel listed b w) : wpAnyH P md ops Q S fuel listed a w := by subst h; exact hp
theorem ord_step {i : Nat} {o : Oper} {d : Option Tmp} (v : Value) {fuel : Nat} {listed : Array Bool} {a : Act} {w : World} (hi : ops[i]? = some o) (hd : o.dst = d)
    (hs : Region.noSelect ops = true) (hf : Region.free md ops listed i = true) (hr : (Region.ready md ops listed).contains i = true)
    (hQ : ∀ c a w, Q (.panic c) (a.put d v) w → Q (.panic c) a w) (hg : o.guard = none) (hS : S w) (hy : ∀ w, S w → (execOp a.eval o).run P w = .ok (.value v) w)
    (h : ∀ B, B = a.put d v → wpAnyH P md ops Q S fuel (listed.setIfInBounds i true) B w) : wpAnyH P md ops Q S (fuel + 1) listed a w :=
  ord_take v hi hd hs hf hr hQ (by simp [Region.wanted, hg]) hy hS (h _ rfl)
theorem ord_lone {i : Nat} {o : Oper} {fuel : Nat} {listed : Array Bool} {a : Act} {w : World} (hi : ops[i]? = some o) (hr : Region.ready md ops listed = [i]) (hg : o.guard = none)
    (h : o.wp P a w (fun a' w' => S w' ∧ wpAnyH P md ops Q S fuel (listed.setIfInBounds i true) a' w') Q) : wpAnyH P md ops Q S (fuel + 1) listed a w :=
  ord_alone hi hr (by simp [Region.wanted, hg]) h
theorem act_name_and {p : Prop} {fuel : Nat} {listed : Array Bool} {a : Act} {w : World} (hp : p) (h : ∀ A, A = a → wpAnyH P md ops Q S fuel listed A w) : p ∧ wpAnyH P md ops Q S fuel listed a w := ⟨hp, h a rfl⟩
end
/-- What a move, an assign yields. -/
theorem x_move {P : Program} {a : Act} {o : Oper} (s : Operand) {v : Value} {w : World} (ho : o.op = .move s) (hs : a.eval s = v) : (execOp a.eval o).run P w = .ok (.value v) w := by
  unfold execOp; rw [ho]; subst hs; rfl
theorem x_assign {P : Program} {a : Act} {o : Oper} (s : Operand) {v : Value} {w : World} (ho : o.op = .assign s) (hs : a.eval s = v) : (execOp a.eval o).run P w = .ok (.value v) w := by
  unfold execOp; rw [ho]; subst hs; rfl
end Go.My
end
