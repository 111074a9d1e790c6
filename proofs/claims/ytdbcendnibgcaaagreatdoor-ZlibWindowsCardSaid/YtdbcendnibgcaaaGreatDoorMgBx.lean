import Derived.Test.YtdbcendnibgcaaaGreatDoorMgBu
import Derived.Test.YtdbcendnibgcaaaGreatDoorMgBg
import Derived.Test.YtdbcendnibgcaaaGreatDoorMgBw

section
/-
  inflate's machine, block by block (beginnings, stored blocks), over the bits of bytes that are all there. No program, no dump.
-/
namespace InfMath
open BitMath CanMath TabMath WinMath

/-- At a block's beginning, or behind its first bits: which step is next. -/
structure Stn (k : Nat) (l : List UInt8) (p : Nat) (out : List UInt8) (wide : Bool) (S most : Nat) (fin : Bool) (s : M) : Prop where
  bd : Bd l p out wide S most s
  next : s.next = k
  final : s.final = fin
structure St3 (l : List UInt8) (p : Nat) (out : List UInt8) (wide : Bool) (S most : Nat) (fin : Bool) (k : Nat) (s : M) : Prop where
  bd : Bd l p out wide S most s
  next : s.next = 3
  final : s.final = fin
  left : s.left = k
section
variable {l : List UInt8} {p : Nat} {out : List UInt8} {wide : Bool} {S most : Nat} {fin : Bool} {s : M} {k : Nat}
theorem Bd.len (h : Bd l p out wide S most s) : s.bits.length = 8 * l.length - p := by rw [h.eb, List.length_drop, bitsOf_len]
theorem Bd.at_ (h : Bd l p out wide S most s) (n : Nat) : s.bits.drop n = (bitsOf l).drop (p + n) := by rw [h.eb, List.drop_drop]
theorem take3 (bs : List Bool) (h : 3 ≤ bs.length) : num (bs.take 3) = num (bs.take 1) + 2 * num ((bs.drop 1).take 2) := by
  match bs, h with
  | a :: b :: c :: t, _ => simp [num]
theorem open_short (h : Stn 1 l p out wide S most fin s) (hl : 8 * l.length - p < 3) : Bad s := by
  refine .now (c := lack s) ?_ (lack_ne s)
  have : step s = opening s := by unfold step; rw [h.next]; rfl
  rw [this]
  unfold opening
  rw [if_pos (by rw [h.bd.len]; exact hl)]
theorem open_ (h : Stn 1 l p out wide S most fin s) (hl : ¬ 8 * l.length - p < 3) {a b : Nat} (ha : num (((bitsOf l).drop p).take 1) = a) (hb : num (((bitsOf l).drop (p + 1)).take 2) = b) :
    (b = 0 → ∃ s', Steps s s' ∧ Stn 2 l (p + 3) out wide S most (a == 1) s') ∧
    (b = 1 → ∃ s', Steps s s' ∧ St9 l (p + 3) out wide S most fixL fixD (a == 1) s') ∧
    (b = 2 → ∃ s', Steps s s' ∧ Stn 4 l (p + 3) out wide S most (a == 1) s') ∧
    (b = 3 → Bad s) := by
  have h0 : step s = opening s := by unfold step; rw [h.next]; rfl
  have ha1 : a < 2 := by
    rw [← ha]
    have hle : (((bitsOf l).drop p).take 1).length ≤ 1 := by rw [List.length_take]; omega
    exact Nat.lt_of_lt_of_le (num_lt _) (Nat.pow_le_pow_right (n := 2) (by omega) hle)
  have h3 : num (s.bits.take 3) = a + 2 * b := by
    rw [take3 _ (by rw [h.bd.len]; omega), h.bd.eb, List.drop_drop, ha, hb]
  have hd := h.bd.at_ 3
  have hq : (a + 2 * b) / 2 = b := by omega
  have hm : (a + 2 * b) % 2 = a := by omega
  unfold opening at h0
  rw [if_neg (by rw [h.bd.len]; exact hl), h3, hd, hq, hm] at h0
  have hbd : ∀ (t : M), t.bits = (bitsOf l).drop (p + 3) → t.hist = s.hist → t.out = s.out → t.total = s.total → t.wide = s.wide → t.size = s.size → t.most = s.most → t.pushed = s.pushed → Bd l (p + 3) out wide S most t := fun t e1 e2 e3 e4 e5 e6 e7 e8 =>
    ⟨e1, e2.trans h.bd.eh, e3.trans h.bd.eo, e4.trans h.bd.et, e5.trans h.bd.ew, e6.trans h.bd.es, e7.trans h.bd.em, e8.trans h.bd.ep⟩
  refine ⟨fun e => ?_, fun e => ?_, fun e => ?_, fun e => ?_⟩
  · subst e
    rw [if_pos rfl] at h0
    exact ⟨_, .one h0, hbd _ rfl rfl rfl rfl rfl rfl rfl rfl, rfl, rfl⟩
  · subst e
    rw [if_neg (by omega), if_pos rfl] at h0
    exact ⟨_, .one h0, hbd _ rfl rfl rfl rfl rfl rfl rfl rfl, rfl, rfl, rfl, rfl⟩
  · subst e
    rw [if_neg (by omega), if_neg (by omega), if_pos rfl] at h0
    exact ⟨_, .one h0, hbd _ rfl rfl rfl rfl rfl rfl rfl rfl, rfl, rfl⟩
  · subst e
    rw [if_neg (by omega), if_neg (by omega), if_neg (by omega)] at h0
    exact .now h0 (by decide)

/-- The rest of a byte is skipped. -/
theorem skip_ (h : Stn 2 l p out wide S most fin s) (hp : p ≤ 8 * l.length) : ∃ s', Steps s s' ∧ Stn 2 l ((p + 7) / 8 * 8) out wide S most fin s' := by
  have h0 : step s = readSize s := by unfold step; rw [h.next]; rfl
  by_cases he : (8 * l.length - p) % 8 = 0
  · refine ⟨s, .refl s, ?_⟩
    rw [show (p + 7) / 8 * 8 = p from by omega]
    exact h
  · unfold readSize at h0
    rw [h.bd.len, if_pos he, h.bd.at_] at h0
    rw [show (p + 7) / 8 * 8 = p + (8 * l.length - p) % 8 from by omega]
    exact ⟨_, .one h0, ⟨rfl, h.bd.eh, h.bd.eo, h.bd.et, h.bd.ew, h.bd.es, h.bd.em, h.bd.ep⟩, h.next, h.final⟩
theorem size_short (h : Stn 2 l p out wide S most fin s) (hp : (8 * l.length - p) % 8 = 0) (hl : 8 * l.length - p < 32) : Bad s := by
  have h0 : step s = readSize s := by unfold step; rw [h.next]; rfl
  refine .now (c := lack s) ?_ (lack_ne s)
  rw [h0]
  unfold readSize
  rw [h.bd.len, if_neg (by omega), if_pos hl]
theorem size_bad (h : Stn 2 l p out wide S most fin s) (hp : (8 * l.length - p) % 8 = 0) (hl : ¬ 8 * l.length - p < 32) (hn : num (((bitsOf l).drop (p + 16)).take 16) + num (((bitsOf l).drop p).take 16) ≠ 65535) : Bad s := by
  have h0 : step s = readSize s := by unfold step; rw [h.next]; rfl
  refine .now (c := 2) ?_ (by decide)
  rw [h0]
  unfold readSize
  rw [h.bd.len, if_neg (by omega), if_neg hl, if_pos (by rw [h.bd.at_, h.bd.eb]; exact hn)]
theorem size_ok (h : Stn 2 l p out wide S most fin s) (hp : (8 * l.length - p) % 8 = 0) (hl : ¬ 8 * l.length - p < 32) (hn : num (((bitsOf l).drop (p + 16)).take 16) + num (((bitsOf l).drop p).take 16) = 65535) :
    ∃ s', Steps s s' ∧ St3 l (p + 32) out wide S most fin (num (((bitsOf l).drop p).take 16)) s' := by
  have h0 : step s = readSize s := by unfold step; rw [h.next]; rfl
  unfold readSize at h0
  rw [h.bd.len, if_neg (by omega), if_neg hl, if_neg (by rw [h.bd.at_, h.bd.eb]; simpa using hn), h.bd.at_] at h0
  exact ⟨_, .one h0, ⟨rfl, h.bd.eh, h.bd.eo, h.bd.et, h.bd.ew, h.bd.es, h.bd.em, h.bd.ep⟩, rfl, h.final, by simp only; rw [h.bd.eb]⟩
theorem St3.step_ (h : St3 l p out wide S most fin k s) : step s = readBytes s := by unfold step; rw [h.next]; rfl
theorem bytes_end (h : St3 l p out wide S most fin 0 s) : ∃ s', Steps s s' ∧ St1 l p out wide S most fin s' := by
  have h0 := h.step_
  unfold readBytes at h0
  rw [if_pos h.left] at h0
  exact ⟨_, .one h0, ⟨h.bd.eb, h.bd.eh, h.bd.eo, h.bd.et, h.bd.ew, h.bd.es, h.bd.em, h.bd.ep⟩, by simp only [close, h.final], h.final⟩
theorem bytes_short (h : St3 l p out wide S most fin k s) (hk : k ≠ 0) (hl : 8 * l.length - p < 8) : Bad s := by
  refine .now (c := lack s) ?_ (lack_ne s)
  rw [h.step_]
  unfold readBytes
  rw [if_neg (by rw [h.left]; exact hk), if_pos (by rw [h.bd.len]; exact hl)]
theorem bytes_full (h : St3 l p out wide S most fin k s) (hk : k ≠ 0) (hm : most ≤ out.length) : Bad s := by
  by_cases hl : 8 * l.length - p < 8
  · exact bytes_short h hk hl
  · refine .now (c := 3) ?_ (by decide)
    rw [h.step_]
    unfold readBytes
    rw [if_neg (by rw [h.left]; exact hk), if_neg (by rw [h.bd.len]; exact hl), if_pos (by rw [h.bd.em, h.bd.et]; exact hm)]
theorem bytes_one (h : St3 l p out wide S most fin (k + 1) s) (hl : ¬ 8 * l.length - p < 8) (hm : ¬ most ≤ out.length) :
    ∃ s', Steps s s' ∧ St3 l (p + 8) (out ++ [UInt8.ofNat (num (((bitsOf l).drop p).take 8))]) wide S most fin k s' := by
  have h0 := h.step_
  unfold readBytes at h0
  rw [if_neg (by rw [h.left]; omega), if_neg (by rw [h.bd.len]; exact hl), if_neg (by rw [h.bd.em, h.bd.et]; exact hm), h.bd.at_, h.bd.eb] at h0
  refine ⟨_, .one h0, ⟨rfl, ?_, ?_, ?_, h.bd.ew, h.bd.es, h.bd.em, h.bd.ep⟩, h.next, h.final, by simp only; rw [h.left]; omega⟩
  · show s.hist ++ _ = _; rw [h.bd.eh]
  · show s.out ++ _ = _; rw [h.bd.eo]
  · show s.total + 1 = _; rw [h.bd.et]; simp
end
end InfMath
end

section
/-
  The document's own inflate: stored.
-/
namespace Go.Proofs.YtdbcendnibgcaaaGreatDoor.RfC
open Go.RowKit Go.My BitMath CanMath TabMath WinMath CanC RefC
open InfMath (Stn St3 St1 Bad)

/-- What a stored block hands back. -/
def StoR (w0 : World) (g : Nat) (a : Option Addr) (len cap : Nat) (l : List UInt8) (wide : Bool) (S most : Nat) (R : List (Nat × TypeId × Array Value)) (fin : Bool) (s : InfMath.M) (p : Nat) (e : Ending) (w' : World) : Prop :=
  ∃ (r : Bool) (p' code' : Nat) (ov' : Value) (out' : List UInt8), e = .returned (.bool r) ∧ Hid (XAt w0 w' g a len cap l p' ov' out' wide S most code' R) ∧
    Hid ((r = true ∧ p < p' ∧ out'.length ≤ most ∧ ∃ s', InfMath.Steps s s' ∧ St1 l p' out' wide S most fin s') ∨ (r = false ∧ code' ≠ 0 ∧ Bad s))
section
variable {w0 w w' : World} {g : Nat} {a : Option Addr} {len cap : Nat} {l : List UInt8} {p : Nat} {ov : Value} {out : List UInt8} {wide : Bool} {S most code : Nat} {R : List (Nat × TypeId × Array Value)}
theorem take_lt16 (bs : List Bool) (n : Nat) (hn : n ≤ 16) : num (bs.take n) < 65536 := by
  have h1 := num_lt (bs.take n)
  have h2 : (bs.take n).length ≤ 16 := by rw [List.length_take]; omega
  exact Nat.lt_of_lt_of_le h1 (Nat.pow_le_pow_right (n := 2) (by omega) h2)
theorem take_lt8 (bs : List Bool) : num (bs.take 8) < 256 := by
  have h1 := num_lt (bs.take 8)
  have h2 : (bs.take 8).length ≤ 8 := by rw [List.length_take]; omega
  exact Nat.lt_of_lt_of_le h1 (Nat.pow_le_pow_right (n := 2) (by omega) h2)

set_option maxRecDepth 100000 in
set_option maxHeartbeats 8000000 in
theorem stored_any {fin : Bool} {s : InfMath.M} (hx : Hid (XAt w0 w g a len cap l p ov out wide S most code R)) (h2 : Stn 2 l p out wide S most fin s) (hm : most ≤ 1073741824) (hom : out.length ≤ most) :
    Calls Tryz.prog 44 #[.pointer (some ⟨g, 0, none⟩)] w (StoR w0 g a len cap l wide S most R fin s p) := by
  have hlen := hx.out.byt.len_eq
  have hpl := hx.out.lt
  have hsh := hx.out.short
  have HLE := Lib.hid hlen
  obtain ⟨Q, hQ⟩ : ∃ Q, Q = (p + 7) / 8 * 8 := ⟨_, rfl⟩
  have hsk := InfMath.skip_ h2 (by rw [hlen]; exact hpl)
  rw [← hQ] at hsk
  obtain ⟨s1, hs1, h21⟩ := hsk
  have HS1 := Lib.hid (And.intro hs1 h21)
  have hQI : ((p : Int) + 7) / 8 * 8 = (Q : Int) := by omega
  have hQE : Q ≤ 8 * len := by omega
  have hpQ : p ≤ Q := by omega
  have hQ8 : (8 * len - Q) % 8 = 0 := by omega
  obtain ⟨D, hD⟩ : ∃ D, D = 8 * len - Q := ⟨_, rfl⟩
  have hDI : (8 : Int) * (len : Int) - (Q : Int) = (D : Int) := by omega
  have x0 : w.cell? ⟨g, 0, none⟩ = some (.slice a len cap) := hx.out.blk.cell 0
  have x1 : w.cell? ⟨g, 1, none⟩ = some (.int .i64 (p : Int)) := hx.out.blk.cell 1
  have x6 : w.cell? ⟨g, 6, none⟩ = some (.int .i64 (code : Int)) := hx.out.blk.cell 6
  have f1 : w.frozen? ⟨g, 1, none⟩ = false := hx.out.blk.frozen 1
  have f6 : w.frozen? ⟨g, 6, none⟩ = false := hx.out.blk.frozen 6
  have HQ := Lib.hid (And.intro hQE (And.intro hpQ (And.intro hQ8 hD)))
  clear hQ hs1 h21 hlen h2 hQ8
  unfold StoR
  go_enter Tryz.func44, Tryz.ntmps44
  by_cases hsh2 : D < 32
  · clear hD
    go_wp2_with fail
    go_ret
    exact ⟨false, p, 5, _, _, rfl, Lib.hid (hx.out.code_ 5), Lib.hid (.inr ⟨rfl, by decide, .of HS1.out.1 (InfMath.size_short HS1.out.2 (by rw [HLE.out]; exact HQ.out.2.2.1) (by rw [HLE.out, ← HQ.out.2.2.2]; exact hsh2))⟩)⟩
  · clear hD
    go_upto_region 6 with (fail)
    have hx1 := hx.out.at_ Q code hQE rfl
    generalize w.setCell ⟨g, 1, none⟩ (.int .i64 (Q : Int)) = w1 at *
    have HX1 := Lib.hid hx1
    clear hx1 x0 x1 x6 f1 f6 hQI hDI
    have HG1 := Lib.hid (get_any 16 (by omega) HX1)
    go_wp2_with fail
    refine HG1.out.mono ?_
    rintro e w2 (⟨hno, -, -⟩ | ⟨hyes, rfl, HX2⟩)
    · exact absurd hno (by have := HQ.out.2.2.2; omega)
    · have hN := take_lt16 ((bitsOf l).drop Q) 16 (by omega)
      obtain ⟨N, hNe⟩ : ∃ N, N = num (((bitsOf l).drop Q).take 16) := ⟨_, rfl⟩
      rw [← hNe] at hN ⊢
      have HNe := Lib.hid hNe
      have HG2 := Lib.hid (get_any 16 (by omega) HX2)
      clear HG1 hyes hNe
      go_wp2_with fail
      refine HG2.out.mono ?_
      rintro e w3 (⟨hno, -, -⟩ | ⟨hyes, rfl, HX3⟩)
      · exact absurd hno (by have := HQ.out.2.2.2; omega)
      · have hM := take_lt16 ((bitsOf l).drop (Q + 16)) 16 (by omega)
        obtain ⟨M, hMe⟩ : ∃ M, M = num (((bitsOf l).drop (Q + 16)).take 16) := ⟨_, rfl⟩
        rw [← hMe] at hM ⊢
        have HNM := Lib.hid (And.intro HNe.out hMe)
        have h32 : ¬ 8 * l.length - Q < 32 := by rw [HLE.out]; have := HQ.out.2.2.2; omega
        have H32 := Lib.hid h32
        clear HG2 hyes hMe h32 HNe
        by_cases hnm : M + N = 65535
        · have hsz := InfMath.size_ok HS1.out.2 (by rw [HLE.out]; exact HQ.out.2.2.1) H32.out (by rw [← HNM.out.1, ← HNM.out.2]; exact hnm)
          rw [← HNM.out.1] at hsz
          obtain ⟨s2, hs2, h3⟩ := hsz
          have HS2 := Lib.hid (And.intro (HS1.out.1.trans hs2) h3)
          have hneI : ((N : Int) != 65535 - (M : Int)) = false := by simp; omega
          have hpQ2 : p < Q + 32 := by omega
          clear hs2 h3 hnm
          go_wp2_with fail
          clear hneI
          go_loopw [4] (fun nv wr => ∃ (k pk : Nat) (ovk : Value) (outk : List UInt8), nv = .int .i64 (k : Int) ∧ k < 65536 ∧ Hid (XAt w0 wr g a len cap l pk ovk outk wide S most code R) ∧ Hid (p < pk ∧ outk.length ≤ most ∧ ∃ s', InfMath.Steps s s' ∧ St3 l pk outk wide S most fin k s')) (fun nv _ => (intOf nv).toNat)
          case atStart => exact ⟨N, Q + 32, ov, out, rfl, hN, HX3, Lib.hid ⟨hpQ2, hom, s2, HS2.out.1, HS2.out.2⟩⟩
          case round =>
            clear HX3 HX2 HX1
            obtain ⟨k, pk, ovk, outk, rfl, hk, HX, HS⟩ := hrel
            by_cases hk0 : k = 0
            · subst hk0
              go_wp2_with fail
              go_ret
              refine ⟨true, pk, code, _, _, rfl, HX, Lib.hid (.inl ⟨rfl, HS.out.1, HS.out.2.1, ?_⟩)⟩
              obtain ⟨s3, hs3, h3⟩ := HS.out.2.2
              obtain ⟨s4, hs4, h4⟩ := InfMath.bytes_end h3
              exact ⟨s4, hs3.trans hs4, h4⟩
            · obtain ⟨oa, oc, rfl, -⟩ := HX.out.own.bytes
              have hk1 : (k : Int) > 0 := by omega
              have x5 : wr.cell? ⟨g, 5, none⟩ = some (.int .i64 (most : Int)) := HX.out.blk.cell 5
              have x2 : wr.cell? ⟨g, 2, none⟩ = some (.slice oa outk.length oc) := HX.out.blk.cell 2
              by_cases hfull : most ≤ outk.length
              · have hfi : decide ((most : Int) ≤ (outk.length : Int)) = true := by simp; omega
                have HBD : Hid (Bad s) := Lib.hid (by
                  obtain ⟨s3, hs3, h3⟩ := HS.out.2.2
                  exact .of hs3 (InfMath.bytes_full h3 hk0 hfull))
                go_wp2_with fail
                go_quiet (fail)
                have HX3 : Hid (XAt w0 (wr.drewN nq) g a len cap l pk (.slice oa outk.length oc) outk wide S most code R) := Lib.hid (HX.out.later (below_drewN (Below.refl _ _) _))
                generalize wr.drewN nq = wd at *
                clear x5 x2 hfi HX
                go_wp2_with fail
                refine (left_any HX3).mono ?_
                rintro e w4 ⟨rfl, hb⟩
                have HX4 := Lib.hid (HX3.out.later hb)
                have x6 : w4.cell? ⟨g, 6, none⟩ = some (.int .i64 (code : Int)) := HX4.out.blk.cell 6
                have f6 : w4.frozen? ⟨g, 6, none⟩ = false := HX4.out.blk.frozen 6
                clear hb HX3
                by_cases h8 : 8 * len - pk < 8
                · have h8I : (((8 * len - pk : Nat) : Int)) < 8 := by omega
                  go_wp2_with fail
                  go_ret
                  exact ⟨false, pk, 5, _, _, rfl, Lib.hid (HX4.out.code_ 5), Lib.hid (.inr ⟨rfl, by decide, HBD.out⟩)⟩
                · have h8I : ¬ (((8 * len - pk : Nat) : Int)) < 8 := by omega
                  go_wp2_with fail
                  go_ret
                  exact ⟨false, pk, 3, _, _, rfl, Lib.hid (HX4.out.code_ 3), Lib.hid (.inr ⟨rfl, by decide, HBD.out⟩)⟩
              · have hfi : decide ((most : Int) ≤ (outk.length : Int)) = false := by simp; omega
                go_wp2_with fail
                go_quiet (fail)
                have HX3 : Hid (XAt w0 (wr.drewN nq) g a len cap l pk (.slice oa outk.length oc) outk wide S most code R) := Lib.hid (HX.out.later (below_drewN (Below.refl _ _) _))
                generalize wr.drewN nq = wd at *
                clear x5 x2 hfi HX
                have HG := Lib.hid (get_any 8 (by omega) HX3)
                go_wp2_with fail
                refine HG.out.mono ?_
                rintro e w4 (⟨hno, rfl, HX4⟩ | ⟨hyes, rfl, HX4⟩)
                · have x6 : w4.cell? ⟨g, 6, none⟩ = some (.int .i64 (code : Int)) := HX4.out.blk.cell 6
                  have f6 : w4.frozen? ⟨g, 6, none⟩ = false := HX4.out.blk.frozen 6
                  have HBD : Hid (Bad s) := Lib.hid (by
                    obtain ⟨s3, hs3, h3⟩ := HS.out.2.2
                    exact .of hs3 (InfMath.bytes_short h3 hk0 (by rw [HLE.out]; omega)))
                  clear HG hno HX3
                  go_wp2_with fail
                  go_ret
                  exact ⟨false, pk, 5, _, _, rfl, Lib.hid (HX4.out.code_ 5), Lib.hid (.inr ⟨rfl, by decide, HBD.out⟩)⟩
                · obtain ⟨k', rfl⟩ : ∃ k', k = k' + 1 := ⟨k - 1, by omega⟩
                  have HS3 : Hid (p < pk + 8 ∧ ∃ s', InfMath.Steps s s' ∧ St3 l (pk + 8) (outk ++ [UInt8.ofNat (num (((bitsOf l).drop pk).take 8))]) wide S most fin k' s') := Lib.hid (by
                    obtain ⟨h0, -, s3, hs3, h3⟩ := HS.out
                    obtain ⟨s4, hs4, h4⟩ := InfMath.bytes_one h3 (by rw [HLE.out]; omega) hfull
                    exact ⟨by omega, s4, hs3.trans hs4, h4⟩)
                  have hv := take_lt8 ((bitsOf l).drop pk)
                  obtain ⟨v, hve⟩ : ∃ v, v = num (((bitsOf l).drop pk).take 8) := ⟨_, rfl⟩
                  rw [← hve] at hv HS3 ⊢
                  have x2 : w4.cell? ⟨g, 2, none⟩ = some (.slice oa outk.length oc) := HX4.out.blk.cell 2
                  have hc : (UInt8.ofNat v).toNat = v := by rw [UInt8.toNat_ofNat']; exact Nat.mod_eq_of_lt hv
                  have hb1 : Bytes (w4.alloc (.cells #[.int .u8 (v : Int)] 5)) (some ⟨w4.heap.size, 0, none⟩) 1 1 [UInt8.ofNat v] := by
                    have := one_bytes 5 w4 (UInt8.ofNat v)
                    rw [hc] at this; exact this
                  have HBB := Lib.hid hb1
                  have HOA := Lib.hid (HX4.out.own.below (Nat.le_refl _) ((Below.refl _ w4).alloc (Nat.le_refl _) (.cells #[.int .u8 (v : Int)] 5)))
                  have hol : outk.length ≤ 1073741824 := by omega
                  clear hb1 hc hve HG HX3 hyes
                  go_wp2_with (at_builtin; refine wpList_append_bytes (by rfl) (.tmp 87) (.tmp 90) 22 rfl w0.heap.size 5 Tryz.underlying22 RefC.info5 _ _ (by rfl) HOA.out _ 1 1 [UInt8.ofNat v] (by rfl) HBB.out (by omega) (by have := HX4.out.below.size; simp; omega) ?_)
                  intro v2 w5 hown hg
                  obtain ⟨a2, c2, rfl, -⟩ := hown.bytes
                  have hb5 := (HX4.out.blk.alloc (.cells #[.int .u8 (v : Int)] 5)).grown hg (Ne.symm HX4.out.far)
                  have HX5 := Lib.hid (HX4.out.app hown hg)
                  rw [List.length_append, List.length_singleton] at HX5 ⊢
                  have f2 : w5.frozen? ⟨g, 2, none⟩ = false := hb5.frozen 2
                  have y2 : w5.cell? ⟨g, 2, none⟩ = some (.slice oa outk.length oc) := hb5.cell 2
                  clear hown hg hb5 x2 HOA HBB HX4
                  go_wp2_with fail
                  go_roundw
                  case rel => exact ⟨k', pk + 8, _, _, by go_num, by omega, HX5, Lib.hid ⟨HS3.out.1, by rw [List.length_append, List.length_singleton]; omega, HS3.out.2⟩⟩
                  case measure => simp [intOf]
        · have hneI : ((N : Int) != 65535 - (M : Int)) = true := by simp; omega
          have x6 : w3.cell? ⟨g, 6, none⟩ = some (.int .i64 (code : Int)) := HX3.out.blk.cell 6
          have f6 : w3.frozen? ⟨g, 6, none⟩ = false := HX3.out.blk.frozen 6
          have HBD : Hid (Bad s) := Lib.hid (.of HS1.out.1 (InfMath.size_bad HS1.out.2 (by rw [HLE.out]; exact HQ.out.2.2.1) H32.out (by rw [← HNM.out.1, ← HNM.out.2]; exact hnm)))
          go_wp2_with fail
          go_ret
          exact ⟨false, Q + 16 + 16, 2, _, _, rfl, Lib.hid (HX3.out.code_ 2), Lib.hid (.inr ⟨rfl, by decide, HBD.out⟩)⟩
end
end Go.Proofs.YtdbcendnibgcaaaGreatDoor.RfC
end

section
/-
  inflate's machine over the head of a block with codes of its own, over the bits of bytes that are all there. No program, no dump.
-/
namespace InfMath
open BitMath CanMath TabMath WinMath

structure St7 (l : List UInt8) (p : Nat) (out : List UInt8) (wide : Bool) (S most : Nat) (fin : Bool) (hl hd hc : Nat) (L : List Nat) (s : M) : Prop where
  bd : Bd l p out wide S most s
  next : s.next = 7
  final : s.final = fin
  ehl : s.hl = hl
  ehd : s.hd = hd
  ehc : s.hc = hc
  lens : s.lens = L
structure St8 (l : List UInt8) (p : Nat) (out : List UInt8) (wide : Bool) (S most : Nat) (fin : Bool) (hl hd : Nat) (cl L : List Nat) (s : M) : Prop where
  bd : Bd l p out wide S most s
  next : s.next = 8
  final : s.final = fin
  ehl : s.hl = hl
  ehd : s.hd = hd
  code : s.hcode = some cl
  lens : s.lens = L
section
variable {l : List UInt8} {p : Nat} {out : List UInt8} {wide : Bool} {S most : Nat} {fin : Bool} {s : M} {hl hd hc : Nat} {cl L : List Nat}
theorem Bd.to (h : Bd l p out wide S most s) {t : M} {q : Nat} (e1 : t.bits = (bitsOf l).drop q) (e2 : t.hist = s.hist) (e3 : t.out = s.out) (e4 : t.total = s.total) (e5 : t.wide = s.wide) (e6 : t.size = s.size) (e7 : t.most = s.most) (e8 : t.pushed = s.pushed) : Bd l q out wide S most t :=
  ⟨e1, e2.trans h.eh, e3.trans h.eo, e4.trans h.et, e5.trans h.ew, e6.trans h.es, e7.trans h.em, e8.trans h.ep⟩
/-- HLIT. -/
theorem hlit_short (h : Stn 4 l p out wide S most fin s) (hs : 8 * l.length - p < 5) : Bad s := by
  have h0 : step s = readHlit s := by unfold step; rw [h.next]; rfl
  unfold readHlit at h0
  rw [if_pos (by rw [h.bd.len]; exact hs)] at h0
  exact .now h0 (lack_ne s)
theorem hlit_bad (h : Stn 4 l p out wide S most fin s) {a : Nat} (ha : num (((bitsOf l).drop p).take 5) = a) (hs : 29 < a) : Bad s := by
  by_cases hl : 8 * l.length - p < 5
  · exact hlit_short h hl
  · have h0 : step s = readHlit s := by unfold step; rw [h.next]; rfl
    unfold readHlit at h0
    rw [if_neg (by rw [h.bd.len]; exact hl), h.bd.eb, ha, if_pos hs] at h0
    exact .now h0 (by decide)
structure St5 (l : List UInt8) (p : Nat) (out : List UInt8) (wide : Bool) (S most : Nat) (fin : Bool) (hl : Nat) (s : M) : Prop where
  bd : Bd l p out wide S most s
  next : s.next = 5
  final : s.final = fin
  ehl : s.hl = hl
  lens : s.lens = []
theorem hlit_ok (h : Stn 4 l p out wide S most fin s) {a : Nat} (ha : num (((bitsOf l).drop p).take 5) = a) (hs : ¬ 29 < a) (hl : ¬ 8 * l.length - p < 5) : ∃ s', Steps s s' ∧ St5 l (p + 5) out wide S most fin (257 + a) s' := by
  have h0 : step s = readHlit s := by unfold step; rw [h.next]; rfl
  unfold readHlit at h0
  rw [if_neg (by rw [h.bd.len]; exact hl), h.bd.at_, h.bd.eb, ha, if_neg hs] at h0
  exact ⟨_, .one h0, h.bd.to rfl rfl rfl rfl rfl rfl rfl rfl, rfl, h.final, rfl, rfl⟩
structure St6 (l : List UInt8) (p : Nat) (out : List UInt8) (wide : Bool) (S most : Nat) (fin : Bool) (hl hd : Nat) (s : M) : Prop where
  bd : Bd l p out wide S most s
  next : s.next = 6
  final : s.final = fin
  ehl : s.hl = hl
  ehd : s.hd = hd
  lens : s.lens = []
theorem hdist_short (h : St5 l p out wide S most fin hl s) (hs : 8 * l.length - p < 5) : Bad s := by
  have h0 : step s = readHdist s := by unfold step; rw [h.next]; rfl
  unfold readHdist at h0
  rw [if_pos (by rw [h.bd.len]; exact hs)] at h0
  exact .now h0 (lack_ne s)
theorem hdist_bad (h : St5 l p out wide S most fin hl s) {a : Nat} (ha : num (((bitsOf l).drop p).take 5) = a) (hs : lastD wide < a) : Bad s := by
  by_cases hl' : 8 * l.length - p < 5
  · exact hdist_short h hl'
  · have h0 : step s = readHdist s := by unfold step; rw [h.next]; rfl
    unfold readHdist at h0
    rw [if_neg (by rw [h.bd.len]; exact hl'), h.bd.eb, ha, h.bd.ew, if_pos hs] at h0
    exact .now h0 (by decide)
theorem hdist_ok (h : St5 l p out wide S most fin hl s) {a : Nat} (ha : num (((bitsOf l).drop p).take 5) = a) (hs : ¬ lastD wide < a) (hl' : ¬ 8 * l.length - p < 5) : ∃ s', Steps s s' ∧ St6 l (p + 5) out wide S most fin hl (1 + a) s' := by
  have h0 : step s = readHdist s := by unfold step; rw [h.next]; rfl
  unfold readHdist at h0
  have hs' : ¬ lastD s.wide < a := by rw [h.bd.ew]; exact hs
  rw [if_neg (by rw [h.bd.len]; exact hl'), h.bd.at_, h.bd.eb, ha, if_neg hs'] at h0
  exact ⟨_, .one h0, h.bd.to rfl rfl rfl rfl rfl rfl rfl rfl, rfl, h.final, h.ehl, rfl, h.lens⟩
theorem hclen_short (h : St6 l p out wide S most fin hl hd s) (hs : 8 * l.length - p < 4) : Bad s := by
  have h0 : step s = readHclen s := by unfold step; rw [h.next]; rfl
  unfold readHclen at h0
  rw [if_pos (by rw [h.bd.len]; exact hs)] at h0
  exact .now h0 (lack_ne s)
theorem hclen_ok (h : St6 l p out wide S most fin hl hd s) {a : Nat} (ha : num (((bitsOf l).drop p).take 4) = a) (hl' : ¬ 8 * l.length - p < 4) : ∃ s', Steps s s' ∧ St7 l (p + 4) out wide S most fin hl hd (4 + a) [] s' := by
  have h0 : step s = readHclen s := by unfold step; rw [h.next]; rfl
  unfold readHclen at h0
  rw [if_neg (by rw [h.bd.len]; exact hl'), h.bd.at_, h.bd.eb, ha] at h0
  exact ⟨_, .one h0, h.bd.to rfl rfl rfl rfl rfl rfl rfl rfl, rfl, h.final, h.ehl, h.ehd, rfl, h.lens⟩

theorem St7.step_ (h : St7 l p out wide S most fin hl hd hc L s) : step s = readCodeLengths s := by unfold step; rw [h.next]; rfl
theorem cl_short (h : St7 l p out wide S most fin hl hd hc L s) (hk : L.length < hc) (hs : 8 * l.length - p < 3) : Bad s := by
  have h0 := h.step_
  unfold readCodeLengths at h0
  rw [if_pos (by rw [h.lens, h.ehc]; exact hk), if_pos (by rw [h.bd.len]; exact hs)] at h0
  exact .now h0 (lack_ne s)
theorem cl_one (h : St7 l p out wide S most fin hl hd hc L s) (hk : L.length < hc) (hs : ¬ 8 * l.length - p < 3) : ∃ s', Steps s s' ∧ St7 l (p + 3) out wide S most fin hl hd hc (L ++ [num (((bitsOf l).drop p).take 3)]) s' := by
  have h0 := h.step_
  unfold readCodeLengths at h0
  rw [if_pos (by rw [h.lens, h.ehc]; exact hk), if_neg (by rw [h.bd.len]; exact hs), h.bd.at_, h.bd.eb] at h0
  exact ⟨_, .one h0, h.bd.to rfl rfl rfl rfl rfl rfl rfl rfl, h.next, h.final, h.ehl, h.ehd, h.ehc, by show s.lens ++ _ = _; rw [h.lens]⟩
theorem cl_bad (h : St7 l p out wide S most fin hl hd hc L s) (hk : ¬ L.length < hc) (hb : kd (scat L L.length) ≠ 1) : Bad s := by
  have h0 := h.step_
  unfold readCodeLengths at h0
  rw [if_neg (by rw [h.lens, h.ehc]; exact hk), if_pos (by rw [h.lens]; exact hb)] at h0
  exact .now h0 (by decide)
theorem cl_ok (h : St7 l p out wide S most fin hl hd hc L s) (hk : ¬ L.length < hc) (hb : kd (scat L L.length) = 1) : ∃ s', Steps s s' ∧ St8 l p out wide S most fin hl hd (scat L L.length) [] s' := by
  have h0 := h.step_
  unfold readCodeLengths at h0
  rw [if_neg (by rw [h.lens, h.ehc]; exact hk), if_neg (by rw [h.lens]; simpa using hb)] at h0
  exact ⟨_, .one h0, h.bd.to h.bd.eb rfl rfl rfl rfl rfl rfl rfl, rfl, h.final, h.ehl, h.ehd, by simp only; rw [h.lens], rfl⟩
theorem scat_more (L : List Nat) (n : Nat) : ∀ i, i ≤ L.length → scat (L ++ [n]) i = scat L i
  | 0, _ => rfl
  | i + 1, h => by
    unfold scat
    rw [scat_more L n i (by omega)]
    congr 1
    rw [List.getD_eq_getElem?_getD, List.getD_eq_getElem?_getD, List.getElem?_append_left (by omega)]
theorem scat_one (L : List Nat) (n : Nat) : scat (L ++ [n]) (L ++ [n]).length = (scat L L.length).set (order.getD L.length 0) n := by
  rw [List.length_append, List.length_singleton]
  show (scat (L ++ [n]) L.length).set _ _ = _
  rw [scat_more L n L.length (Nat.le_refl _)]
  congr 1
  rw [List.getD_eq_getElem?_getD, List.getElem?_append_right (Nat.le_refl _), Nat.sub_self]
  rfl

theorem St8.step_ (h : St8 l p out wide S most fin hl hd cl L s) : step s = readLengths s := by unfold step; rw [h.next]; rfl
theorem le_err (h : St8 l p out wide S most fin hl hd cl L s) (hk : L.length < hl + hd) (he : (sym cl ((bitsOf l).drop p)).2.2 ≠ 0) : Bad s := by
  have h0 := h.step_
  unfold readLengths at h0
  rw [if_pos (by rw [h.lens, h.ehl, h.ehd]; exact hk), h.code] at h0
  unfold readLength at h0
  simp only [Option.getD_some] at h0
  rw [h.bd.eb, if_pos he] at h0
  exact .now h0 (bad_ne _ _ he)
variable {v n : Nat}
theorem le_sym (h : St8 l p out wide S most fin hl hd cl L s) (hk : L.length < hl + hd) (he : sym cl ((bitsOf l).drop p) = (v, n, 0)) : step s = readLen s v n := by
  have h0 := h.step_
  unfold readLengths at h0
  rw [if_pos (by rw [h.lens, h.ehl, h.ehd]; exact hk), h.code] at h0
  unfold readLength at h0
  simp only [Option.getD_some] at h0
  rw [h.bd.eb, he] at h0
  simpa using h0
theorem le_none (h : St8 l p out wide S most fin hl hd cl L s) (hk : L.length < hl + hd) (he : sym cl ((bitsOf l).drop p) = (v, n, 0)) (hv : v = 16) (hL : L = []) : Bad s := by
  have h0 := le_sym h hk he
  unfold readLen at h0
  rw [if_pos ⟨hv, by rw [h.lens]; exact hL⟩] at h0
  exact .now h0 (by decide)
theorem le_short (h : St8 l p out wide S most fin hl hd cl L s) (hk : L.length < hl + hd) (he : sym cl ((bitsOf l).drop p) = (v, n, 0)) (hs : 8 * l.length - p < n + extra v) : Bad s := by
  by_cases hn : v = 16 ∧ L = []
  · exact le_none h hk he hn.1 hn.2
  · have h0 := le_sym h hk he
    unfold readLen at h0
    rw [if_neg (by rw [h.lens]; exact hn), if_pos (by rw [h.bd.len]; exact hs)] at h0
    exact .now h0 (lack_ne s)
theorem le_over (h : St8 l p out wide S most fin hl hd cl L s) (hk : L.length < hl + hd) (he : sym cl ((bitsOf l).drop p) = (v, n, 0)) (hs : hl + hd < L.length + (least v + num (((bitsOf l).drop (p + n)).take (extra v)))) : Bad s := by
  by_cases hn : v = 16 ∧ L = []
  · exact le_none h hk he hn.1 hn.2
  · by_cases hs' : 8 * l.length - p < n + extra v
    · exact le_short h hk he hs'
    · have h0 := le_sym h hk he
      unfold readLen at h0
      rw [if_neg (by rw [h.lens]; exact hn), if_neg (by rw [h.bd.len]; exact hs'), if_pos (by rw [h.ehl, h.ehd, h.lens, h.bd.at_]; exact hs)] at h0
      exact .now h0 (by decide)
theorem le_ok (h : St8 l p out wide S most fin hl hd cl L s) (hk : L.length < hl + hd) (he : sym cl ((bitsOf l).drop p) = (v, n, 0)) (hn : ¬ (v = 16 ∧ L = [])) (hs : ¬ 8 * l.length - p < n + extra v) (ho : ¬ hl + hd < L.length + (least v + num (((bitsOf l).drop (p + n)).take (extra v)))) :
    ∃ s', Steps s s' ∧ St8 l (p + n + extra v) out wide S most fin hl hd cl (L ++ List.replicate (least v + num (((bitsOf l).drop (p + n)).take (extra v))) (length_ v L)) s' := by
  have h0 := le_sym h hk he
  unfold readLen at h0
  rw [if_neg (by rw [h.lens]; exact hn), if_neg (by rw [h.bd.len]; exact hs), if_neg (by rw [h.ehl, h.ehd, h.lens, h.bd.at_]; exact ho), h.bd.at_, h.bd.at_] at h0
  exact ⟨_, .one h0, h.bd.to (by simp only; rw [Nat.add_assoc]) rfl rfl rfl rfl rfl rfl rfl, h.next, h.final, h.ehl, h.ehd, h.code, by simp only; rw [h.lens]⟩
theorem le_bad (h : St8 l p out wide S most fin hl hd cl L s) (hk : ¬ L.length < hl + hd) (hg : goodCodes (L.take hl) (L.drop hl) = false) : Bad s := by
  have h0 := h.step_
  unfold readLengths at h0
  rw [if_neg (by rw [h.lens, h.ehl, h.ehd]; exact hk), if_pos (by rw [h.lens, h.ehl]; exact hg)] at h0
  exact .now h0 (by decide)
theorem le_end (h : St8 l p out wide S most fin hl hd cl L s) (hk : ¬ L.length < hl + hd) (hg : goodCodes (L.take hl) (L.drop hl) = true) : ∃ s', Steps s s' ∧ St9 l p out wide S most (L.take hl) (L.drop hl) fin s' := by
  have h0 := h.step_
  unfold readLengths at h0
  rw [if_neg (by rw [h.lens, h.ehl, h.ehd]; exact hk), if_neg (by rw [h.lens, h.ehl, hg]; decide)] at h0
  exact ⟨_, .one h0, h.bd.to h.bd.eb rfl rfl rfl rfl rfl rfl rfl, rfl, by simp only; rw [h.lens, h.ehl], by simp only; rw [h.lens, h.ehl], h.final⟩
end
end InfMath
end
