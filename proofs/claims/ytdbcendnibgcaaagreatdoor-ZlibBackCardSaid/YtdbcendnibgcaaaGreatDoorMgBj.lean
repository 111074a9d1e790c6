import Derived.Test.YtdbcendnibgcaaaGreatDoorMgBh
import Derived.Test.YtdbcendnibgcaaaGreatDoorMgAm
import Derived.Deep.DeepCutAuto
import Derived.Deep.CutBlock
import Derived.Test.YtdbcendnibgcaaaGreatDoorMgBi

section
/-
  What was put out already does not matter.
-/
namespace InfMath
open BitMath CanMath TabMath WinMath

/-- The same, behind this output. -/
abbrev re (p : List UInt8) (s : M) : M := { s with out := p ++ s.out }
def reR (p : List UInt8) : Res → Res
  | .more s => .more (re p s)
  | .halt c => .halt c
theorem reR_ite (p : List UInt8) (c : Prop) [Decidable c] (a b : Res) : reR p (if c then a else b) = if c then reR p a else reR p b := by split <;> rfl
section
variable (p : List UInt8) (s : M)
theorem re_len (v n : Nat) : readLen (re p s) v n = reR p (readLen s v n) := by
  unfold readLen
  simp only [reR_ite]
  rfl
theorem re_lit (v n : Nat) : readLit (re p s) v n = reR p (readLit s v n) := by
  unfold readLit
  simp only [reR_ite]
  split
  · split
    · rfl
    · simp only [reR, put, re, List.append_assoc]
  · split
    · rfl
    · cases h : base v s.wide with
      | none => rfl
      | some q => simp only [reR_ite]; rfl
theorem re_dist (v n : Nat) : readDist (re p s) v n = reR p (readDist s v n) := by
  unfold readDist
  cases h : far v s.wide with
  | none => rfl
  | some q =>
    simp only [re, reR_ite, copied]
    split
    · rfl
    · split
      · rfl
      · simp only [reR, re, List.append_assoc]
theorem step_re : step (re p s) = reR p (step s) := by
  unfold step
  split
  · rename_i h
    rw [show s.next = 1 from h]
    unfold opening; simp only [reR_ite]; rfl
  · rename_i h
    rw [show s.next = 2 from h]
    unfold readSize; simp only [reR_ite]; rfl
  · rename_i h
    rw [show s.next = 3 from h]
    unfold readBytes; simp only [reR_ite]
    split
    · rfl
    · split
      · rfl
      · split
        · rfl
        · simp only [reR, put, re, List.append_assoc]
  · rename_i h
    rw [show s.next = 4 from h]
    unfold readHlit; simp only [reR_ite]; rfl
  · rename_i h
    rw [show s.next = 5 from h]
    unfold readHdist; simp only [reR_ite]; rfl
  · rename_i h
    rw [show s.next = 6 from h]
    unfold readHclen; simp only [reR_ite]; rfl
  · rename_i h
    rw [show s.next = 7 from h]
    unfold readCodeLengths; simp only [reR_ite]; rfl
  · rename_i h
    rw [show s.next = 8 from h]
    unfold readLengths readLength; simp only [reR_ite, re_len]; rfl
  · rename_i h
    rw [show s.next = 9 from h]
    unfold readLiteral; simp only [reR_ite, re_lit]; rfl
  · rename_i h
    rw [show s.next = 10 from h]
    unfold readDistance; simp only [reR_ite, re_dist]; rfl
  · rfl
theorem steps_re {s t : M} (h : Steps s t) : Steps (re p s) (re p t) := by
  induction h with
  | refl s => exact .refl _
  | cons h k ih => exact .cons (by rw [step_re, h]; rfl) ih
theorem ends_re {s t : M} {c : Nat} (h : Ends s t c) : Ends (re p s) (re p t) c := ⟨steps_re p h.1, by rw [step_re, h.2]; rfl⟩
/-- Without what was put out. -/
abbrev bare (s : M) : M := { s with out := [] }
theorem re_bare : re s.out (bare s) = s := by simp [re]
theorem bare_re (q : List UInt8) : bare (re q s) = bare s := rfl
theorem step_bare {s : M} {c : Nat} (h : step s = .halt c) : step (bare s) = .halt c := by
  have := step_re s.out (bare s)
  rw [re_bare, h] at this
  cases hq : step (bare s) with
  | more m => rw [hq] at this; cases this
  | halt d => rw [hq] at this; cases this; rfl
end
end InfMath
end

section
namespace Go.Proofs.YtdbcendnibgcaaaGreatDoor.FeedC
open Go.RowKit Go.My BitMath RefC

/-! ### no bytes at all, wherever they lie -/
theorem push_q0 (B q n : Nat) (ps : List Pc) (w : World) (h : QAt B w q ps n) (a : Option Addr) (cap : Nat) (hn : n ≤ 100000000000) :
    Calls Tryz.prog 71 #[.pointer (some ⟨q, 0, none⟩), .slice a 0 cap] w fun e w' => e = .returned (.tuple #[]) ∧ QAt B w' q ps n ∧ Only (fun k => k = q) w w' := by
  have hq2 := h.blk.cell 2
  have hf2 := h.blk.frozen 2
  simp only [List.getElem?_toArray, List.getElem?_cons_zero, List.getElem?_cons_succ] at hq2
  have hO : Only (fun k => k = q) w (w.setCell ⟨q, 2, none⟩ (.int .i64 (n : Int))) := (Only.refl (fun k => k = q) w).setCell (p := ⟨q, 2, none⟩) (fun _ => rfl) _
  have hQ : QAt B (w.setCell ⟨q, 2, none⟩ (.int .i64 (n : Int))) q ps n := ⟨h.blk.set_ 2 _, Chain.only hO h.chain (fun k hk e => h.far (e ▸ hk)), h.apart, h.full, h.base⟩
  have HO := Lib.hid hO
  have HQ := Lib.hid hQ
  clear h hO hQ
  go_enter Tryz.func71, Tryz.ntmps71
  go_wp2_with fail
  generalize w.setCell ⟨q, 2, none⟩ (.int .i64 (n : Int)) = w1 at *
  clear hq2 hf2
  go_loopw [1] (fun sb wr => sb = .slice a 0 cap ∧ w1 = wr) (fun _ _ => 0)
  case atStart => exact ⟨rfl, rfl⟩
  case round =>
    obtain ⟨rfl, rfl⟩ := hrel
    go_wp2_with fail
    go_end0
    exact ⟨rfl, HQ.out, HO.out⟩

set_option maxRecDepth 100000 in
set_option maxHeartbeats 2000000 in
theorem push_zero (B f pushed : Nat) (F : Nat → Prop) (bs : List Bool) (w : World) (h : Fed B w f F bs pushed false) (a : Option Addr) (cap : Nat) (hl : bs.length ≤ 1000000000) (hp : pushed ≤ 1000000000) :
    Calls Tryz.prog 55 #[.pointer (some ⟨f, 0, none⟩), .slice a 0 cap] w fun e w' => e = .returned (.tuple #[]) ∧ Done B f F w bs pushed false w' := by
  obtain ⟨q, ps, word, count, h1, h2, h3, rfl⟩ := h
  have hc4 := h1.blk.cell 4
  have hc2 := h1.blk.cell 2
  have hc3 := h1.blk.cell 3
  have hf3 := h1.blk.frozen 3
  simp only [List.getElem?_toArray, List.getElem?_cons_zero, List.getElem?_cons_succ] at hc2 hc3 hc4
  have hO : Only (fun k => k = f) w (w.setCell ⟨f, 3, none⟩ (.int .i64 (pushed : Int))) := (Only.refl (fun k => k = f) w).setCell (p := ⟨f, 3, none⟩) (fun _ => rfl) _
  have hA : FAt B (w.setCell ⟨f, 3, none⟩ (.int .i64 (pushed : Int))) f q ps word count pushed false :=
    ⟨h1.blk.set_ 3 _, h1.que.only hO (fun e => h1.far (Or.inl e.symm)) (fun k hk e => h1.far (Or.inr (e ▸ hk))), h1.base, h1.small, h1.most⟩
  have hbl : bs.length = count + 8 * (cat ps).length := by rw [h3, bits_len]
  have HPU := Lib.hid (push_q0 B q (cat ps).length ps _ hA.que a cap (by omega))
  have HA := Lib.hid hA
  have HO : Hid (Only (FFoot f q ps) w (w.setCell ⟨f, 3, none⟩ (.int .i64 (pushed : Int)))) := Lib.hid (hO.mono (fun k _ e => .inl e))
  have H3 := Lib.hid h3
  clear h1 h2 h3 hO hA
  go_enter Tryz.func55, Tryz.ntmps55
  go_wp2_with fail
  refine HPU.out.mono ?_
  rintro e w2 ⟨rfl, hq2, ho2⟩
  have hA2 : FAt B w2 f q ps word count pushed false := ⟨ho2.blk HA.out.blk (fun e => HA.out.far (Or.inl e)), hq2, HA.out.base, HA.out.small, HA.out.most⟩
  have HA2 := Lib.hid hA2
  have HO2 := Lib.hid ho2
  clear hA2 ho2 hq2 HPU
  go_wp2_with fail
  refine (fill_any B f q ps word count pushed false w2 HA2.out (by omega)).mono ?_
  rintro e w3 ⟨rfl, ps3, word3, count3, hF, h32⟩
  have HF := Lib.hid hF
  have H32 := Lib.hid h32
  clear hF h32
  go_wp2_with fail
  go_end0
  have hO2 : Only (FFoot f q ps) w w2 := HO.out.trans HO2.out (fun i _ e => .inr (.inl e))
  refine ⟨rfl, FFoot f q ps3, ⟨q, ps3, word3, count3, HF.out.at_, H32.out, by rw [HF.out.eq, H3.out], rfl⟩, hO2.trans HF.out.only (fun i hi e => e), fun k hk => ?_⟩
  rcases hk with e | e
  · exact .inl (.inl e)
  · exact .inl (.inr (HF.out.sub k e))

theorem push_in (B f pushed : Nat) (F : Nat → Prop) (bs : List Bool) (w0 w : World) (h : Fed B w f F bs pushed false) (hB : w0.heap.size ≤ B) (hb0 : Below w0.heap.size w0 w) (a : Option Addr) (len cap : Nat) (l : List UInt8) (hb : Bytes w0 a len cap l)
    (hl : bs.length ≤ 1000000000) (hp : pushed ≤ 1000000000) (hlen : len ≤ 1000000000) :
    Calls Tryz.prog 55 #[.pointer (some ⟨f, 0, none⟩), .slice a len cap] w fun e w' => e = .returned (.tuple #[]) ∧ Done B f F w (bs ++ bitsOf l) (pushed + len) false w' := by
  rcases hb.at_ with h0 | ⟨b, off, ha, hs, hc⟩
  · subst h0
    have : l = [] := List.length_eq_zero_iff.1 hb.len_eq
    subst this
    rw [bitsOf_nil, List.append_nil]
    exact push_zero B f pushed F bs w h a cap hl hp
  · exact push_open B f pushed F bs w h a len cap l (hb.below (Nat.le_refl _) hb0) (fun b' off' e hF => by
      rw [ha] at e; cases e
      have := (h.lt b hF).1; omega) hl hp hlen

end Go.Proofs.YtdbcendnibgcaaaGreatDoor.FeedC
end

section
/-
  New that fails; All.
-/
namespace Go.Proofs.YtdbcendnibgcaaaGreatDoor.InfC
open Go.RowKit Go.My BitMath CanMath TabMath WinMath FeedC TabC CanC
open WinC (Wn)
open InfMath (M Ok CodeOk mu lack fixL fixD bare shut)

theorem ok_open {wide : Bool} {S most p : Nat} {bs : List Bool} (h1 : 0 < S) (h2 : S ≤ 65536) (h3 : most ≤ 1073741824) (h4 : p ≤ 100000000) (h5 : bs.length ≤ 8 * p) :
    Ok { InfMath.start wide S most with bits := bs, pushed := p } := by
  unfold InfMath.start
  refine ⟨rfl, h1, h2, h3, Nat.zero_le _, Nat.le_refl _, h4, h5, ?_, ?_, ?_, ?_, ?_, ?_, ?_, ?_, ?_, ?_, ?_, ?_⟩ <;> simp
theorem ok_bare {t : M} (h : Ok t) (e : Bool) : Ok { t with out := [], ended := e } := by
  obtain ⟨h1, h2, h3, h4, h5, h6, h7, h8, h9, h10, h11, h12, h13, h14, h15, h16, h17, h18, h19, h20⟩ := h
  exact ⟨h1, h2, h3, h4, h5, Nat.zero_le _, h7, h8, h9, h10, h11, h12, h13, h14, h15, h16, h17, h18, h19, h20⟩
theorem Ordr.below {B : Nat} {w w' : World} (h : Ordr B w) (hB : B ≤ w.heap.size) (hb : Below w.heap.size w w') : Ordr B w' := h.mv (c := fun _ => 0) (c' := fun _ => 0) (fun _ _ => rfl) hB (Mv.of_below hb _)

theorem inf_new_bad (wide : Bool) (n most : Int) (w : World) (h : (n < 1 ∨ 65536 < n) ∨ (most < 0 ∨ 1073741824 < most)) :
    Calls Tryz.prog 37 #[.bool wide, .int .i64 n, .int .i64 most] w fun e w' => e = .returned (.tuple #[.pointer none, .int .i64 7]) ∧ Below w.heap.size w w' := by
  by_cases h1 : n < 1 ∨ 65536 < n
  · have HQ := Lib.hid (WinC.new_bad n w h1)
    clear h h1
    go_enter Tryz.func37, Tryz.ntmps37
    go_wp2_with fail
    refine HQ.out.mono ?_
    rintro e w1 ⟨rfl, rfl⟩
    go_wp2_with fail
    go_ret2
    exact ⟨rfl, Below.refl _ _⟩
  · obtain ⟨S, rfl⟩ : ∃ S : Nat, n = (S : Int) := ⟨n.toNat, by omega⟩
    have HQ := Lib.hid (WinC.new_ok S w (by omega) (by omega))
    have hm : most < 0 ∨ 1073741824 < most := by omega
    clear h h1
    by_cases h2 : most < 0
    · go_enter Tryz.func37, Tryz.ntmps37
      go_wp2_with fail
      refine HQ.out.mono ?_
      rintro e w1 ⟨rfl, hw, hb⟩
      have HB := Lib.hid hb
      clear hw hb
      go_wp2_with fail
      go_ret2
      exact ⟨rfl, HB.out⟩
    · have h3 : 1073741824 < most := by omega
      clear hm
      go_enter Tryz.func37, Tryz.ntmps37
      go_wp2_with fail
      refine HQ.out.mono ?_
      rintro e w1 ⟨rfl, hw, hb⟩
      have HB := Lib.hid hb
      clear hw hb
      go_wp2_with fail
      go_ret2
      exact ⟨rfl, HB.out⟩

/-- The machine before a stream. -/
abbrev began (wide : Bool) (S most : Nat) (l : List UInt8) : M := { InfMath.start wide S most with bits := bitsOf l, pushed := l.length }
/-- What All answers. -/
def Answer (B : Nat) (t : M) (c : Nat) (e : Ending) (w' : World) : Prop :=
  (c = 0 ∧ ∃ oa oc, e = .returned (.tuple #[.slice oa t.out.length oc, .int .i64 ((t.pushed - t.bits.length / 8 : Nat) : Int), .int .i64 0]) ∧ Own 5 B w' (.slice oa t.out.length oc) t.out) ∨
  (c ≠ 0 ∧ e = .returned (.tuple #[.slice none 0 0, .int .i64 0, .int .i64 ((if c = 5 then 2 else c : Nat) : Int)]))
/-- The first piece of a new Inflate. -/
theorem first_push {B x : Nat} {w0 w : World} {d : Ad} {wide : Bool} {S most : Nat} (a : Option Addr) (len cap : Nat) (l : List UInt8) (hb : Bytes w0 a len cap l) (hl : len ≤ 100000000) (h1 : 0 < S) (h2 : S ≤ 65536) (h3 : most ≤ 1073741824)
    (hB : w0.heap.size ≤ B) (hw : Below w0.heap.size w0 w) (h : At B w x (InfMath.start wide S most) d) (hc4 : ∀ k, d.c k ≠ 4) (hO : Ordr B w) :
    Calls Tryz.prog 38 #[.pointer (some ⟨x, 0, none⟩), .slice a len cap] w fun e w' =>
      ∃ t c, InfMath.Ends (began wide S most l) t c ∧ Out B x w d.c t c e w' := by
  have hlen := hb.len_eq
  have e1 : { InfMath.start wide S most with bits := (InfMath.start wide S most).bits ++ bitsOf l, pushed := (InfMath.start wide S most).pushed + len, ended := false } = began wide S most l := by
    unfold began InfMath.start
    rw [hlen]
    simp
  have hk := ok_open (wide := wide) (S := S) (most := most) (p := l.length) (bs := bitsOf l) h1 h2 h3 (by omega) (by rw [bitsOf_len]; exact Nat.le_refl _)
  have h0 := ok_open (wide := wide) (S := S) (most := most) (p := 0) (bs := []) h1 h2 h3 (by omega) (by simp)
  have hs : w0.heap.size ≤ w.heap.size := hw.size
  have := push_any (Lib.hid h) (.slice a len cap) (bitsOf l) len h0 (by rw [e1]; exact hk) (fun e => by cases e) hO (fun e => by cases e) hc4 (fun W hW => push_in B d.f _ d.F _ w0 W (h.rs.feed.1.below hW) hB (hw.trans (hW.mono hs)) a len cap l hb (by simp [InfMath.start]) (by simp [InfMath.start]) (by omega))
  rw [e1] at this
  exact this
set_option maxRecDepth 100000 in
set_option maxHeartbeats 2000000 in
theorem all_any (wide : Bool) (S most : Nat) (a : Option Addr) (len cap : Nat) (l : List UInt8) (w : World) (hb : Bytes w a len cap l) (hl : len ≤ 100000000) (h1 : 0 < S) (h2 : S ≤ 65536) (h3 : most ≤ 1073741824) (hO : Ordr w.heap.size w) :
    Calls Tryz.prog 24 #[.slice a len cap, .bool wide, .int .i64 (S : Int), .int .i64 (most : Int)] w fun e w' =>
      Below w.heap.size w w' ∧ ∃ t c, InfMath.Ends (began wide S most l) t c ∧ Answer w.heap.size t c e w' := by
  have HQ := Lib.hid (inf_new_ok wide S most w h1 h2 h3)
  have HI := Lib.hid (And.intro hb (And.intro hl (And.intro h1 (And.intro h2 (And.intro h3 hO)))))
  clear hb hl h1 h2 h3 hO
  go_enter Tryz.func24, Tryz.ntmps24
  go_wp2_with fail
  refine HQ.out.mono ?_
  rintro e w1 ⟨x, d, rfl, hA, hbl, hc4⟩
  have HA := Lib.hid (And.intro hA (And.intro hbl hc4))
  clear hA hbl hc4 HQ
  go_wp2_with fail
  refine (first_push a len cap l HI.out.1 HI.out.2.1 HI.out.2.2.1 HI.out.2.2.2.1 HI.out.2.2.2.2.1 (Nat.le_refl _) HA.out.2.1 HA.out.1 HA.out.2.2 (HI.out.2.2.2.2.2.below (Nat.le_refl _) HA.out.2.1)).mono ?_
  rintro e w2 ⟨t, c, hends, oa, oc, rfl, hown, h5, hn⟩
  have HE := Lib.hid hends
  have HOw := Lib.hid hown
  have hlow : ∀ k, d.c k ≠ 0 → w.heap.size ≤ k := fun k hk => by
    by_cases hlt : k < w.heap.size
    · exact absurd (HA.out.1.rs.low k hlt) hk
    · omega
  by_cases hc : c = 5
  · subst hc
    obtain ⟨d2, hA2, hM2, hc42, hcol2⟩ := h5 rfl
    have HA2 := Lib.hid (And.intro hA2 (And.intro hM2 hc42))
    have HB2 : Hid (Below w.heap.size w w2) := Lib.hid (HA.out.2.1.trans (hM2.only.below HA.out.2.1.size hlow))
    have hokt : Ok t := (ok_open (wide := wide) (S := S) (most := most) (p := l.length) (bs := bitsOf l) HI.out.2.2.1 HI.out.2.2.2.1 HI.out.2.2.2.2.1 (by have := HI.out.2.1; have := HI.out.1.len_eq; omega) (by rw [bitsOf_len]; exact Nat.le_refl _)).steps hends.1
    have hne : t.next ≠ 11 := fun e => by
      have := InfMath.over_halts e
      rw [hends.2] at this
      cases this
    have HQ := Lib.hid (end_ (Lib.hid hA2) (ok_bare hokt t.ended) (ok_bare hokt true) (fun e => rm_end (InfMath.step_bare hends.2) rfl e) (((HI.out.2.2.2.2.2.below (Nat.le_refl _) HA.out.2.1).mv HA.out.1.rs.low HA.out.1.rs.lt hM2)) hne hc42 (fun W hW => FeedC.end_any _ d2.f _ d2.F _ _ W (hA2.rs.feed.1.below hW)))
    have hlow2 : ∀ k, d2.c k ≠ 0 → w.heap.size ≤ k := fun k hk => by
      by_cases hlt : k < w.heap.size
      · exact absurd (hA2.rs.low k hlt) hk
      · omega
    have HL2 := Lib.hid hlow2
    clear hends hown h5 hn hlow hA2 hM2 hc42 hcol2 hokt hne hlow2
    go_wp2_with fail
    refine HQ.out.mono ?_
    rintro e w3 ⟨t3, c3, hends3, oa3, oc3, rfl, hown3, h53, hn3⟩
    have hsh : InfMath.step { t with out := [], ended := true } = .halt 2 := InfMath.step_bare (InfMath.shut_step HE.out.2)
    have h3c : c3 = 2 := (hends3.det ⟨.refl _, hsh⟩).2
    subst h3c
    have HB3 : Hid (Below w.heap.size w w3) := Lib.hid (HB2.out.trans ((hn3 (by decide)).2.below HB2.out.size HL2.out))
    clear hends3 hown3 h53 hn3 hsh HQ
    go_wp2_with fail
    go_ret3
    exact ⟨HB3.out, t, 5, HE.out, .inr ⟨by decide, rfl⟩⟩
  · obtain ⟨hk, hO2⟩ := hn hc
    have HB2 : Hid (Below w.heap.size w w2) := Lib.hid (HA.out.2.1.trans (hO2.below HA.out.2.1.size hlow))
    have HK := Lib.hid hk
    have HQ := Lib.hid (end_over HK)
    have HC := Lib.hid hc
    clear hends hown h5 hn hlow hk hO2 hc
    by_cases h0 : c = 0
    · subst h0
      go_wp2_with fail
      refine HQ.out.mono ?_
      rintro e w3 ⟨rfl, hb3⟩
      have HB3 := Lib.hid (HB2.out.trans (hb3.mono HB2.out.size))
      have HU := Lib.hid (inf_used (Lib.hid (HK.out.same (hb3.block x HK.out.lt))) (t.pushed - t.bits.length / 8) rfl)
      have HOw3 := Lib.hid ((Only.of_below hb3 (fun _ => False)).own HOw.out (fun _ _ h => h))
      clear hb3 HQ
      go_wp2_with fail
      refine HU.out.mono ?_
      rintro e w4 ⟨rfl, rfl⟩
      go_wp2_with fail
      go_ret3
      exact ⟨HB3.out, t, 0, HE.out, .inl ⟨rfl, oa, oc, rfl, HOw3.out⟩⟩
    · have hz : ((c : Int) != 0) = true := by simp; omega
      have HZ := Lib.hid h0
      clear h0
      go_wp2_with fail
      refine HQ.out.mono ?_
      rintro e w3 ⟨rfl, hb3⟩
      have HB3 := Lib.hid (HB2.out.trans (hb3.mono HB2.out.size))
      clear hb3 HQ
      go_wp2_with fail
      go_ret3
      exact ⟨HB3.out, t, c, HE.out, .inr ⟨HZ.out, by rw [if_neg HC.out]; rfl⟩⟩
theorem all_bad (wide : Bool) (n most : Int) (v : Value) (w : World) (h : (n < 1 ∨ 65536 < n) ∨ (most < 0 ∨ 1073741824 < most)) :
    Calls Tryz.prog 24 #[v, .bool wide, .int .i64 n, .int .i64 most] w fun e w' => e = .returned (.tuple #[.slice none 0 0, .int .i64 0, .int .i64 7]) ∧ Below w.heap.size w w' := by
  have HQ := Lib.hid (inf_new_bad wide n most w h)
  clear h
  go_enter Tryz.func24, Tryz.ntmps24
  go_wp2_with fail
  refine HQ.out.mono ?_
  rintro e w1 ⟨rfl, hb⟩
  have HB := Lib.hid hb
  clear hb HQ
  go_wp2_with fail
  go_ret3
  exact ⟨rfl, HB.out⟩
end Go.Proofs.YtdbcendnibgcaaaGreatDoor.InfC
end

section
/-
  told of law 12.
-/
namespace Go.Proofs.YtdbcendnibgcaaaGreatDoor.InfC
open Go.RowKit Go.My BitMath CanMath TabMath WinMath FeedC TabC CanC
open WinC (Wn)
open InfMath (M Ok CodeOk mu lack fixL fixD bare shut)

theorem conv_own {X : World} {B n c : Nat} {a : Option Addr} {l : List UInt8} (h : Own 5 B X (.slice a n c) l) : (convert 22 9 (.slice a n c)).run Tryz.prog X = .ok (.string ⟨l.toArray⟩) X := by
  obtain ⟨a', c', h1, h2⟩ := h.bytes
  simp only [Value.slice.injEq] at h1
  obtain ⟨rfl, rfl, rfl⟩ := h1
  exact run_string_bytes X 22 9 5 Tryz.underlying22 Tryz.underlying5 Tryz.underlying9 h2
theorem row_bytes (E : TypeId) (w : World) (l : List UInt8) (hl : l.length ≤ 1000) : Bytes (w.alloc (.cells (l.map fun c => Value.int .u8 (c.toNat : Int)).toArray E)) (some ⟨w.heap.size, 0, none⟩) l.length l.length l := by
  refine ⟨rfl, Nat.le_refl _, by omega, (fun h => by cases h), .inr ⟨w.heap.size, 0, rfl, by simp, ?_⟩⟩
  intro i hi
  rw [cell_of_row _ _ _ _ _ _ (heap_alloc_new w _)]
  simp [hi]
theorem ends_run {n c : Nat} {s : M} (h : (InfMath.run n s).2 = some c) : InfMath.Ends s (InfMath.run n s).1 c := InfMath.run_ends n s _ c (by rw [← h])
theorem Ordr.mono {B B' : Nat} {w : World} (h : Ordr B w) (hB : B ≤ B') : Ordr B' w := ⟨Nat.lt_of_lt_of_le h.lt hB, h.cell⟩
theorem Ordr.up {w w' : World} (h : Ordr w.heap.size w) (hb : Below w.heap.size w w') : Ordr w'.heap.size w' := (h.below (Nat.le_refl _) hb).mono hb.size
/-- All, where it is known how the machine ends. -/
theorem all_ok {wide : Bool} {S most : Nat} {a : Option Addr} {len cap : Nat} {l : List UInt8} {w : World} {t : M} (hb : Bytes w a len cap l) (hl : len ≤ 100000000) (h1 : 0 < S) (h2 : S ≤ 65536) (h3 : most ≤ 1073741824) (hO : Ordr w.heap.size w)
    (hE : InfMath.Ends (began wide S most l) t 0) :
    Calls Tryz.prog 24 #[.slice a len cap, .bool wide, .int .i64 (S : Int), .int .i64 (most : Int)] w fun e w' =>
      ∃ oa oc, e = .returned (.tuple #[.slice oa t.out.length oc, .int .i64 ((t.pushed - t.bits.length / 8 : Nat) : Int), .int .i64 0]) ∧ Hid (Own 5 w.heap.size w' (.slice oa t.out.length oc) t.out) ∧ Hid (Below w.heap.size w w') :=
  (all_any wide S most a len cap l w hb hl h1 h2 h3 hO).mono fun e w' ⟨hbl, t', c, he, ha⟩ => by
    obtain ⟨rfl, rfl⟩ := he.det hE
    rcases ha with ⟨-, oa, oc, h1, h2⟩ | ⟨h0, -⟩
    · exact ⟨oa, oc, h1, Lib.hid h2, Lib.hid hbl⟩
    · exact absurd rfl h0
theorem all_err {wide : Bool} {S most : Nat} {a : Option Addr} {len cap : Nat} {l : List UInt8} {w : World} {t : M} {c : Nat} (hb : Bytes w a len cap l) (hl : len ≤ 100000000) (h1 : 0 < S) (h2 : S ≤ 65536) (h3 : most ≤ 1073741824) (hO : Ordr w.heap.size w)
    (hE : InfMath.Ends (began wide S most l) t c) (hc : c ≠ 0) :
    Calls Tryz.prog 24 #[.slice a len cap, .bool wide, .int .i64 (S : Int), .int .i64 (most : Int)] w fun e w' =>
      e = .returned (.tuple #[.slice none 0 0, .int .i64 0, .int .i64 ((if c = 5 then 2 else c : Nat) : Int)]) ∧ Hid (Below w.heap.size w w') :=
  (all_any wide S most a len cap l w hb hl h1 h2 h3 hO).mono fun e w' ⟨hbl, t', c', he, ha⟩ => by
    obtain ⟨rfl, rfl⟩ := he.det hE
    rcases ha with ⟨h0, -⟩ | ⟨-, h1⟩
    · exact absurd h0 hc
    · exact ⟨h1, Lib.hid hbl⟩
theorem told_1 : ∃ t, InfMath.Ends (began false 32768 9 [1, 1, 0, 254, 255, 97]) t 0 ∧ t.out = [97] ∧ t.pushed - t.bits.length / 8 = 6 := ⟨_, ends_run (n := 20) (by decide +kernel), by decide +kernel, by decide +kernel⟩
theorem told_2 : ∃ t, InfMath.Ends (began false 32768 0 [3, 0]) t 0 ∧ t.out = [] ∧ t.pushed - t.bits.length / 8 = 2 := ⟨_, ends_run (n := 20) (by decide +kernel), by decide +kernel, by decide +kernel⟩
theorem told_3 : ∃ t, InfMath.Ends (began false 32768 9 [7]) t 2 := ⟨_, ends_run (n := 20) (by decide +kernel)⟩
end Go.Proofs.YtdbcendnibgcaaaGreatDoor.InfC
end
