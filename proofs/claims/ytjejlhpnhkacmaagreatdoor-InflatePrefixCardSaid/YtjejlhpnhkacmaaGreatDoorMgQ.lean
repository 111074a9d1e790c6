import Derived.Test.YtjejlhpnhkacmaaGreatDoorMgR
import Derived.Test.YtjejlhpnhkacmaaGreatDoorMgK

section
/-
  The document's X beside rows of ints of the call's own.
-/
namespace Go.Proofs.YtjejlhpnhkacmaaGreatDoor.RfC
open Go.RowKit Go.My BitMath CanMath TabMath CanC RefC

section
variable {w0 w w' : World} {g : Nat} {a : Option Addr} {len cap : Nat} {l : List UInt8} {p : Nat} {ov : Value} {out : List UInt8} {wide : Bool} {S most code : Nat} {R A : List (Nat × TypeId × Array Value)}
theorem XAt.less (h : XAt w0 w g a len cap l p ov out wide S most code R) (hA : ∀ x ∈ A, x ∈ R) : XAt w0 w g a len cap l p ov out wide S most code A :=
  ⟨h.blk, h.own, h.base, h.byt, h.below, h.lt, h.short, fun x hx => h.rows x (hA x hx)⟩
theorem XAt.more (h : XAt w0 w g a len cap l p ov out wide S most code R) (hA : ∀ x ∈ A, Blk w x.1 x.2.1 x.2.2 ∧ x.2.1 ≠ 58 ∧ x.2.1 ≠ 5) : XAt w0 w g a len cap l p ov out wide S most code (A ++ R) :=
  ⟨h.blk, h.own, h.base, h.byt, h.below, h.lt, h.short, fun x hx => (List.mem_append.1 hx).elim (hA x) (h.rows x)⟩
/-- What an own row is: blocks that stand. -/
theorem own_rows {E : TypeId} {B : Nat} {v : Value} {vs : List Value} (h : OwnV E B w v vs) : ∃ A : List (Nat × TypeId × Array Value), (∀ x ∈ A, Blk w x.1 x.2.1 x.2.2 ∧ x.2.1 = E) ∧ ∀ w', (∀ x ∈ A, Blk w' x.1 x.2.1 x.2.2) → OwnV E B w' v vs := by
  rcases h.2 with hn | ⟨k, c, cur, h1, h2, h3, h4⟩
  · exact ⟨[], by simp, fun w' _ => ⟨h.1, .inl hn⟩⟩
  · refine ⟨[(k, E, cur)], ?_, fun w' hb => ⟨h.1, .inr ⟨k, c, cur, h1, h2, hb (k, E, cur) (by simp), h4⟩⟩⟩
    intro x hx
    obtain rfl : x = (k, E, cur) := by simpa using hx
    exact ⟨h3, rfl⟩
/-- get beside a row of ints of the call's own. -/
theorem get_own (n : Nat) (hn : n ≤ 16) (h : Hid (XAt w0 w g a len cap l p ov out wide S most code R)) {B : Nat} {v : Value} {vs : List Value} (ho : OwnV 3 B w v vs) :
    Calls Tryz.prog 21 #[.pointer (some ⟨g, 0, none⟩), .int .i64 (n : Int)] w fun e w' => Got w0 g a len cap l p ov out wide S most code n R e w' ∧ Hid (OwnV 3 B w' v vs) := by
  obtain ⟨A, hA, hown⟩ := own_rows ho
  have hx := h.out.more (A := A) (fun x hx => ⟨(hA x hx).1, by rw [(hA x hx).2]; decide, by rw [(hA x hx).2]; decide⟩)
  refine (get_any n hn (Lib.hid hx)).mono fun e w' hg => ?_
  have key : ∀ q, Hid (XAt w0 w' g a len cap l q ov out wide S most code (A ++ R)) → Hid (XAt w0 w' g a len cap l q ov out wide S most code R) ∧ Hid (OwnV 3 B w' v vs) := fun q hq =>
    ⟨Lib.hid (hq.out.less fun x hx => List.mem_append_right _ hx), Lib.hid (hown w' fun x hx => (hq.out.rows x (List.mem_append_left _ hx)).1)⟩
  rcases hg with ⟨h1, h2, h3⟩ | ⟨h1, h2, h3⟩
  · exact ⟨.inl ⟨h1, h2, (key _ h3).1⟩, (key _ h3).2⟩
  · exact ⟨.inr ⟨h1, h2, (key _ h3).1⟩, (key _ h3).2⟩
theorem ownV_ne {E : TypeId} {B : Nat} {v : Value} {vs : List Value} {k : Nat} {t : TypeId} {cs : Array Value} (ho : OwnV E B w v vs) (hb : Blk w k t cs) (ht : t ≠ E) : v.ownBlock ≠ some k := by
  rcases ho.2 with ⟨rfl, _⟩ | ⟨g', cap, cur, rfl, _, hgg, _⟩
  · simp [Value.ownBlock]
  · intro h
    simp only [Value.ownBlock, Option.some.injEq] at h
    subst h
    unfold Blk at hb
    rw [hgg] at hb
    injection hb with hb
    injection hb with _ hb
    exact ht hb.symm
/-- An append to a row of ints leaves X as it is. -/
theorem XAt.grown (h : XAt w0 w g a len cap l p ov out wide S most code R) {B : Nat} {v : Value} {vs : List Value} (ho : OwnV 3 B w v vs) (hB : w0.heap.size ≤ B) (hR : ∀ x ∈ R, x.2.1 ≠ 3) {o : Obj} (hg : (w.alloc o).grownBy w' v.ownBlock) : XAt w0 w' g a len cap l p ov out wide S most code R := by
  have hO : Only (fun k => v.ownBlock = some k) w w' := ((Only.refl _ w).alloc o).grown hg (fun k _ hk => hk)
  have hne := ownV_ne ho h.blk (by decide)
  refine ⟨hO.blk h.blk hne, hO.own h.own (fun k hk e => ?_), h.base, h.byt, h.below.trans (hO.below h.below.size (fun k hk => Nat.le_trans hB (ho.base k hk))), h.lt, h.short, fun x hx => ⟨hO.blk (h.rows x hx).1 (ownV_ne ho (h.rows x hx).1 (hR x hx)), (h.rows x hx).2⟩⟩
  rcases ho.2 with ⟨rfl, _⟩ | ⟨g', cap', cur, rfl, _, hgg, _⟩
  · cases e
  · simp only [Value.ownBlock, Option.some.injEq] at e
    subst e
    exact own_len_ne h.own (show Blk w g' 3 cur from hgg) (by decide) hk
/-- A cell of x turned: a row of ints stays. -/
theorem ownV_put {B : Nat} {v : Value} {vs : List Value} (h : XAt w0 w g a len cap l p ov out wide S most code R) (ho : OwnV 3 B w v vs) (i : Nat) (u : Value) : OwnV 3 B (w.setCell ⟨g, i, none⟩ u) v vs :=
  ho.only ((Only.refl (fun k => k = g) w).setCell (p := ⟨g, i, none⟩) (fun _ => rfl) u) (fun k hk e => ownV_ne ho h.blk (by decide) (by rw [hk, e]))
/-- The document's Kind. -/
theorem kind_row {ls : List Nat} {ar : Option Addr} {n c : Nat} (h : RowIn w ar n c ((zs ls).map iv)) (hall : ∀ x ∈ ls, x ≤ 15) (hl : ls.length ≤ 65536) :
    Calls Tryz.prog 35 #[.slice ar n c] w fun e w' => e = .returned (.int .i64 ((InfMath.kd ls : Nat) : Int)) ∧ w = w' := by
  have hg : CanC.Good (zs ls) := by
    refine ⟨by rw [zs_len]; exact hl, fun x hx => ?_⟩
    unfold zs at hx
    obtain ⟨n, hn, rfl⟩ := List.mem_map.1 hx
    have := hall n hn
    omega
  have := refkind_good h hg
  rw [nat_zs, InfC.kind_kd] at this
  exact this
end
end Go.Proofs.YtjejlhpnhkacmaaGreatDoor.RfC
end

section
/-
  inflate's machine over the head of a block with codes of its own, over the bits of bytes that are all there. No program, no dump.
-/
namespace InfMath
open BitMath CanMath TabMath WinMath

structure St7 (l : List UInt8) (p : Nat) (out : List UInt8) (wide : Bool) (S most : Nat) (fin : Bool) (hl hd hc : Nat) (L : List Nat) (s : M) : Prop where
  bd : Bd l p out wide S most s
  next : s.next = 7
  final : s.final = fin
  ehl : s.hl = hl
  ehd : s.hd = hd
  ehc : s.hc = hc
  lens : s.lens = L
structure St8 (l : List UInt8) (p : Nat) (out : List UInt8) (wide : Bool) (S most : Nat) (fin : Bool) (hl hd : Nat) (cl L : List Nat) (s : M) : Prop where
  bd : Bd l p out wide S most s
  next : s.next = 8
  final : s.final = fin
  ehl : s.hl = hl
  ehd : s.hd = hd
  code : s.hcode = some cl
  lens : s.lens = L
section
variable {l : List UInt8} {p : Nat} {out : List UInt8} {wide : Bool} {S most : Nat} {fin : Bool} {s : M} {hl hd hc : Nat} {cl L : List Nat}
theorem Bd.to (h : Bd l p out wide S most s) {t : M} {q : Nat} (e1 : t.bits = (bitsOf l).drop q) (e2 : t.hist = s.hist) (e3 : t.out = s.out) (e4 : t.total = s.total) (e5 : t.wide = s.wide) (e6 : t.size = s.size) (e7 : t.most = s.most) (e8 : t.pushed = s.pushed) : Bd l q out wide S most t :=
  ⟨e1, e2.trans h.eh, e3.trans h.eo, e4.trans h.et, e5.trans h.ew, e6.trans h.es, e7.trans h.em, e8.trans h.ep⟩
/-- HLIT. -/
theorem hlit_short (h : Stn 4 l p out wide S most fin s) (hs : 8 * l.length - p < 5) : Bad s := by
  have h0 : step s = readHlit s := by unfold step; rw [h.next]; rfl
  unfold readHlit at h0
  rw [if_pos (by rw [h.bd.len]; exact hs)] at h0
  exact .now h0 (lack_ne s)
theorem hlit_bad (h : Stn 4 l p out wide S most fin s) {a : Nat} (ha : num (((bitsOf l).drop p).take 5) = a) (hs : 29 < a) : Bad s := by
  by_cases hl : 8 * l.length - p < 5
  · exact hlit_short h hl
  · have h0 : step s = readHlit s := by unfold step; rw [h.next]; rfl
    unfold readHlit at h0
    rw [if_neg (by rw [h.bd.len]; exact hl), h.bd.eb, ha, if_pos hs] at h0
    exact .now h0 (by decide)
structure St5 (l : List UInt8) (p : Nat) (out : List UInt8) (wide : Bool) (S most : Nat) (fin : Bool) (hl : Nat) (s : M) : Prop where
  bd : Bd l p out wide S most s
  next : s.next = 5
  final : s.final = fin
  ehl : s.hl = hl
  lens : s.lens = []
theorem hlit_ok (h : Stn 4 l p out wide S most fin s) {a : Nat} (ha : num (((bitsOf l).drop p).take 5) = a) (hs : ¬ 29 < a) (hl : ¬ 8 * l.length - p < 5) : ∃ s', Steps s s' ∧ St5 l (p + 5) out wide S most fin (257 + a) s' := by
  have h0 : step s = readHlit s := by unfold step; rw [h.next]; rfl
  unfold readHlit at h0
  rw [if_neg (by rw [h.bd.len]; exact hl), h.bd.at_, h.bd.eb, ha, if_neg hs] at h0
  exact ⟨_, .one h0, h.bd.to rfl rfl rfl rfl rfl rfl rfl rfl, rfl, h.final, rfl, rfl⟩
structure St6 (l : List UInt8) (p : Nat) (out : List UInt8) (wide : Bool) (S most : Nat) (fin : Bool) (hl hd : Nat) (s : M) : Prop where
  bd : Bd l p out wide S most s
  next : s.next = 6
  final : s.final = fin
  ehl : s.hl = hl
  ehd : s.hd = hd
  lens : s.lens = []
theorem hdist_short (h : St5 l p out wide S most fin hl s) (hs : 8 * l.length - p < 5) : Bad s := by
  have h0 : step s = readHdist s := by unfold step; rw [h.next]; rfl
  unfold readHdist at h0
  rw [if_pos (by rw [h.bd.len]; exact hs)] at h0
  exact .now h0 (lack_ne s)
theorem hdist_bad (h : St5 l p out wide S most fin hl s) {a : Nat} (ha : num (((bitsOf l).drop p).take 5) = a) (hs : lastD wide < a) : Bad s := by
  by_cases hl' : 8 * l.length - p < 5
  · exact hdist_short h hl'
  · have h0 : step s = readHdist s := by unfold step; rw [h.next]; rfl
    unfold readHdist at h0
    rw [if_neg (by rw [h.bd.len]; exact hl'), h.bd.eb, ha, h.bd.ew, if_pos hs] at h0
    exact .now h0 (by decide)
theorem hdist_ok (h : St5 l p out wide S most fin hl s) {a : Nat} (ha : num (((bitsOf l).drop p).take 5) = a) (hs : ¬ lastD wide < a) (hl' : ¬ 8 * l.length - p < 5) : ∃ s', Steps s s' ∧ St6 l (p + 5) out wide S most fin hl (1 + a) s' := by
  have h0 : step s = readHdist s := by unfold step; rw [h.next]; rfl
  unfold readHdist at h0
  have hs' : ¬ lastD s.wide < a := by rw [h.bd.ew]; exact hs
  rw [if_neg (by rw [h.bd.len]; exact hl'), h.bd.at_, h.bd.eb, ha, if_neg hs'] at h0
  exact ⟨_, .one h0, h.bd.to rfl rfl rfl rfl rfl rfl rfl rfl, rfl, h.final, h.ehl, rfl, h.lens⟩
theorem hclen_short (h : St6 l p out wide S most fin hl hd s) (hs : 8 * l.length - p < 4) : Bad s := by
  have h0 : step s = readHclen s := by unfold step; rw [h.next]; rfl
  unfold readHclen at h0
  rw [if_pos (by rw [h.bd.len]; exact hs)] at h0
  exact .now h0 (lack_ne s)
theorem hclen_ok (h : St6 l p out wide S most fin hl hd s) {a : Nat} (ha : num (((bitsOf l).drop p).take 4) = a) (hl' : ¬ 8 * l.length - p < 4) : ∃ s', Steps s s' ∧ St7 l (p + 4) out wide S most fin hl hd (4 + a) [] s' := by
  have h0 : step s = readHclen s := by unfold step; rw [h.next]; rfl
  unfold readHclen at h0
  rw [if_neg (by rw [h.bd.len]; exact hl'), h.bd.at_, h.bd.eb, ha] at h0
  exact ⟨_, .one h0, h.bd.to rfl rfl rfl rfl rfl rfl rfl rfl, rfl, h.final, h.ehl, h.ehd, rfl, h.lens⟩

theorem St7.step_ (h : St7 l p out wide S most fin hl hd hc L s) : step s = readCodeLengths s := by unfold step; rw [h.next]; rfl
theorem cl_short (h : St7 l p out wide S most fin hl hd hc L s) (hk : L.length < hc) (hs : 8 * l.length - p < 3) : Bad s := by
  have h0 := h.step_
  unfold readCodeLengths at h0
  rw [if_pos (by rw [h.lens, h.ehc]; exact hk), if_pos (by rw [h.bd.len]; exact hs)] at h0
  exact .now h0 (lack_ne s)
theorem cl_one (h : St7 l p out wide S most fin hl hd hc L s) (hk : L.length < hc) (hs : ¬ 8 * l.length - p < 3) : ∃ s', Steps s s' ∧ St7 l (p + 3) out wide S most fin hl hd hc (L ++ [num (((bitsOf l).drop p).take 3)]) s' := by
  have h0 := h.step_
  unfold readCodeLengths at h0
  rw [if_pos (by rw [h.lens, h.ehc]; exact hk), if_neg (by rw [h.bd.len]; exact hs), h.bd.at_, h.bd.eb] at h0
  exact ⟨_, .one h0, h.bd.to rfl rfl rfl rfl rfl rfl rfl rfl, h.next, h.final, h.ehl, h.ehd, h.ehc, by show s.lens ++ _ = _; rw [h.lens]⟩
theorem cl_bad (h : St7 l p out wide S most fin hl hd hc L s) (hk : ¬ L.length < hc) (hb : kd (scat L L.length) ≠ 1) : Bad s := by
  have h0 := h.step_
  unfold readCodeLengths at h0
  rw [if_neg (by rw [h.lens, h.ehc]; exact hk), if_pos (by rw [h.lens]; exact hb)] at h0
  exact .now h0 (by decide)
theorem cl_ok (h : St7 l p out wide S most fin hl hd hc L s) (hk : ¬ L.length < hc) (hb : kd (scat L L.length) = 1) : ∃ s', Steps s s' ∧ St8 l p out wide S most fin hl hd (scat L L.length) [] s' := by
  have h0 := h.step_
  unfold readCodeLengths at h0
  rw [if_neg (by rw [h.lens, h.ehc]; exact hk), if_neg (by rw [h.lens]; simpa using hb)] at h0
  exact ⟨_, .one h0, h.bd.to h.bd.eb rfl rfl rfl rfl rfl rfl rfl, rfl, h.final, h.ehl, h.ehd, by simp only; rw [h.lens], rfl⟩
theorem scat_more (L : List Nat) (n : Nat) : ∀ i, i ≤ L.length → scat (L ++ [n]) i = scat L i
  | 0, _ => rfl
  | i + 1, h => by
    unfold scat
    rw [scat_more L n i (by omega)]
    congr 1
    rw [List.getD_eq_getElem?_getD, List.getD_eq_getElem?_getD, List.getElem?_append_left (by omega)]
theorem scat_one (L : List Nat) (n : Nat) : scat (L ++ [n]) (L ++ [n]).length = (scat L L.length).set (order.getD L.length 0) n := by
  rw [List.length_append, List.length_singleton]
  show (scat (L ++ [n]) L.length).set _ _ = _
  rw [scat_more L n L.length (Nat.le_refl _)]
  congr 1
  rw [List.getD_eq_getElem?_getD, List.getElem?_append_right (Nat.le_refl _), Nat.sub_self]
  rfl

theorem St8.step_ (h : St8 l p out wide S most fin hl hd cl L s) : step s = readLengths s := by unfold step; rw [h.next]; rfl
theorem le_err (h : St8 l p out wide S most fin hl hd cl L s) (hk : L.length < hl + hd) (he : (sym cl ((bitsOf l).drop p)).2.2 ≠ 0) : Bad s := by
  have h0 := h.step_
  unfold readLengths at h0
  rw [if_pos (by rw [h.lens, h.ehl, h.ehd]; exact hk), h.code] at h0
  unfold readLength at h0
  simp only [Option.getD_some] at h0
  rw [h.bd.eb, if_pos he] at h0
  exact .now h0 (bad_ne _ _ he)
variable {v n : Nat}
theorem le_sym (h : St8 l p out wide S most fin hl hd cl L s) (hk : L.length < hl + hd) (he : sym cl ((bitsOf l).drop p) = (v, n, 0)) : step s = readLen s v n := by
  have h0 := h.step_
  unfold readLengths at h0
  rw [if_pos (by rw [h.lens, h.ehl, h.ehd]; exact hk), h.code] at h0
  unfold readLength at h0
  simp only [Option.getD_some] at h0
  rw [h.bd.eb, he] at h0
  simpa using h0
theorem le_none (h : St8 l p out wide S most fin hl hd cl L s) (hk : L.length < hl + hd) (he : sym cl ((bitsOf l).drop p) = (v, n, 0)) (hv : v = 16) (hL : L = []) : Bad s := by
  have h0 := le_sym h hk he
  unfold readLen at h0
  rw [if_pos ⟨hv, by rw [h.lens]; exact hL⟩] at h0
  exact .now h0 (by decide)
theorem le_short (h : St8 l p out wide S most fin hl hd cl L s) (hk : L.length < hl + hd) (he : sym cl ((bitsOf l).drop p) = (v, n, 0)) (hs : 8 * l.length - p < n + extra v) : Bad s := by
  by_cases hn : v = 16 ∧ L = []
  · exact le_none h hk he hn.1 hn.2
  · have h0 := le_sym h hk he
    unfold readLen at h0
    rw [if_neg (by rw [h.lens]; exact hn), if_pos (by rw [h.bd.len]; exact hs)] at h0
    exact .now h0 (lack_ne s)
theorem le_over (h : St8 l p out wide S most fin hl hd cl L s) (hk : L.length < hl + hd) (he : sym cl ((bitsOf l).drop p) = (v, n, 0)) (hs : hl + hd < L.length + (least v + num (((bitsOf l).drop (p + n)).take (extra v)))) : Bad s := by
  by_cases hn : v = 16 ∧ L = []
  · exact le_none h hk he hn.1 hn.2
  · by_cases hs' : 8 * l.length - p < n + extra v
    · exact le_short h hk he hs'
    · have h0 := le_sym h hk he
      unfold readLen at h0
      rw [if_neg (by rw [h.lens]; exact hn), if_neg (by rw [h.bd.len]; exact hs'), if_pos (by rw [h.ehl, h.ehd, h.lens, h.bd.at_]; exact hs)] at h0
      exact .now h0 (by decide)
theorem le_ok (h : St8 l p out wide S most fin hl hd cl L s) (hk : L.length < hl + hd) (he : sym cl ((bitsOf l).drop p) = (v, n, 0)) (hn : ¬ (v = 16 ∧ L = [])) (hs : ¬ 8 * l.length - p < n + extra v) (ho : ¬ hl + hd < L.length + (least v + num (((bitsOf l).drop (p + n)).take (extra v)))) :
    ∃ s', Steps s s' ∧ St8 l (p + n + extra v) out wide S most fin hl hd cl (L ++ List.replicate (least v + num (((bitsOf l).drop (p + n)).take (extra v))) (length_ v L)) s' := by
  have h0 := le_sym h hk he
  unfold readLen at h0
  rw [if_neg (by rw [h.lens]; exact hn), if_neg (by rw [h.bd.len]; exact hs), if_neg (by rw [h.ehl, h.ehd, h.lens, h.bd.at_]; exact ho), h.bd.at_, h.bd.at_] at h0
  exact ⟨_, .one h0, h.bd.to (by simp only; rw [Nat.add_assoc]) rfl rfl rfl rfl rfl rfl rfl, h.next, h.final, h.ehl, h.ehd, h.code, by simp only; rw [h.lens]⟩
theorem le_bad (h : St8 l p out wide S most fin hl hd cl L s) (hk : ¬ L.length < hl + hd) (hg : goodCodes (L.take hl) (L.drop hl) = false) : Bad s := by
  have h0 := h.step_
  unfold readLengths at h0
  rw [if_neg (by rw [h.lens, h.ehl, h.ehd]; exact hk), if_pos (by rw [h.lens, h.ehl]; exact hg)] at h0
  exact .now h0 (by decide)
theorem le_end (h : St8 l p out wide S most fin hl hd cl L s) (hk : ¬ L.length < hl + hd) (hg : goodCodes (L.take hl) (L.drop hl) = true) : ∃ s', Steps s s' ∧ St9 l p out wide S most (L.take hl) (L.drop hl) fin s' := by
  have h0 := h.step_
  unfold readLengths at h0
  rw [if_neg (by rw [h.lens, h.ehl, h.ehd]; exact hk), if_neg (by rw [h.lens, h.ehl, hg]; decide)] at h0
  exact ⟨_, .one h0, h.bd.to h.bd.eb rfl rfl rfl rfl rfl rfl rfl, rfl, by simp only; rw [h.lens, h.ehl], by simp only; rw [h.lens, h.ehl], h.final⟩
end
end InfMath
end
