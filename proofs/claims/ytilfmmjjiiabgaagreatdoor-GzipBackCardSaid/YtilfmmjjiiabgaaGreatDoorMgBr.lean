import Derived.Test.YtilfmmjjiiabgaaGreatDoorMgBq
import Derived.Test.YtilfmmjjiiabgaaGreatDoorMgBn
import Derived.Test.YtilfmmjjiiabgaaGreatDoorMgBp

section
/-
  gzip's members, one behind another, as plain lists: what is read of them. No dump.
-/
namespace Go.Proofs.YtilfmmjjiiabgaaGreatDoor.GzC
open Go.RowKit Go.My GzMath CrcMath Flt InfC
open InfMath (M Ok)
open Go.My.NumMath (bytesOf bytesOf_len)

/-- The members of b from a place on, of which so many bytes came out already: these ones, then the end or an error. -/
def Goes (b : List UInt8) (most ratio : Nat) : Bool → Nat → Nat → List Mb → Option Nat → Prop
  | fst, at_, _, [], none => fst = false ∧ b.length ≤ at_
  | fst, at_, o, [], some c => (fst = true ∨ at_ < b.length) ∧ at_ ≤ b.length ∧ o ≤ most ∧ MemBad b (most - o) ratio at_ c
  | fst, at_, o, p :: R, x => (fst = true ∨ at_ < b.length) ∧ at_ ≤ b.length ∧ o ≤ most ∧ MemOk b (most - o) ratio at_ p ∧ Goes b most ratio false (p.from_ + p.used + 8) (o + p.data.length) R x

/-- A member that is to be read. -/
structure It where
  named : Bool
  name : List UInt8
  u : Nat
  S : List UInt8
  d : List UInt8
def It.hd (i : It) : List UInt8 := putH i.named i.name i.u
noncomputable def It.bytes (i : It) : List UInt8 := i.hd ++ (i.S ++ tailB i.d)
def It.mb (i : It) (at_ : Nat) : Mb := ⟨⟨i.named, i.name, i.u, i.hd.length⟩, at_ + i.hd.length, i.S.length, i.d⟩
structure It.Fine (i : It) : Prop where
  z : ∀ c ∈ i.name, c ≠ 0
  len : i.name.length ≤ 1000
  nm : i.named = false → i.name = []
  u : i.u ≤ 4294967295
  str : ∀ room, i.d.length ≤ room → room ≤ 1073741824 → Str room i.S i.d
  ovs : ∀ room, room < i.d.length → Ovs room i.S
  s0 : 0 < i.S.length
structure It.Good (i : It) (ratio : Nat) : Prop where
  fine : i.Fine
  over : ovr i.d.length i.S.length ratio = false
variable {ratio : Nat}
theorem It.rd {i : It} (h : i.Fine) (r : List UInt8) : rd (i.hd ++ r) = .ok ⟨i.named, i.name, i.u, i.hd.length⟩ := rd_put i.named i.name i.u r h.z h.len h.nm h.u
theorem It.len_eq (i : It) : i.bytes.length = i.hd.length + i.S.length + 8 := by
  unfold It.bytes; rw [List.length_append, List.length_append, tailB_len]; omega
/-- The stream, where its header stands ahead. -/
theorem It.ends {i : It} {room : Nat} {pre r : List UInt8} (hs : Str room i.S i.d) : ∃ t, InfMath.Ends (began false 32768 room (((pre ++ (i.hd ++ (i.S ++ r))).drop (pre.length + i.hd.length)).take (min 256 ((pre ++ (i.hd ++ (i.S ++ r))).length - (pre.length + i.hd.length))))) t 0 ∧ i.S.length = t.pushed - t.bits.length / 8 ∧ i.d = t.out := by
  have e1 : (pre ++ (i.hd ++ (i.S ++ r))).drop (pre.length + i.hd.length) = i.S ++ r := by rw [← List.drop_drop, List.drop_left, List.drop_left]
  have e2 : (pre ++ (i.hd ++ (i.S ++ r))).length - (pre.length + i.hd.length) = (i.S ++ r).length := by simp only [List.length_append]; omega
  rw [e1, e2]
  exact hs r
theorem It.ends3 {i : It} {room : Nat} {pre r : List UInt8} (hs : Ovs room i.S) : ∃ t, InfMath.Ends (began false 32768 room (((pre ++ (i.hd ++ (i.S ++ r))).drop (pre.length + i.hd.length)).take (min 256 ((pre ++ (i.hd ++ (i.S ++ r))).length - (pre.length + i.hd.length))))) t 3 := by
  have e1 : (pre ++ (i.hd ++ (i.S ++ r))).drop (pre.length + i.hd.length) = i.S ++ r := by rw [← List.drop_drop, List.drop_left, List.drop_left]
  have e2 : (pre ++ (i.hd ++ (i.S ++ r))).length - (pre.length + i.hd.length) = (i.S ++ r).length := by simp only [List.length_append]; omega
  rw [e1, e2]
  exact hs r
/-- A member that stands there whole. -/
theorem It.ok {i : It} (h : i.Good ratio) {room : Nat} (pre post : List UInt8) (hr : i.d.length ≤ room) (hm : room ≤ 1073741824) : MemOk (pre ++ (i.bytes ++ post)) room ratio pre.length (i.mb pre.length) := by
  have e : pre ++ (i.bytes ++ post) = pre ++ (i.hd ++ (i.S ++ (tailB i.d ++ post))) := by unfold It.bytes; simp
  rw [e]
  have h0 := h.fine.s0
  refine ⟨?_, rfl, ?_, ?_, h.over, ?_⟩
  · rw [List.drop_left]; exact It.rd h.fine _
  · show pre.length + i.hd.length < _
    simp only [List.length_append]; omega
  · exact It.ends (h.fine.str room hr hm)
  · show ((pre ++ (i.hd ++ (i.S ++ (tailB i.d ++ post)))).drop (pre.length + i.hd.length + i.S.length)).take 8 = _
    rw [← List.drop_drop, ← List.drop_drop, List.drop_left, List.drop_left, List.drop_left, List.take_append_of_le_length (by rw [tailB_len]; omega), List.take_of_length_le (by rw [tailB_len]; omega)]
    rfl
/-- Too many bytes come out. -/
theorem It.over3 {i : It} (h : i.Fine) {room : Nat} (pre post : List UInt8) (hr : room < i.d.length) : MemBad (pre ++ (i.bytes ++ post)) room ratio pre.length 3 := by
  have e : pre ++ (i.bytes ++ post) = pre ++ (i.hd ++ (i.S ++ (tailB i.d ++ post))) := by unfold It.bytes; simp
  rw [e]
  have h0 := h.s0
  obtain ⟨t, ht⟩ := It.ends3 (i := i) (pre := pre) (r := tailB i.d ++ post) (h.ovs room hr)
  have hp : pre.length + (⟨i.named, i.name, i.u, i.hd.length⟩ : Hd).n < (pre ++ (i.hd ++ (i.S ++ (tailB i.d ++ post)))).length := by
    show pre.length + i.hd.length < _
    simp only [List.length_append]; omega
  have hr2 : GzMath.rd ((pre ++ (i.hd ++ (i.S ++ (tailB i.d ++ post)))).drop pre.length) = .ok ⟨i.named, i.name, i.u, i.hd.length⟩ := by rw [List.drop_left]; exact It.rd h _
  exact .stream ⟨i.named, i.name, i.u, i.hd.length⟩ hr2 hp t ht (by decide) (by decide)
/-- It is more than the ratio lets. -/
theorem It.ratio3 {i : It} (h : i.Fine) {room : Nat} (pre post : List UInt8) (hr : i.d.length ≤ room) (hm : room ≤ 1073741824) (ho : ovr i.d.length i.S.length ratio = true) : MemBad (pre ++ (i.bytes ++ post)) room ratio pre.length 3 := by
  have e : pre ++ (i.bytes ++ post) = pre ++ (i.hd ++ (i.S ++ (tailB i.d ++ post))) := by unfold It.bytes; simp
  rw [e]
  have h0 := h.s0
  refine .over (i.mb pre.length) (by rw [List.drop_left]; exact It.rd h _) rfl ?_ (It.ends (h.str room hr hm)) ho
  show pre.length + i.hd.length < _
  simp only [List.length_append]; omega
/-- Another tail stands there, or too little of it. -/
theorem It.tail2 {i : It} (h : i.Good ratio) {room : Nat} (pre post : List UInt8) (hr : i.d.length ≤ room) (hm : room ≤ 1073741824) (hp : post.take 8 ≠ tailB i.d) : MemBad (pre ++ (i.hd ++ (i.S ++ post))) room ratio pre.length 2 := by
  have h0 := h.fine.s0
  refine .tail (i.mb pre.length) (by rw [List.drop_left]; exact It.rd h.fine _) rfl ?_ (It.ends (h.fine.str room hr hm)) h.over ?_
  · show pre.length + i.hd.length < _
    simp only [List.length_append]; omega
  · show ((pre ++ (i.hd ++ (i.S ++ post))).drop (pre.length + i.hd.length + i.S.length)).take 8 ≠ _
    rw [← List.drop_drop, ← List.drop_drop, List.drop_left, List.drop_left, List.drop_left]
    exact hp

/-- The members' bytes, what they tell, how many bytes come out. -/
noncomputable def allB (L : List It) : List UInt8 := L.flatMap It.bytes
def allD (L : List It) : List UInt8 := L.flatMap It.d
noncomputable def mbs : Nat → List It → List Mb
  | _, [] => []
  | at_, i :: L => i.mb at_ :: mbs (at_ + i.bytes.length) L
theorem allB_cons (i : It) (L : List It) : allB (i :: L) = i.bytes ++ allB L := by simp [allB]
theorem allD_cons (i : It) (L : List It) : allD (i :: L) = i.d ++ allD L := by simp [allD]
theorem mbs_len : ∀ (at_ : Nat) (L : List It), (mbs at_ L).length = L.length
  | _, [] => rfl
  | at_, i :: L => by simp [mbs, mbs_len]
theorem mbs_data : ∀ (at_ : Nat) (L : List It), (mbs at_ L).flatMap Mb.data = allD L
  | _, [] => rfl
  | at_, i :: L => by
    unfold mbs
    rw [allD_cons, List.flatMap_cons, mbs_data]; rfl
theorem mb_next (i : It) (at_ : Nat) : (i.mb at_).from_ + (i.mb at_).used + 8 = at_ + i.bytes.length := by
  rw [It.len_eq]; show at_ + i.hd.length + i.S.length + 8 = _; omega
/-- All of them are read, then what follows. -/
theorem goes_all {most : Nat} (hm : most ≤ 1073741824) (x : Option Nat) (R : List Mb) : ∀ (L : List It) (fst : Bool) (pre post : List UInt8) (o : Nat), (∀ i ∈ L, i.Good ratio) → o + (allD L).length ≤ most →
    Goes (pre ++ (allB L ++ post)) most ratio (fst && L.isEmpty) (pre.length + (allB L).length) (o + (allD L).length) R x → Goes (pre ++ (allB L ++ post)) most ratio fst pre.length o (mbs pre.length L ++ R) x
  | [], fst, pre, post, o, _, _, h => by simpa [allB, allD, mbs] using h
  | i :: L, fst, pre, post, o, hg, ho, h => by
    rw [allD_cons, List.length_append] at ho
    have e : pre ++ (allB (i :: L) ++ post) = pre ++ (i.bytes ++ (allB L ++ post)) := by rw [allB_cons, List.append_assoc]
    have e2 : pre ++ (i.bytes ++ (allB L ++ post)) = (pre ++ i.bytes) ++ (allB L ++ post) := by rw [List.append_assoc]
    have hl := i.len_eq
    refine ⟨.inr ?_, ?_, by omega, ?_, ?_⟩
    · rw [e]; simp only [List.length_append]; omega
    · simp only [List.length_append]; omega
    · rw [e]; exact It.ok (hg i (by simp)) pre _ (by omega) (by omega)
    · rw [mb_next, e, e2]
      have := goes_all hm x R L false (pre ++ i.bytes) post (o + i.d.length) (fun j hj => hg j (by simp [hj])) (by omega) (by
        rw [← e2, ← e]
        rw [allB_cons, allD_cons, List.length_append, List.length_append] at h
        simp only [List.isEmpty_cons, Bool.and_false, Bool.false_and, List.length_append] at h ⊢
        rw [allB_cons, show pre.length + i.bytes.length + (allB L).length = pre.length + (i.bytes.length + (allB L).length) by omega, show o + i.d.length + (allD L).length = o + (i.d.length + (allD L).length) by omega]
        exact h)
      rw [List.length_append] at this
      exact this
/-- More come out than may. -/
theorem goes_over {most : Nat} (hm : most ≤ 1073741824) : ∀ (L : List It) (fst : Bool) (pre post : List UInt8) (o : Nat), (∀ i ∈ L, i.Good ratio) → o ≤ most → most < o + (allD L).length →
    ∃ R, Goes (pre ++ (allB L ++ post)) most ratio fst pre.length o R (some 3)
  | [], fst, pre, post, o, _, h1, h2 => by simp [allD] at h2; omega
  | i :: L, fst, pre, post, o, hg, h1, h2 => by
    have e : pre ++ (allB (i :: L) ++ post) = pre ++ (i.bytes ++ (allB L ++ post)) := by rw [allB_cons, List.append_assoc]
    have e2 : pre ++ (i.bytes ++ (allB L ++ post)) = (pre ++ i.bytes) ++ (allB L ++ post) := by rw [List.append_assoc]
    have hl := i.len_eq
    rw [allD_cons, List.length_append] at h2
    by_cases hi : most - o < i.d.length
    · refine ⟨[], .inr ?_, ?_, h1, ?_⟩
      · rw [e]; simp only [List.length_append]; omega
      · simp only [List.length_append]; omega
      · rw [e]; exact It.over3 (hg i (by simp)).fine pre _ hi
    · obtain ⟨R, hR⟩ := goes_over hm L false (pre ++ i.bytes) post (o + i.d.length) (fun j hj => hg j (by simp [hj])) (by omega) (by omega)
      refine ⟨i.mb pre.length :: R, .inr ?_, ?_, h1, ?_, ?_⟩
      · rw [e]; simp only [List.length_append]; omega
      · simp only [List.length_append]; omega
      · rw [e]; exact It.ok (hg i (by simp)) pre _ (by omega) (by omega)
      · rw [mb_next, e, e2]
        rw [List.length_append] at hR
        exact hR
end Go.Proofs.YtilfmmjjiiabgaaGreatDoor.GzC
end

section
/-
  gzip's members: all of them.
-/
namespace Go.Proofs.YtilfmmjjiiabgaaGreatDoor.GzC
open Go.RowKit Go.My GzMath CrcMath Flt BitMath InfC
open InfMath (M Ok)
open Go.My.NumMath (bytesOf)

theorem far_of {w : World} {a : Option Addr} {len cap : Nat} {b : List UInt8} (hb : Bytes w a len cap b) (h0 : 0 < len) : ∀ k off, a = some ⟨k, off, none⟩ → k < w.heap.size := fun k off e => by
  rcases hb.at_ with hz | ⟨g, o, ha, hlt, -⟩
  · omega
  · rw [e] at ha
    injection ha with ha
    injection ha with ha
    subst ha
    exact hlt
theorem memOk_end {b : List UInt8} {room ratio at_ : Nat} {p : Mb} (h : MemOk b room ratio at_ p) : at_ + 8 ≤ p.from_ + p.used + 8 ∧ p.from_ + p.used + 8 ≤ b.length := by
  have h1 := congrArg List.length h.tail
  rw [tailB_len, List.length_take, List.length_drop] at h1
  have := h.fr
  have := h.pos
  omega
section
variable {B : Nat} {ov : Option Addr} {oc : Nat} {OL : List UInt8} {a : Option Addr} {len cap : Nat} {b : List UInt8} {at_ most ratio : Nat} {w : World}
theorem member_ok {p : Mb} (hown : Own 5 B w (.slice ov OL.length oc) OL) (hB : B ≤ w.heap.size) (hb : Bytes w a len cap b) (hfar : ∀ k off, a = some ⟨k, off, none⟩ → k < B) (hl : len ≤ 100000) (hm : OL.length ≤ most) (hm2 : most ≤ 1073741824) (hO : Ordr B w) (ha : at_ ≤ len)
    (hp : MemOk b (most - OL.length) ratio at_ p) :
    Calls Tryz.prog 20 #[.slice a len cap, .int .i64 (at_ : Int), .slice ov OL.length oc, .int .i64 (most : Int), .float .f64 ratio] w fun e w' =>
      (∃ ov' oc', e = .returned (.tuple #[p.v, .slice ov' (OL ++ p.data).length oc', .int .i64 0]) ∧ Own 5 B w' (.slice ov' (OL ++ p.data).length oc') (OL ++ p.data)) ∧ Only (fun k => (Value.slice ov OL.length oc).ownBlock = some k) w w' := by
  obtain ⟨t, ht, hu, hd⟩ := hp.ends
  obtain ⟨h, f, u, d⟩ := p
  have hf := hp.fr
  have hpos := hp.pos
  have hov := hp.over
  have htl := hp.tail
  have hrd := hp.rd
  simp only at hf hpos hov htl hrd hu hd ht
  subst hf hu hd
  have hz : memR b (at_ + h.n) ratio 0 t = 0 := by
    unfold memR
    rw [if_neg (by simp), hov, if_neg (by simp), if_neg (by simp [htl])]
  refine (member_go B ov oc OL a len cap b at_ most ratio h t 0 w hown hB hb hfar hl hm hm2 hO ha hrd hpos ht (by decide)).mono ?_
  rintro e w' ⟨⟨-, h1⟩ | ⟨h1, -⟩, h2⟩
  · exact ⟨h1, h2⟩
  · exact absurd hz h1
theorem member_bad {c : Nat} (hown : Own 5 B w (.slice ov OL.length oc) OL) (hB : B ≤ w.heap.size) (hb : Bytes w a len cap b) (hfar : 0 < len → ∀ k off, a = some ⟨k, off, none⟩ → k < B) (hl : len ≤ 100000) (hm : OL.length ≤ most) (hm2 : most ≤ 1073741824) (hO : Ordr B w) (ha : at_ ≤ len)
    (hp : MemBad b (most - OL.length) ratio at_ c) :
    Calls Tryz.prog 20 #[.slice a len cap, .int .i64 (at_ : Int), .slice ov OL.length oc, .int .i64 (most : Int), .float .f64 ratio] w fun e w' =>
      c ≠ 0 ∧ e = .returned (.tuple #[zeroPart, .slice none 0 0, .int .i64 (c : Int)]) ∧ Only (fun k => (Value.slice ov OL.length oc).ownBlock = some k) w w' := by
  have hgo : ∀ (h : Hd) (t : M) (c' : Nat), rd (b.drop at_) = .ok h → at_ + h.n < b.length → InfMath.Ends (began false 32768 (most - OL.length) ((b.drop (at_ + h.n)).take (min 256 (b.length - (at_ + h.n))))) t c' → c' ≠ 5 → memR b (at_ + h.n) ratio c' t = c → c ≠ 0 →
      Calls Tryz.prog 20 #[.slice a len cap, .int .i64 (at_ : Int), .slice ov OL.length oc, .int .i64 (most : Int), .float .f64 ratio] w fun e w' =>
        c ≠ 0 ∧ e = .returned (.tuple #[zeroPart, .slice none 0 0, .int .i64 (c : Int)]) ∧ Only (fun k => (Value.slice ov OL.length oc).ownBlock = some k) w w' := fun h t c' hrd hpos hends hc5 hr hc0 => by
    refine (member_go B ov oc OL a len cap b at_ most ratio h t c' w hown hB hb (hfar (by have := hb.len_eq; omega)) hl hm hm2 hO ha hrd hpos hends hc5).mono ?_
    rintro e w' ⟨⟨h1, -⟩ | ⟨-, h1⟩, h2⟩
    · exact absurd (hr.symm.trans h1) hc0
    · rw [hr] at h1; exact ⟨hc0, h1, h2⟩
  cases hp with
  | head k hk h0 =>
    refine (member_head (k := k) hb hl ha hk h0).mono ?_
    rintro e w' ⟨h1, h2⟩
    exact ⟨by split <;> omega, h1, Only.of_below h2 _⟩
  | stream h hr hp t he h0 h5 => exact hgo h t c hr hp he h5 (by unfold memR; rw [if_pos h0]) h0
  | over p hr hf hp he ho =>
    obtain ⟨t, ht, hu, hd⟩ := he
    rw [hf] at hp ht
    rw [hd, hu] at ho
    exact hgo p.h t 0 hr hp ht (by decide) (by unfold memR; rw [if_neg (by simp), ho, if_pos rfl]) (by decide)
  | tail p hr hf hp he ho htl =>
    obtain ⟨t, ht, hu, hd⟩ := he
    rw [hf] at hp ht htl
    rw [hd, hu] at ho
    rw [hd, hu] at htl
    exact hgo p.h t 0 hr hp ht (by decide) (by unfold memR; rw [if_neg (by simp), ho, if_neg (by simp), if_pos htl]) (by decide)
end
theorem own_apart {B B' : Nat} {w : World} {u v : Value} {l : List UInt8} {P : List Mb} (hu : Own 5 B w u l) (hv : OwnM B' w v P) : ∀ k, u.ownBlock = some k → ¬ v.ownBlock = some k := fun k h1 h2 => by
  rcases hu.2 with ⟨rfl, _⟩ | ⟨g, cap, cur, rfl, _, hg, _⟩
  · simp [Value.ownBlock] at h1
  · simp only [Value.ownBlock, Option.some.injEq] at h1
    subst h1
    exact OwnM.ne hv (show Blk w g 5 cur from hg) (by decide) h2
/-- What comes out of the members. -/
def dat (P : List Mb) : List UInt8 := P.flatMap Mb.data
theorem dat_snoc (P : List Mb) (p : Mb) : dat (P ++ [p]) = dat P ++ p.data := by simp [dat]
/-- What All answers. -/
def AllTo (B : Nat) (PP : List Mb) (x : Option Nat) (e : Ending) (w' : World) : Prop :=
  (x = none ∧ ∃ pv ov oc, e = .returned (.tuple #[pv, .slice ov (dat PP).length oc, .int .i64 0]) ∧ OwnM B w' pv PP ∧ Own 5 B w' (.slice ov (dat PP).length oc) (dat PP)) ∨
  (∃ c : Nat, x = some c ∧ c ≠ 0 ∧ e = .returned (.tuple #[.slice none 0 0, .slice none 0 0, .int .i64 (c : Int)]))
set_option maxRecDepth 100000 in
set_option maxHeartbeats 8000000 in
theorem gall_any (a : Option Addr) (len cap : Nat) (b : List UInt8) (most ratio : Nat) (PP : List Mb) (x : Option Nat) (w : World) (hb : Bytes w a len cap b) (hl : len ≤ 100000) (hm : most ≤ 1073741824) (hO : Ordr w.heap.size w) (hgo : Goes b most ratio true 0 0 PP x) :
    Calls Tryz.prog 10 #[.slice a len cap, .int .i64 (most : Int), .float .f64 ratio] w fun e w' => AllTo w.heap.size PP x e w' ∧ Below w.heap.size w w' := by
  have HI := Lib.hid (And.intro hb (And.intro hO hgo))
  have hl1 : decide ((most : Int) < 0) = false := by simp
  have hl2 : decide ((most : Int) > 1073741824) = false := by simp; omega
  clear hb hO hgo
  go_enter Tryz.func10, Tryz.ntmps10
  go_wp2_with fail
  go_loopw [9, 10, 11] (fun pv ov av wr => ∃ (P R : List Mb) (at_ : Nat) (oa : Option Addr) (oc : Nat), ov = .slice oa (dat P).length oc ∧ av = .int .i64 (at_ : Int) ∧ at_ ≤ 200000 ∧ P.length ≤ at_ ∧ Hid (PP = P ++ R) ∧ Hid (Goes b most ratio P.isEmpty at_ (dat P).length R x) ∧ Hid (OwnM w.heap.size wr pv P) ∧ Hid (Own 5 w.heap.size wr (.slice oa (dat P).length oc) (dat P)) ∧ Hid (Below w.heap.size w wr)) (fun _ _ av _ => 300000 - (intOf av).toNat)
  case atStart => exact ⟨[], PP, 0, none, 0, rfl, rfl, by omega, by simp, Lib.hid rfl, Lib.hid HI.out.2.2, Lib.hid (OwnM.nil _ _), Lib.hid (Own.nil _ _ _), Lib.hid (Below.refl _ _)⟩
  case round =>
    obtain ⟨P, R, at_, oa, oc, rfl, rfl, hat, hPl, HPP, HGO, HM, HO, HB⟩ := hrel
    obtain ⟨pa, pc, hpv, -⟩ := HM.out.get
    subst hpv
    have hlen := HI.out.1.len_eq
    have hOr := Lib.hid (HI.out.2.1.below (Nat.le_refl _) HB.out)
    cases R with
    | nil =>
      cases x with
      | none =>
        obtain ⟨he, hend⟩ := HGO.out
        have hne : P ≠ [] := fun h => by rw [h] at he; cases he
        have hq1 : ((P.length : Int) == 0) = false := by
          have := List.length_pos_iff.2 hne
          exact beq_eq_false_iff_ne.2 (by omega)
        have hq2 : ¬ at_ < len := by omega
        have hPP : PP = P := by rw [HPP.out, List.append_nil]
        clear he hend hne
        go_wp2_with fail
        go_ret3
        exact ⟨.inl ⟨rfl, _, oa, oc, by rw [hPP]; rfl, by rw [hPP]; exact HM.out, by rw [hPP]; exact HO.out⟩, HB.out⟩
      | some c =>
        obtain ⟨hcond, hle, hom, hbad⟩ := HGO.out
        have HMB := Lib.hid (member_bad HO.out HB.out.size (HI.out.1.below (Nat.le_refl _) HB.out) (fun h0 => far_of HI.out.1 h0) hl hom hm hOr.out (by omega) hbad)
        have hcond' : ((P.length : Int) == 0) = true ∨ (((P.length : Int) == 0) = false ∧ at_ < len) := by
          by_cases h0 : P.length = 0
          · left; simp [h0]
          · right
            refine ⟨beq_eq_false_iff_ne.2 (by omega), ?_⟩
            rcases hcond with h | h
            · exact absurd (List.isEmpty_iff.1 h) (fun h => h0 (by rw [h]; rfl))
            · omega
        have HFAR : Hid (∀ k, (Value.slice oa (dat P).length oc).ownBlock = some k → w.heap.size ≤ k) := Lib.hid fun k hk => (World.ownsRow.lt HO.out k hk).1
        clear hcond hle hom hbad
        rcases hcond' with hq1 | ⟨hq1, hq2⟩
        all_goals
          go_wp2_with fail
          refine HMB.out.mono ?_
          rintro e w2 ⟨hc0, rfl, hon⟩
          have HB2 := Lib.hid (HB.out.trans (hon.below HB.out.size HFAR.out))
          have hcz : ((c : Int) != 0) = true := by simp; omega
          have HC0 := Lib.hid hc0
          clear hon hc0 HMB HFAR
          unfold zeroPart
          go_wp2_with (first
            | (refine wpList_store_row rfl _ _ _ rfl w2.heap.size _ rfl rfl 39 #[.bool false, .string ⟨#[]⟩, .float .f64 0, .int .i64 0, .int .i64 0, .int .u32 0, .int .i64 0] (heap_alloc_new w2 _) (by kernel_rfl) rfl (by simp [Value.oneCell']) ?_))
          go_ret3
          exact ⟨.inr ⟨c, rfl, HC0.out, rfl⟩, below_setRow (HB2.out.alloc HB2.out.size _) HB2.out.size _⟩
    | cons p R' =>
      obtain ⟨hcond, hle, hom, hok, hnext⟩ := HGO.out
      have hcond' : ((P.length : Int) == 0) = true ∨ (((P.length : Int) == 0) = false ∧ at_ < len) := by
        by_cases h0 : P.length = 0
        · left; simp [h0]
        · right
          refine ⟨beq_eq_false_iff_ne.2 (by omega), ?_⟩
          rcases hcond with h | h
          · exact absurd (List.isEmpty_iff.1 h) (fun h => h0 (by rw [h]; rfl))
          · omega
      have hlen0 : 0 < len := by have := hok.pos; omega
      have HMK := Lib.hid (member_ok HO.out HB.out.size (HI.out.1.below (Nat.le_refl _) HB.out) (far_of HI.out.1 hlen0) hl hom hm hOr.out (by omega) hok)
      have HFAR : Hid (∀ k, (Value.slice oa (dat P).length oc).ownBlock = some k → w.heap.size ≤ k) := Lib.hid fun k hk => (World.ownsRow.lt HO.out k hk).1
      have hend := memOk_end hok
      have HNX := Lib.hid hnext
      clear hcond hle hok hnext hom
      rcases hcond' with hq1 | ⟨hq1, hq2⟩
      all_goals
        go_wp2_with fail
        refine HMK.out.mono ?_
        rintro e w2 ⟨⟨oa2, oc2, rfl, ho2⟩, hon⟩
        have HB2 := Lib.hid (HB.out.trans (hon.below HB.out.size HFAR.out))
        have HM2 := Lib.hid (HM.out.only HO.out hon)
        have HO2 := Lib.hid ho2
        clear hon ho2 HMK HFAR HM HO HB
        unfold Mb.v
        go_upto_region 10 with (first
          | (refine wpList_store_row rfl _ _ _ rfl w2.heap.size _ rfl rfl 39 #[.bool false, .string ⟨#[]⟩, .float .f64 0, .int .i64 0, .int .i64 0, .int .u32 0, .int .i64 0] (heap_alloc_new w2 _) (by kernel_rfl) rfl (by simp [Value.oneCell']) ?_))
        obtain ⟨g3, hg3⟩ : ∃ g3, g3 = w2.heap.size := ⟨_, rfl⟩
        obtain ⟨w3, hw3⟩ : ∃ w3, w3 = (w2.alloc (.cells #[.bool false, .string ⟨#[]⟩, .float .f64 0, .int .i64 0, .int .i64 0, .int .u32 0, .int .i64 0] 39)).setRow w2.heap.size #[.bool p.h.named, .string ⟨p.h.name.toArray⟩, .float .f64 (ClkC.fromU (p.h.time : Int)), .int .i64 (p.from_ : Int), .int .i64 (p.used : Int), .int .u32 ((crc 0#32 p.data).toNat : Int), .int .i64 (p.data.length : Int)] := ⟨_, rfl⟩
        have hb3 : Below w2.heap.size w2 w3 := by rw [hw3]; exact below_setRow ((Below.refl _ _).alloc (Nat.le_refl _) _) (Nat.le_refl _) _
        have HP3 : Hid (Blk w3 g3 39 #[.bool p.h.named, .string ⟨p.h.name.toArray⟩, .float .f64 (ClkC.fromU (p.h.time : Int)), .int .i64 (p.from_ : Int), .int .i64 (p.used : Int), .int .u32 ((crc 0#32 p.data).toNat : Int), .int .i64 (p.data.length : Int)]) := Lib.hid (by rw [hw3, hg3]; exact setRow_heap _ _ _ _ _ _ (heap_alloc_new w2 _))
        have HM3 : Hid (OwnM w.heap.size w3 (.slice pa P.length pc) P) := Lib.hid (HM2.out.only HO2.out (Only.of_below hb3 _))
        have HO3 := Lib.hid (HO2.out.below (Nat.le_refl _) hb3)
        have HB3 := Lib.hid (HB2.out.trans (hb3.mono HB2.out.size))
        have HG3 : Hid (∀ k, (Value.slice pa P.length pc).ownBlock = some k → k ≠ g3) := Lib.hid (by
          intro k hk e
          have := (World.ownsRow.lt HM2.out k hk).2
          omega)
        rw [← hw3, ← hg3]
        clear hw3 hg3 hb3 HM2 HO2 HB2
        obtain ⟨Y, hY⟩ : ∃ Y, Y = w3.alloc (.cells #[.bool p.h.named, .string ⟨p.h.name.toArray⟩, .float .f64 (ClkC.fromU (p.h.time : Int)), .int .i64 (p.from_ : Int), .int .i64 (p.used : Int), .int .u32 ((crc 0#32 p.data).toNat : Int), .int .i64 (p.data.length : Int)] 39) := ⟨_, rfl⟩
        have HYB : Hid (Blk Y w3.heap.size 39 p.cs) := Lib.hid (by rw [hY]; exact Blk.new w3 _ _)
        have HYM : Hid (OwnM w.heap.size Y (.slice pa P.length pc) P) := Lib.hid (by rw [hY]; exact HM3.out.alloc _)
        have HYO := Lib.hid (HO3.out.below (Nat.le_refl _) (show Below w3.heap.size w3 Y from by rw [hY]; exact (Below.refl _ _).alloc (Nat.le_refl _) _))
        have HYP : Hid (Blk Y g3 39 #[.bool p.h.named, .string ⟨p.h.name.toArray⟩, .float .f64 (ClkC.fromU (p.h.time : Int)), .int .i64 (p.from_ : Int), .int .i64 (p.used : Int), .int .u32 ((crc 0#32 p.data).toNat : Int), .int .i64 (p.data.length : Int)]) := Lib.hid (by rw [hY]; exact HP3.out.alloc _)
        have HYW : Hid (Below w.heap.size w Y) := Lib.hid (by rw [hY]; exact HB3.out.alloc HB3.out.size _)
        have hpl : P.length ≤ 1000000 := by omega
        clear HM3 HO3 HB3
        go_wp2_with (first
          | (refine wpList_load_row rfl 39 _ rfl g3 rfl 39 #[.bool p.h.named, .string ⟨p.h.name.toArray⟩, .float .f64 (ClkC.fromU (p.h.time : Int)), .int .i64 (p.from_ : Int), .int .i64 (p.used : Int), .int .u32 ((crc 0#32 p.data).toNat : Int), .int .i64 (p.data.length : Int)] _ _ HP3.out Tryz.underlying39 rfl (by kernel_rfl) ?_)
          | (at_builtin; refine wpList_append_mb (by rfl) (.tmp 43) (.tmp 45) (by rfl) w.heap.size _ P (by rfl) (show OwnM w.heap.size (w3.alloc (.cells #[.bool p.h.named, .string ⟨p.h.name.toArray⟩, .float .f64 (ClkC.fromU (p.h.time : Int)), .int .i64 (p.from_ : Int), .int .i64 (p.used : Int), .int .u32 ((crc 0#32 p.data).toNat : Int), .int .i64 (p.data.length : Int)] 39)) (.slice pa P.length pc) P from by rw [← hY]; exact HYM.out) w3.heap.size p (by rfl) (by rw [← hY]; exact HYB.out) hpl (by rw [← hY]; exact HYW.out.size) ?_))
        intro v' w5 h1 h2
        rw [← hY] at h2
        have HO5 := Lib.hid (Only.own ((Only.of_below (Below.refl Y.heap.size Y) (fun k => (Value.slice pa P.length pc).ownBlock = some k)).grown h2 (fun k _ h => h)) HYO.out (own_apart HYO.out HYM.out))
        have HB5 : Hid (Below w.heap.size w w5) := Lib.hid (HYM.out.grown HYW.out h2 HYW.out.size)
        have HP5 := Lib.hid (HYP.out.grown h2 (fun e => HG3.out g3 e.symm rfl))
        have HM5 := Lib.hid h1
        have c3 := HP5.out.cell 3
        have c4 := HP5.out.cell 4
        simp only [List.getElem?_toArray, List.getElem?_cons_zero, List.getElem?_cons_succ] at c3 c4
        have hb := hend.2
        have e1 : IntKind.i64.wrap ((p.from_ : Int) + (p.used : Int)) = (p.from_ : Int) + (p.used : Int) := IntWalk.i64_in _ (by omega)
        have e2 : IntKind.i64.wrap ((p.from_ : Int) + (p.used : Int) + 8) = (p.from_ : Int) + (p.used : Int) + 8 := IntWalk.i64_in _ (by omega)
        have HEND := Lib.hid hend
        clear h1 h2 hY HYB HYM HYO HYP HYW HG3 HP3 HP5 hend hb
        go_wp2_with fail
        go_roundw
        case rel => exact ⟨P ++ [p], R', p.from_ + p.used + 8, oa2, oc2, by rw [dat_snoc, List.length_append], by simp, by have := HEND.out; omega, by rw [List.length_append]; have := HEND.out; simp; omega, Lib.hid (by rw [HPP.out]; simp), Lib.hid (by rw [dat_snoc, List.length_append, show (P ++ [p]).isEmpty = false by simp]; exact HNX.out), HM5, Lib.hid (by rw [dat_snoc]; exact HO5.out), HB5⟩
        case measure =>
          have := HEND.out
          simp [intOf]; omega
end Go.Proofs.YtilfmmjjiiabgaaGreatDoor.GzC
end

section
/-
  gzip's members, as plain lists: what the laws ask.
-/
namespace Go.Proofs.YtilfmmjjiiabgaaGreatDoor.GzC
open Go.RowKit Go.My GzMath CrcMath Flt InfC
open InfMath (M Ok)
open Go.My.NumMath (bytesOf bytesOf_len)

/-- 1000, as a float. -/
def f1000 : Nat := 4652007308841189376
theorem ovr_1000 : ∀ n : Fin 201, ovr n.val (5 + n.val) f1000 = false := by unfold ovr; decide +kernel
theorem ovr_nan (n used : Nat) {r : Nat} (h : isNaN r = true) : ovr n used r = false := by
  have hm : FloatKind.f64.format.mul r (floatOfInt .f64 (used : Int)) = none := by
    have h' : (FloatKind.f64.format.read r).isNaN = true := h
    unfold Ieee.Format.mul
    cases hr : FloatKind.f64.format.read r with
    | nan => rfl
    | infinity => rw [hr] at h'; cases h'
    | number => rw [hr] at h'; cases h'
  unfold ovr
  rw [hm]
theorem fine_sto {named : Bool} {name : List UInt8} {u : Nat} {d : List UInt8} (hz : ∀ c ∈ name, c ≠ 0) (hn : name.length ≤ 1000) (hm : named = false → name = []) (hu : u ≤ 4294967295) (hd : d.length ≤ 200) : It.Fine ⟨named, name, u, InfMath.stored d true, d⟩ :=
  ⟨hz, hn, hm, hu, fun room h1 _ => sto_str room d hd h1, fun room h => sto_ovs room d hd h, by show 0 < (InfMath.stored d true).length; rw [InfMath.stored_len]; omega⟩
theorem good_sto {named : Bool} {name : List UInt8} {u : Nat} {d : List UInt8} {ratio : Nat} (hf : It.Fine ⟨named, name, u, InfMath.stored d true, d⟩) (ho : ovr d.length (5 + d.length) ratio = false) : It.Good ⟨named, name, u, InfMath.stored d true, d⟩ ratio :=
  ⟨hf, by show ovr d.length (InfMath.stored d true).length ratio = false; rw [InfMath.stored_len]; exact ho⟩
theorem fine_run {u : Nat} (hu : u ≤ 4294967295) : It.Fine ⟨false, [], u, run4, List.replicate 259 65⟩ :=
  ⟨(fun _ h => nomatch h), Nat.zero_le _, fun _ => rfl, hu, fun room h1 h2 => run4_str room (by have h1' : (List.replicate 259 (65 : UInt8)).length ≤ room := h1; rw [List.length_replicate] at h1'; exact h1') h2, fun room h => run4_ovs room (by have h1' : room < (List.replicate 259 (65 : UInt8)).length := h; rw [List.length_replicate] at h1'; exact h1'), (by show 0 < run4.length; decide)⟩
/-- Members that stand there whole, and nothing behind. -/
theorem goes_whole {most ratio : Nat} (hm : most ≤ 1073741824) (L : List It) (h0 : L ≠ []) (hg : ∀ i ∈ L, i.Good ratio) (hl : (allD L).length ≤ most) : Goes (allB L) most ratio true 0 0 (mbs 0 L) none := by
  have := goes_all (ratio := ratio) hm none [] L true [] [] 0 hg (by omega) ⟨by simp [h0], by simp⟩
  simpa using this
theorem goes_wide {most ratio : Nat} (hm : most ≤ 1073741824) (L : List It) (hg : ∀ i ∈ L, i.Good ratio) (hl : most < (allD L).length) : ∃ R, Goes (allB L) most ratio true 0 0 R (some 3) := by
  have := goes_over (ratio := ratio) hm L true [] [] 0 hg (Nat.zero_le _) (by omega)
  simpa using this
/-- A byte 0 stands behind them. -/
theorem goes_zero {most ratio : Nat} (hm : most ≤ 1073741824) (L : List It) (hg : ∀ i ∈ L, i.Good ratio) (hl : (allD L).length ≤ most) : Goes (allB L ++ [0]) most ratio true 0 0 (mbs 0 L) (some 2) := by
  have hrd : rd [0] = .bad 2 := by decide
  have := goes_all (ratio := ratio) hm (some 2) [] L true [] [0] 0 hg (by omega) ⟨.inr (by simp), by simp, by omega, by
    have h := MemBad.head (b := [] ++ (allB L ++ [0])) (room := most - (0 + (allD L).length)) (ratio := ratio) (at_ := ([] : List UInt8).length + (allB L).length) 2 (by simp [hrd]) (by decide)
    exact h⟩
  simpa using this
/-- The last byte lacks. -/
theorem goes_cut {most ratio : Nat} (hm : most ≤ 1073741824) (L : List It) (i : It) (hg : ∀ j ∈ L, j.Good ratio) (hi : i.Good ratio) (hl : (allD L).length + i.d.length ≤ most) : Goes ((allB L ++ i.bytes).dropLast) most ratio true 0 0 (mbs 0 L) (some 2) := by
  have e : (allB L ++ i.bytes).dropLast = [] ++ (allB L ++ (i.hd ++ (i.S ++ (tailB i.d).dropLast))) := by
    unfold It.bytes
    have hne : tailB i.d ≠ [] := fun h => by have := tailB_len i.d; rw [h] at this; cases this
    rw [List.dropLast_append_of_ne_nil (by simp [hne]), List.dropLast_append_of_ne_nil (by simp [hne]), List.dropLast_append_of_ne_nil hne, List.nil_append]
  have hs := hi.fine.s0
  have hb := It.tail2 hi (room := most - (0 + (allD L).length)) (allB L) ((tailB i.d).dropLast) (by omega) (by omega) (fun h => by
    have := congrArg List.length h
    rw [tailB_len, List.length_take, List.length_dropLast, tailB_len] at this
    omega)
  rw [e]
  have := goes_all (ratio := ratio) hm (some 2) [] L true [] (i.hd ++ (i.S ++ (tailB i.d).dropLast)) 0 hg (by omega) ⟨.inr (by simp only [List.length_append, List.length_nil]; omega), by simp only [List.length_append, List.length_nil]; omega, by omega, by simpa using hb⟩
  simpa using this
/-- A member that is more than its ratio lets. -/
theorem goes_ratio {most ratio : Nat} (hm : most ≤ 1073741824) (i : It) (post : List UInt8) (hf : i.Fine) (ho : ovr i.d.length i.S.length ratio = true) : Goes (i.bytes ++ post) most ratio true 0 0 [] (some 3) := by
  refine ⟨.inl rfl, Nat.zero_le _, Nat.zero_le _, ?_⟩
  by_cases h : most < i.d.length
  · exact It.over3 hf [] post (by simpa using h)
  · exact It.ratio3 hf [] post (by omega) (by omega) ho
theorem getD_right (a x : List UInt8) (j : Nat) : (a ++ x).getD (a.length + j) 0 = x.getD j 0 := by
  rw [List.getD_eq_getElem?_getD, List.getD_eq_getElem?_getD, List.getElem?_append_right (by omega), Nat.add_sub_cancel_left]
theorem getD_left (a x : List UInt8) {j : Nat} (h : j < a.length) : (a ++ x).getD j 0 = a[j] := by
  rw [List.getD_eq_getElem?_getD, List.getElem?_append_left h, List.getElem?_eq_getElem h]; rfl
/-- A byte of the content, of its sum or size is another. -/
theorem goes_turned {d : List UInt8} {u j : Nat} {y : UInt8} (hl : d.length ≤ 200) (hu : u ≤ 4294967295) (hj : j < d.length + 8) :
    let i : It := ⟨false, [], u, InfMath.stored d true, d⟩
    y ≠ i.bytes.getD (i.bytes.length - (d.length + 8) + j) 0 → Goes (i.bytes.set (i.bytes.length - (d.length + 8) + j) y) d.length f1000 true 0 0 [] (some 2) := by
  intro i hy
  obtain ⟨H5, hH5⟩ : ∃ H5 : List UInt8, H5 = [1, UInt8.ofNat d.length, UInt8.ofNat (d.length / 256), UInt8.ofNat (255 - d.length % 256), UInt8.ofNat (255 - d.length / 256)] := ⟨_, rfl⟩
  have hH : H5.length = 5 := by rw [hH5]; rfl
  have hS : ∀ e : List UInt8, e.length = d.length → InfMath.stored e true = H5 ++ e := fun e he => by unfold InfMath.stored; rw [hH5, he]; rfl
  have hb : i.bytes = (i.hd ++ H5) ++ (d ++ tailB d) := by
    show i.hd ++ (InfMath.stored d true ++ tailB d) = _
    rw [hS d rfl]; simp
  have hlen : i.bytes.length - (d.length + 8) = (i.hd ++ H5).length := by
    rw [hb]; simp only [List.length_append, tailB_len]; omega
  rw [hlen] at hy ⊢
  rw [hb] at hy ⊢
  have hset : ∀ x : List UInt8, ((i.hd ++ H5) ++ x).set ((i.hd ++ H5).length + j) y = (i.hd ++ H5) ++ x.set j y := fun x => by
    rw [List.set_append_right _ _ (by omega), Nat.add_sub_cancel_left]
  have hget : ∀ x : List UInt8, ((i.hd ++ H5) ++ x).getD ((i.hd ++ H5).length + j) 0 = x.getD j 0 := fun x => by
    exact getD_right _ _ _
  rw [hget] at hy
  rw [hset]
  refine ⟨.inl rfl, Nat.zero_le _, Nat.zero_le _, ?_⟩
  by_cases h : j < d.length
  · rw [getD_left _ _ h] at hy
    have e : (d ++ tailB d).set j y = d.set j y ++ tailB d := List.set_append_left _ _ h
    obtain ⟨d', hd'⟩ : ∃ d', d' = d.set j y := ⟨_, rfl⟩
    have hl' : d'.length = d.length := by rw [hd']; simp
    have hg : It.Good ⟨false, [], u, InfMath.stored d' true, d'⟩ f1000 := good_sto (fine_sto (fun _ h => nomatch h) (by decide) (fun _ => rfl) hu (by omega)) (ovr_1000 ⟨d'.length, by omega⟩)
    have := It.tail2 hg (room := d.length - 0) [] (tailB d) (by show d'.length ≤ _; omega) (by omega) (by
      rw [List.take_of_length_le (by rw [tailB_len]; omega)]
      refine tail_ne ?_
      show crc 0#32 d ≠ crc 0#32 d'
      rw [hd']
      exact (crc_set h hy).symm)
    have e2 : (i.hd ++ H5) ++ (d ++ tailB d).set j y = [] ++ (i.hd ++ (InfMath.stored d' true ++ tailB d)) := by
      rw [e, hS d' hl', hd']; simp
    rw [e2]
    exact this
  · have hg : It.Good i f1000 := good_sto (fine_sto (fun _ h => nomatch h) (by decide) (fun _ => rfl) hu hl) (ovr_1000 ⟨d.length, by omega⟩)
    have h8 := tailB_len d
    have e9 : (d ++ tailB d).getD j 0 = (tailB d)[j - d.length]'(by omega) := by
      have := getD_right d (tailB d) (j - d.length)
      rw [show d.length + (j - d.length) = j by omega] at this
      rw [this, List.getD_eq_getElem?_getD, List.getElem?_eq_getElem (by omega)]; rfl
    rw [e9] at hy
    have e : (d ++ tailB d).set j y = d ++ (tailB d).set (j - d.length) y := List.set_append_right _ _ (by omega)
    have := It.tail2 hg (room := d.length - 0) [] ((tailB d).set (j - d.length) y) (by show d.length ≤ _; omega) (by omega) (by
      rw [List.take_of_length_le (by rw [List.length_set]; omega)]
      intro hh
      have h1 : ((tailB d).set (j - d.length) y)[j - d.length]'(by rw [List.length_set]; omega) = y := by simp
      apply hy
      rw [← h1]
      have : i.d = d := rfl
      simp only [hh, this])
    have e2 : (i.hd ++ H5) ++ (d ++ tailB d).set j y = [] ++ (i.hd ++ (i.S ++ (tailB d).set (j - d.length) y)) := by
      rw [e]
      show _ = i.hd ++ (InfMath.stored d true ++ _)
      rw [hS d rfl]; simp
    rw [e2]
    exact this
end Go.Proofs.YtilfmmjjiiabgaaGreatDoor.GzC
end
