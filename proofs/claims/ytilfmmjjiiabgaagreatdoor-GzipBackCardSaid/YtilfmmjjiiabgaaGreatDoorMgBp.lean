import Derived.Test.YtilfmmjjiiabgaaGreatDoorMgBn
import Derived.Test.YtilfmmjjiiabgaaGreatDoorMgBo
import Derived.Test.YtilfmmjjiiabgaaGreatDoorMgAf
import Derived.Deep.RegionWith

section
/-
  A beginning of a right stream, and the rest behind it. No program, no dump.
-/
namespace InfMath
open BitMath CanMath TabMath WinMath

/-- The same, so many bytes counted. -/
abbrev pu (n : Nat) (s : M) : M := { s with pushed := n }
def puR (n : Nat) : Res → Res
  | .more s => .more (pu n s)
  | .halt c => .halt c
theorem puR_ite (n : Nat) (c : Prop) [Decidable c] (a b : Res) : puR n (if c then a else b) = if c then puR n a else puR n b := by split <;> rfl
section
variable (p : Nat) (s : M)
theorem pu_len (v n : Nat) : readLen (pu p s) v n = puR p (readLen s v n) := by
  unfold readLen
  simp only [puR_ite]
  rfl
theorem pu_lit (v n : Nat) : readLit (pu p s) v n = puR p (readLit s v n) := by
  unfold readLit
  simp only [puR_ite]
  split
  · split
    · rfl
    · rfl
  · split
    · rfl
    · cases h : base v s.wide with
      | none => rfl
      | some q => simp only [puR_ite]; rfl
theorem pu_dist (v n : Nat) : readDist (pu p s) v n = puR p (readDist s v n) := by
  unfold readDist
  cases h : far v s.wide with
  | none => rfl
  | some q =>
    simp only [pu, puR_ite, copied]
    split
    · rfl
    · split
      · rfl
      · rfl
theorem step_pu : step (pu p s) = puR p (step s) := by
  unfold step
  split
  · rename_i h
    rw [show s.next = 1 from h]
    unfold opening; simp only [puR_ite]; rfl
  · rename_i h
    rw [show s.next = 2 from h]
    unfold readSize; simp only [puR_ite]; rfl
  · rename_i h
    rw [show s.next = 3 from h]
    unfold readBytes; simp only [puR_ite]
    split
    · rfl
    · split
      · rfl
      · split
        · rfl
        · rfl
  · rename_i h
    rw [show s.next = 4 from h]
    unfold readHlit; simp only [puR_ite]; rfl
  · rename_i h
    rw [show s.next = 5 from h]
    unfold readHdist; simp only [puR_ite]; rfl
  · rename_i h
    rw [show s.next = 6 from h]
    unfold readHclen; simp only [puR_ite]; rfl
  · rename_i h
    rw [show s.next = 7 from h]
    unfold readCodeLengths; simp only [puR_ite]; rfl
  · rename_i h
    rw [show s.next = 8 from h]
    unfold readLengths readLength; simp only [puR_ite, pu_len]; rfl
  · rename_i h
    rw [show s.next = 9 from h]
    unfold readLiteral; simp only [puR_ite, pu_lit]; rfl
  · rename_i h
    rw [show s.next = 10 from h]
    unfold readDistance; simp only [puR_ite, pu_dist]; rfl
  · rfl
theorem steps_pu {s t : M} (h : Steps s t) : Steps (pu p s) (pu p t) := by
  induction h with
  | refl s => exact .refl _
  | cons h k ih => exact .cons (by rw [step_pu, h]; rfl) ih
theorem ends_pu {s t : M} {c : Nat} (h : Ends s t c) : Ends (pu p s) (pu p t) c := ⟨steps_pu p h.1, by rw [step_pu, h.2]; rfl⟩
end
/-- Whether all bytes are there does not turn, nor how many were counted. -/
def Keep (e : Bool) (n : Nat) : Res → Prop
  | .more t => t.ended = e ∧ t.pushed = n
  | .halt _ => True
theorem keep_ite (e : Bool) (n : Nat) (c : Prop) [Decidable c] (a b : Res) : Keep e n (if c then a else b) ↔ (if c then Keep e n a else Keep e n b) := by split <;> exact Iff.rfl
theorem keep_len (s : M) (v n : Nat) : Keep s.ended s.pushed (readLen s v n) := by
  unfold readLen
  simp only [keep_ite]
  repeat' split
  all_goals first | trivial | exact ⟨rfl, rfl⟩
theorem keep_lit (s : M) (v n : Nat) : Keep s.ended s.pushed (readLit s v n) := by
  unfold readLit
  simp only [keep_ite]
  repeat' split
  all_goals first | trivial | exact ⟨rfl, rfl⟩
theorem keep_dist (s : M) (v n : Nat) : Keep s.ended s.pushed (readDist s v n) := by
  unfold readDist
  cases h : far v s.wide with
  | none => trivial
  | some q =>
    unfold copied
    simp only [keep_ite]
    repeat' split
    all_goals first | trivial | exact ⟨rfl, rfl⟩
theorem keep_res (s : M) : Keep s.ended s.pushed (step s) := by
  unfold step
  split
  · unfold opening; simp only [keep_ite]; repeat' split
    all_goals first | trivial | exact ⟨rfl, rfl⟩
  · unfold readSize; simp only [keep_ite]; repeat' split
    all_goals first | trivial | exact ⟨rfl, rfl⟩
  · unfold readBytes; simp only [keep_ite]; repeat' split
    all_goals first | trivial | exact ⟨rfl, rfl⟩
  · unfold readHlit; simp only [keep_ite]; repeat' split
    all_goals first | trivial | exact ⟨rfl, rfl⟩
  · unfold readHdist; simp only [keep_ite]; repeat' split
    all_goals first | trivial | exact ⟨rfl, rfl⟩
  · unfold readHclen; simp only [keep_ite]; repeat' split
    all_goals first | trivial | exact ⟨rfl, rfl⟩
  · unfold readCodeLengths; simp only [keep_ite]; repeat' split
    all_goals first | trivial | exact ⟨rfl, rfl⟩
  · unfold readLengths readLength; simp only [keep_ite]; repeat' split
    all_goals first | trivial | exact keep_len _ _ _ | exact ⟨rfl, rfl⟩
  · unfold readLiteral; simp only [keep_ite]; repeat' split
    all_goals first | trivial | exact keep_lit _ _ _ | exact ⟨rfl, rfl⟩
  · unfold readDistance; simp only [keep_ite]; repeat' split
    all_goals first | trivial | exact keep_dist _ _ _ | exact ⟨rfl, rfl⟩
  · trivial
theorem keep_step {s t : M} (h : step s = .more t) : t.ended = s.ended ∧ t.pushed = s.pushed := by
  have := keep_res s
  rw [h] at this
  exact this
theorem keep_steps {s t : M} (h : Steps s t) : t.ended = s.ended ∧ t.pushed = s.pushed := by
  induction h with
  | refl => exact ⟨rfl, rfl⟩
  | cons h _ ih => have := keep_step h; exact ⟨ih.1.trans this.1, ih.2.trans this.2⟩
/-- The machine at a stream's beginning, these bytes pushed. -/
abbrev bg (wide : Bool) (S most : Nat) (l : List UInt8) (n : Nat) : M := { start wide S most with bits := bitsOf l, pushed := n }
theorem ext_bg (wide : Bool) (S most n : Nat) (x y : List UInt8) : ext (bg wide S most x n) (bitsOf y) = bg wide S most (x ++ y) n := by
  unfold ext bg
  rw [bitsOf_append]
theorem mod8 (y : List UInt8) : (bitsOf y).length % 8 = 0 := by rw [bitsOf_len]; omega
end InfMath
end

section
/-
  gzip's members: one of them.
-/
namespace Go.Proofs.YtilfmmjjiiabgaaGreatDoor.GzC
open Go.RowKit Go.My GzMath CrcMath Flt BitMath InfC
open InfMath (M Ok)
open Go.My.NumMath (bytesOf)

noncomputable def zeroPart : Value := .agg #[.bool false, .string ⟨#[]⟩, .float .f64 0, .int .i64 0, .int .i64 0, .int .u32 0, .int .i64 0]
/-- What member answers, once the header is read: 0 well, or an error. -/
noncomputable def memR (b : List UInt8) (from_ ratio c : Nat) (t : M) : Nat := if c ≠ 0 then c else if ovr t.out.length (t.pushed - t.bits.length / 8) ratio then 3 else if (b.drop (from_ + (t.pushed - t.bits.length / 8))).take 8 ≠ tailB t.out then 2 else 0
theorem info_part : (Tryz.prog.info? 39).map (·.size) = some 7 := by kernel_rfl
/-- The end of member: its first result is a row of cells. -/
theorem member_ret {a : Act} {w : World} {g : Nat} {C : Array Value} {R : Ending → World → Prop} {v1 v2 : Value} (hd : a.defers = []) (hp : a.tmps.getD 10 undef = .pointer (some ⟨g, 0, none⟩)) (hg : Blk w g 39 C) (hs : C.size = 7)
    (h1 : a.tmps.getD 11 undef = v1) (h2 : a.tmps.getD 12 undef = v2) (h : R (.returned (.tuple #[.agg C, v1, v2])) w) :
    bodyPost Tryz.prog Tryz.f20 R .ret a w := by
  have hp' : a.tmps[10]?.getD undef = .pointer (some ⟨g, 0, none⟩) := by simpa using hp
  have h1' : a.tmps[11]?.getD undef = v1 := by simpa using h1
  have h2' : a.tmps[12]?.getD undef = v2 := by simpa using h2
  have hr : (results Tryz.f20 a.tmps).run Tryz.prog w = .ok (.tuple #[.agg C, v1, v2]) w := by
    have e := run_loadVar_row (P := Tryz.prog) w g 39 39 C _ _ hg Tryz.underlying39 rfl (by rw [hs]; exact info_part)
    simp [results, hp', h1', h2', asAddr, e]
  exact bodyPost_ret hr hd h
theorem Below.setCells7 {B : Nat} {w w' : World} (h : Below B w w') (v0 v1 v2 v3 v4 v5 v6 : Value) :
    Below B w (((((((w'.setCell ⟨B, 0, none⟩ v0).setCell ⟨B, 1, none⟩ v1).setCell ⟨B, 2, none⟩ v2).setCell ⟨B, 3, none⟩ v3).setCell ⟨B, 4, none⟩ v4).setCell ⟨B, 5, none⟩ v5).setCell ⟨B, 6, none⟩ v6) :=
  ((((((h.setCell (Nat.le_refl _) _).setCell (Nat.le_refl _) _).setCell (Nat.le_refl _) _).setCell (Nat.le_refl _) _).setCell (Nat.le_refl _) _).setCell (Nat.le_refl _) _).setCell (Nat.le_refl _) _
theorem tailB_len' (d : List UInt8) : (tailB d).length = 8 := by unfold tailB; rw [List.length_append, Go.My.NumMath.bytesOf_len, Go.My.NumMath.bytesOf_len]
theorem own_tail {B : Nat} {w : World} {v : Value} {d : List UInt8} (h : Own 5 B w v (tailB d)) : ∃ a c, v = .slice a 8 c ∧ Bytes w a 8 c (tailB d) := by
  have := h.bytes
  rwa [tailB_len'] at this
theorem part_new {w5 w6 : World} (hb : Below w5.drew.heap.size w5.drew w6) (C : Array Value) :
    ∃ g5 : Nat, Value.pointer (some ⟨w6.heap.size, 0, none⟩) = Value.pointer (some ⟨g5, 0, none⟩) ∧ Hid (Blk (w6.alloc (.cells C 39)) g5 39 C) ∧ Hid (Below w5.heap.size w5 (w6.alloc (.cells C 39))) :=
  ⟨_, rfl, Lib.hid (Blk.new _ _ _), Lib.hid (((Below.refl w5.heap.size w5).drew.trans hb).alloc hb.size _)⟩
theorem part_set {w5 w6 : World} {C : Array Value} (hb : Below (w5.alloc (.cells C 39)).drew.heap.size (w5.alloc (.cells C 39)).drew w6) (hz : Blk w6 w5.heap.size 39 #[.bool false, .string ⟨#[]⟩, .float .f64 0, .int .i64 0, .int .i64 0, .int .u32 0, .int .i64 0]) (v0 v1 v2 v3 v4 v5 v6 : Value) :
    ∃ g5 : Nat, Value.pointer (some ⟨w5.heap.size, 0, none⟩) = Value.pointer (some ⟨g5, 0, none⟩) ∧
      Hid (Blk (((((((w6.setCell ⟨w5.heap.size, 0, none⟩ v0).setCell ⟨w5.heap.size, 1, none⟩ v1).setCell ⟨w5.heap.size, 2, none⟩ v2).setCell ⟨w5.heap.size, 3, none⟩ v3).setCell ⟨w5.heap.size, 4, none⟩ v4).setCell ⟨w5.heap.size, 5, none⟩ v5).setCell ⟨w5.heap.size, 6, none⟩ v6) g5 39 #[v0, v1, v2, v3, v4, v5, v6]) ∧
      Hid (Below w5.heap.size w5 (((((((w6.setCell ⟨w5.heap.size, 0, none⟩ v0).setCell ⟨w5.heap.size, 1, none⟩ v1).setCell ⟨w5.heap.size, 2, none⟩ v2).setCell ⟨w5.heap.size, 3, none⟩ v3).setCell ⟨w5.heap.size, 4, none⟩ v4).setCell ⟨w5.heap.size, 5, none⟩ v5).setCell ⟨w5.heap.size, 6, none⟩ v6)) := by
  have hs : w5.heap.size ≤ (w5.alloc (.cells C 39)).drew.heap.size := by
    show w5.heap.size ≤ (w5.alloc (.cells C 39)).heap.size
    rw [World.size_alloc]; omega
  have hb0 : Below w5.heap.size w5 w6 := ((((Below.refl w5.heap.size w5).alloc (Nat.le_refl _) _).drew).trans (hb.mono hs))
  exact ⟨_, rfl, Lib.hid (((((((hz.set_ 0 _).set_ 1 _).set_ 2 _).set_ 3 _).set_ 4 _).set_ 5 _).set_ 6 _), Lib.hid (Below.setCells7 hb0 _ _ _ _ _ _ _)⟩
set_option maxRecDepth 100000 in
set_option maxHeartbeats 4000000 in
theorem member_go (B : Nat) (ov : Option Addr) (oc : Nat) (OL : List UInt8) (a : Option Addr) (len cap : Nat) (b : List UInt8) (at_ most ratio : Nat) (h : Hd) (t : M) (c : Nat) (w : World)
    (hown : Own 5 B w (.slice ov OL.length oc) OL) (hB : B ≤ w.heap.size) (hb : Bytes w a len cap b) (hfar : ∀ k off, a = some ⟨k, off, none⟩ → k < B) (hl : len ≤ 100000) (hm : OL.length ≤ most) (hm2 : most ≤ 1073741824) (hO : Ordr B w) (ha : at_ ≤ len)
    (hrd : rd (b.drop at_) = .ok h) (hpos : at_ + h.n < b.length) (hends : InfMath.Ends (began false 32768 (most - OL.length) ((b.drop (at_ + h.n)).take (min 256 (b.length - (at_ + h.n))))) t c) (hc5 : c ≠ 5) :
    Calls Tryz.prog 20 #[.slice a len cap, .int .i64 (at_ : Int), .slice ov OL.length oc, .int .i64 (most : Int), .float .f64 ratio] w fun e w' =>
      ((memR b (at_ + h.n) ratio c t = 0 ∧ ∃ ov' oc', e = .returned (.tuple #[Mb.v ⟨h, at_ + h.n, t.pushed - t.bits.length / 8, t.out⟩, .slice ov' (OL ++ t.out).length oc', .int .i64 0]) ∧ Own 5 B w' (.slice ov' (OL ++ t.out).length oc') (OL ++ t.out)) ∨
       (memR b (at_ + h.n) ratio c t ≠ 0 ∧ e = .returned (.tuple #[zeroPart, .slice none 0 0, .int .i64 ((memR b (at_ + h.n) ratio c t : Nat) : Int)]))) ∧ Only (fun k => (Value.slice ov OL.length oc).ownBlock = some k) w w' := by
  obtain ⟨g, hg⟩ : ∃ g, g = w.heap.size := ⟨_, rfl⟩
  obtain ⟨w1, hw1⟩ : ∃ w1, w1 = w.alloc (.cells #[.bool false, .string ⟨#[]⟩, .float .f64 0, .int .i64 0, .int .i64 0, .int .u32 0, .int .i64 0] 39) := ⟨_, rfl⟩
  have hb1 : Below w.heap.size w w1 := by rw [hw1]; exact (Below.refl _ _).alloc (Nat.le_refl _) _
  have hk1 : Blk w1 g 39 #[.bool false, .string ⟨#[]⟩, .float .f64 0, .int .i64 0, .int .i64 0, .int .u32 0, .int .i64 0] := by rw [hw1, hg]; exact Blk.new _ _ _
  obtain ⟨a2, ha2, hs2, hby2, hf2⟩ := cut_from hb at_ ha
  have hread := read_any a2 (len - at_) (cap - at_) (b.drop at_) w1 (hby2.below (Nat.le_refl _) hb1) (by omega)
  rw [hrd] at hread
  unfold readV headV at hread
  simp only at hread
  obtain ⟨tf, htf⟩ : ∃ tf, tf = ClkC.fromU (h.time : Int) := ⟨_, rfl⟩
  rw [← htf] at hread
  have HR := Lib.hid hread
  have hpn : at_ + h.n < len := by have := hpos; rw [hb.len_eq] at this; exact this
  have HI := Lib.hid (And.intro hown (And.intro hB (And.intro hb (And.intro hfar (And.intro hO hends)))))
  have HB1 := Lib.hid hb1
  have HK1 := Lib.hid hk1
  have HTF := Lib.hid htf
  have HG : Hid (w.heap.size ≤ g) := Lib.hid (by rw [hg]; exact Nat.le_refl _)
  have e1 : IntKind.i64.wrap ((at_ : Int) + (h.n : Int)) = ((at_ + h.n : Nat) : Int) := by rw [IntWalk.i64_in _ (by omega)]; simp
  clear hown hB hb hfar hO hends hrd hpos hb1 hk1 htf hby2 hf2 hread
  go_enter Tryz.func20, Tryz.ntmps20
  go_upto_region 2 with (fail)
  rw [← hw1, ← hg]
  clear hw1 hg
  go_wp2_with fail
  refine HR.out.mono ?_
  rintro e w2 ⟨rfl, hb2⟩
  have HK2 := Lib.hid (HK1.out.same (hb2.block g HK1.out.lt))
  have HB2 := Lib.hid (HB1.out.trans (hb2.mono HB1.out.size))
  clear hb2 HR HK1 HB1 hs2 ha2
  obtain ⟨a3, ha3, hs3, hby3, hf3⟩ := cut_from HI.out.2.2.1 (at_ + h.n) (by omega)
  have hs3' : ∀ (W : World), (Instr.slice 25 (.slice a len cap) (some (.int .i64 ((at_ : Int) + (h.n : Int)))) none none).run Tryz.prog W = .ok (.slice a3 (len - (at_ + h.n)) (cap - (at_ + h.n))) W := fun W => by
    have := hs3 W
    rw [show (((at_ + h.n : Nat) : Int)) = (at_ : Int) + (h.n : Int) by simp] at this
    exact this
  go_wp2_with (first
    | (refine wpList_store_row rfl _ _ _ rfl w2.heap.size _ rfl rfl 27 #[.bool false, .string ⟨#[]⟩, .float .f64 0] (heap_alloc_new w2 _) (by kernel_rfl) rfl (by simp [Value.oneCell']) ?_))
  have hends := HI.out.2.2.2.2.2
  obtain ⟨g2, hg2⟩ : ∃ g2, g2 = w2.heap.size := ⟨_, rfl⟩
  obtain ⟨w3, hw3⟩ : ∃ w3, w3 = (w2.alloc (.cells #[.bool false, .string ⟨#[]⟩, .float .f64 0] 27)).setRow w2.heap.size #[.bool h.named, .string ⟨h.name.toArray⟩, .float .f64 tf] := ⟨_, rfl⟩
  have hb3 : Below w2.heap.size w2 w3 := by rw [hw3]; exact below_setRow ((Below.refl _ _).alloc (Nat.le_refl _) _) (Nat.le_refl _) _
  have HH3 : Hid (Blk w3 g2 27 #[.bool h.named, .string ⟨h.name.toArray⟩, .float .f64 tf]) := Lib.hid (by rw [hw3, hg2]; exact setRow_heap _ _ _ _ _ _ (heap_alloc_new w2 _))
  have HK3 := Lib.hid (HK2.out.same (hb3.block g HK2.out.lt))
  have HB3 := Lib.hid (HB2.out.trans (hb3.mono HB2.out.size))
  rw [← hw3, ← hg2]
  clear hw3 hg2 hb3 HK2 HB2
  have HO3 : Hid (Own 5 B w3 (.slice ov OL.length oc) OL) := Lib.hid ((Only.of_below HB3.out (fun _ => False)).own HI.out.1 (fun _ _ h => h))
  have hun := unpack_any B ov oc OL a3 (len - (at_ + h.n)) (cap - (at_ + h.n)) (b.drop (at_ + h.n)) most w3 HO3.out (Nat.le_trans HI.out.2.1 HB3.out.size) (hby3.below (Nat.le_refl _) HB3.out) (by omega) (by omega) hm hm2 ((HI.out.2.2.2.2.1.below HI.out.2.1 HB3.out).mono (Nat.le_trans HI.out.2.1 HB3.out.size)) t c (by rw [HI.out.2.2.1.len_eq] at hends; exact hends) hc5
  have HUN := Lib.hid hun
  clear hun hends hs3 ha3 hby3 hf3 hs3'
  have HC5 := Lib.hid hc5
  by_cases hc0 : c = 0
  · subst hc0
    refine HUN.out.mono ?_
    rintro e w4 ⟨⟨-, ov', oc', rfl, ho4⟩ | ⟨h, -⟩, hon⟩
    · have HK4 := Lib.hid (hon.blk HK3.out (fun e => own_ne HO3.out HK3.out (by decide) e.symm))
      have HH4 := Lib.hid (hon.blk HH3.out (fun e => own_ne HO3.out HH3.out (by decide) e.symm))
      have HON : Hid (Only (fun k => (Value.slice ov OL.length oc).ownBlock = some k) w w4) := Lib.hid ((Only.of_below HB3.out _).trans hon (fun _ _ h => h))
      have hby4 : Bytes w4 a len cap b := HON.out.bytes HI.out.2.2.1 (fun k off e hh => by have h1 := HI.out.2.2.2.1 k off e; have h2 := (World.ownsRow.lt HI.out.1 k hh).1; omega)
      obtain ⟨U, hU⟩ : ∃ U, U = t.pushed - t.bits.length / 8 := ⟨_, rfl⟩
      obtain ⟨L, hL⟩ : ∃ L, L = t.out.length := ⟨_, rfl⟩
      have hok := (ok_open (wide := false) (S := 32768) (most := most - OL.length) (p := ((b.drop (at_ + h.n)).take (min 256 (b.length - (at_ + h.n)))).length) (bs := bitsOf ((b.drop (at_ + h.n)).take (min 256 (b.length - (at_ + h.n))))) (by omega) (by omega) (by omega) (by simp; omega) (by rw [bitsOf_len]; omega)).steps HI.out.2.2.2.2.2.1
      have hpu := (InfMath.keep_steps HI.out.2.2.2.2.2.1).2
      have hUl : at_ + h.n + U ≤ len := by
        have e : t.pushed = min 256 (b.length - (at_ + h.n)) := by
          rw [hpu]; simp only [List.length_take, List.length_drop]; omega
        have := HI.out.2.2.1.len_eq
        omega
      have hLm : L ≤ 1073741824 := by have := hok.outl; have := hok.room; have := hok.most; omega
      have hres : memR b (at_ + h.n) ratio 0 t = if ovr L U ratio then 3 else if (b.drop (at_ + h.n + U)).take 8 ≠ tailB t.out then 2 else 0 := by
        unfold memR; rw [if_neg (by simp), ← hU, ← hL]
      rw [← hU]
      obtain ⟨av, cv, hev, hbv⟩ := ho4.bytes
      cases hev
      obtain ⟨a9, ha9, hs9, hby9, hf9⟩ := cut_from hbv OL.length (by rw [List.length_append]; omega)
      have e9 : (OL ++ t.out).length - OL.length = L := by rw [List.length_append, hL]; omega
      rw [e9] at hs9 hby9
      rw [List.drop_left] at hby9
      have hlen : (OL ++ t.out).length = OL.length + L := by rw [List.length_append, hL]
      have HRS := Lib.hid (And.intro hres (And.intro hL (And.intro hlen hU)))
      have HD := Lib.hid (And.intro ho4 (And.intro hby9 hby4))
      have HOV := Lib.hid (fun W => over_any L U ratio W)
      rw [hlen]
      clear HUN HO3 hon HK3 HB3 HH3 hok hpu hby4 hres hL hbv ho4 hf9 hby9 e9 hU
      by_cases hov : ovr L U ratio = true
      · rw [hov] at HOV
        go_wp2_with fail
        refine (HOV.out _).mono ?_
        rintro e w5 ⟨rfl, hb5⟩
        have HK5 := Lib.hid (HK4.out.same (hb5.block g HK4.out.lt))
        have HON5 := Lib.hid (HON.out.then_below hb5)
        clear hb5 HOV HK4 HON HD HH4
        go_wp2_with (first
          | (refine wpList_store_row rfl _ _ _ rfl g _ rfl rfl 39 #[.bool false, .string ⟨#[]⟩, .float .f64 0, .int .i64 0, .int .i64 0, .int .u32 0, .int .i64 0] HK5.out (by kernel_rfl) rfl (by simp [Value.oneCell']) ?_))
        have hro := only_row w5 g #[.bool false, .string ⟨#[]⟩, .float .f64 0, .int .i64 0, .int .i64 0, .int .u32 0, .int .i64 0]
        have hm : memR b (at_ + h.n) ratio 0 t = 3 := by rw [HRS.out.1, if_pos hov]
        refine member_ret (g := g) rfl rfl (setRow_heap _ _ _ _ _ _ HK5.out) rfl rfl rfl ⟨.inr ⟨by rw [hm]; decide, by rw [hm]; rfl⟩, HON5.out.trans hro (fun i hi hh => absurd hi (by have := HG.out; omega))⟩
      · have hovf : ovr L U ratio = false := by simpa using hov
        rw [hovf] at HOV
        have HSM := Lib.hid (fun W hW => CrcC.sum_bv a9 L (oc' - OL.length) t.out W hW)
        go_upto_region 11 with (first | (go_at_call 32; refine (HOV.out _).mono ?_; rintro e w5 ⟨rfl, hb5⟩; have HB5 := Lib.hid hb5; clear hb5))
        have HK5 := Lib.hid (HK4.out.same (HB5.out.block g HK4.out.lt))
        have HH5 := Lib.hid (HH4.out.same (HB5.out.block g2 HH4.out.lt))
        have HON5 := Lib.hid (HON.out.then_below HB5.out)
        have HD5 := Lib.hid (And.intro (HD.out.1.below (Nat.le_refl _) HB5.out) (And.intro (HD.out.2.1.below (Nat.le_refl _) HB5.out) (HD.out.2.2.below (Nat.le_refl _) HB5.out)))
        clear HOV HK4 HON HD HH4 HB5
        have hout5 := HD5.out.1
        go_cut [20] (fun pv wc => ∃ g5 : Nat, pv = .pointer (some ⟨g5, 0, none⟩) ∧ Hid (Blk wc g5 39 #[.bool h.named, .string ⟨h.name.toArray⟩, .float .f64 tf, .int .i64 ((at_ : Int) + (h.n : Int)), .int .i64 (U : Int), .int .u32 ((crc 0#32 t.out).toNat : Int), .int .i64 (L : Int)]) ∧ Hid (Below w5.heap.size w5 wc))
        case first =>
          have c0 := HH5.out.cell 0
          have c1 := HH5.out.cell 1
          have c2 := HH5.out.cell 2
          have HBY5 : Hid (Bytes w5.drew a9 L (oc' - OL.length) t.out) := Lib.hid (HD5.out.2.1.below (Nat.le_refl _) (Below.refl _ _).drew)
          have HHD : Hid (Blk w5.drew g2 27 #[.bool h.named, .string ⟨h.name.toArray⟩, .float .f64 tf]) := Lib.hid (HH5.out.same rfl)
          simp only [List.getElem?_toArray, List.getElem?_cons_zero, List.getElem?_cons_succ] at c0 c1 c2
          obtain ⟨Z, hZ⟩ : ∃ Z : World, Z = w5.alloc (.cells #[.bool false, .string ⟨#[]⟩, .float .f64 0, .int .i64 0, .int .i64 0, .int .u32 0, .int .i64 0] 39) := ⟨_, rfl⟩
          have hZb : Below w5.heap.size w5 Z := by rw [hZ]; exact (Below.refl _ _).alloc (Nat.le_refl _) _
          have HZB : Hid (Bytes Z.drew a9 L (oc' - OL.length) t.out) := Lib.hid (HD5.out.2.1.below (Nat.le_refl _) hZb.drew)
          have HZH : Hid (Blk Z.drew g2 27 #[.bool h.named, .string ⟨h.name.toArray⟩, .float .f64 tf]) := Lib.hid (HH5.out.same (hZb.drew.block g2 HH5.out.lt))
          have HZZ : Hid (Blk Z.drew w5.heap.size 39 #[.bool false, .string ⟨#[]⟩, .float .f64 0, .int .i64 0, .int .i64 0, .int .u32 0, .int .i64 0]) := Lib.hid (by rw [hZ]; exact Blk.new _ _ _)
          have e0 : Z.cell? ⟨g2, 0, none⟩ = _ := HZH.out.cell 0
          have e1' : Z.cell? ⟨g2, 1, none⟩ = _ := HZH.out.cell 1
          have e2 : Z.cell? ⟨g2, 2, none⟩ = _ := HZH.out.cell 2
          simp only [List.getElem?_toArray, List.getElem?_cons_zero, List.getElem?_cons_succ] at e0 e1' e2
          rw [hZ] at e0 e1' e2 HZB HZH HZZ
          clear hZb hZ
          have hg2 : g2 < w5.heap.size := HH5.out.lt
          have hg3 : ¬ g2 = w5.heap.size := by omega
          go_region_with (go_at_call 33; first
            | (refine (HSM.out _ HBY5.out).mono ?_; rintro e w6 ⟨rfl, hb6⟩; have hg6 : g2 < w6.heap.size := (HHD.out.same (hb6.block g2 HHD.out.lt)).lt; have d0 := (HHD.out.same (hb6.block g2 HHD.out.lt)).cell 0; have d1 := (HHD.out.same (hb6.block g2 HHD.out.lt)).cell 1; have d2 := (HHD.out.same (hb6.block g2 HHD.out.lt)).cell 2; have HB6 := Lib.hid hb6; clear hb6; simp only [List.getElem?_toArray, List.getElem?_cons_zero, List.getElem?_cons_succ] at d0 d1 d2; have hst := store_float ⟨w6.heap.size, 2, none⟩ tf (w6.alloc (.cells #[.bool h.named, .string ⟨h.name.toArray⟩, .float .f64 0, .int .i64 0, .int .i64 0, .int .u32 0, .int .i64 0] 39)) (.float .f64 0) (by simp [go_sem]) (by simp [go_sem]))
            | (refine (HSM.out _ HZB.out).mono ?_; rintro e w6 ⟨rfl, hb6⟩; have hg6 : g2 < w6.heap.size := (HZH.out.same (hb6.block g2 HZH.out.lt)).lt; have d0 := (HZH.out.same (hb6.block g2 HZH.out.lt)).cell 0; have d1 := (HZH.out.same (hb6.block g2 HZH.out.lt)).cell 1; have d2 := (HZH.out.same (hb6.block g2 HZH.out.lt)).cell 2; have hzz := HZZ.out.same (hb6.block w5.heap.size HZZ.out.lt); have HZ6 := Lib.hid hzz; have z0 := hzz.cell 0; have z1 := hzz.cell 1; have z2 := hzz.cell 2; have z3 := hzz.cell 3; have z4 := hzz.cell 4; have z5 := hzz.cell 5; have z6 := hzz.cell 6; have y0 := hzz.frozen 0; have y1 := hzz.frozen 1; have y2 := hzz.frozen 2; have y3 := hzz.frozen 3; have y4 := hzz.frozen 4; have y5 := hzz.frozen 5; have y6 := hzz.frozen 6; have HB6 := Lib.hid hb6; clear hb6; simp only [List.getElem?_toArray, List.getElem?_cons_zero, List.getElem?_cons_succ] at d0 d1 d2 z0 z1 z2 z3 z4 z5 z6; have hst := store_float ⟨w5.heap.size, 2, none⟩ tf ((w6.setCell ⟨w5.heap.size, 0, none⟩ (.bool h.named)).setCell ⟨w5.heap.size, 1, none⟩ (.string ⟨h.name.toArray⟩)) (.float .f64 0) (by simp [go_sem, z2]) (by simp [go_sem, y2])))
          all_goals (go_wp2_with fail; go_meet)
          all_goals first
            | with_reducible exact part_new HB6.out _
            | with_reducible exact part_set HB6.out HZ6.out _ _ _ _ _ _ _
        obtain ⟨g5, rfl, HP6, HBW⟩ := hcut
        have HBYc := Lib.hid (HD5.out.2.2.below (Nat.le_refl _) HBW.out)
        have HK6 := Lib.hid (HK5.out.same (HBW.out.block g HK5.out.lt))
        have HOc := Lib.hid (HD5.out.1.below (Nat.le_refl _) HBW.out)
        have HONc := Lib.hid (HON5.out.then_below HBW.out)
        obtain ⟨a12, ha12, hs12, hby12, -⟩ := cut_from HBYc.out (at_ + h.n + U) hUl
        obtain ⟨K, hK⟩ : ∃ K, K = decide ((b.drop (at_ + h.n + U)).take 8 = tailB t.out) := ⟨_, rfl⟩
        have hbl := HBYc.out.len_eq
        have hKp : (decide (8 ≤ len - (at_ + h.n + U)) && ((b.drop (at_ + h.n + U)).take 8 == tailB t.out)) = K := by
          rw [hK]
          by_cases hh : (b.drop (at_ + h.n + U)).take 8 = tailB t.out
          · have h8 := congrArg List.length hh
            rw [tailB_len', List.length_take, List.length_drop] at h8
            rw [decide_eq_true hh, hh, decide_eq_true (by omega)]; simp
          · rw [decide_eq_false hh]; simp [hh]
        obtain ⟨CR, hCR⟩ : ∃ CR, CR = (crc 0#32 t.out).toNat := ⟨_, rfl⟩
        have hTL := fun W => tail_any CR L W (by rw [hCR]; exact (crc 0#32 t.out).isLt) (by omega)
        have hTe : bytesOf false 4 CR ++ bytesOf false 4 L = tailB t.out := by rw [hCR, HRS.out.2.1]; rfl
        rw [hTe] at hTL
        have HTL := Lib.hid hTL
        have HPF := Lib.hid (fun (W : World) (a2 : Option Addr) (c2 : Nat) (h1 : Bytes W a12 (len - (at_ + h.n + U)) (cap - (at_ + h.n + U)) (b.drop (at_ + h.n + U))) (h2 : Bytes W a2 8 c2 (tailB t.out)) => prefix_any W h1 h2 K hKp)
        have HB12 := Lib.hid hby12
        have HKK := Lib.hid (And.intro hK hCR)
        have e12 : IntKind.i64.wrap ((at_ : Int) + (h.n : Int) + (U : Int)) = (at_ : Int) + (h.n : Int) + (U : Int) := IntWalk.i64_in _ (by omega)
        have e13 : wrap64 ((at_ : Int) + (h.n : Int) + (U : Int)) = (at_ : Int) + (h.n : Int) + (U : Int) := IntWalk.wrap64_in _ (by omega)
        have hs13 : ∀ (W : World), (Instr.slice 25 (.slice a len cap) (some (.int .i64 ((at_ : Int) + (h.n : Int) + (U : Int)))) none none).run Tryz.prog W = .ok (.slice a12 (len - (at_ + h.n + U)) (cap - (at_ + h.n + U))) W := fun W => by
          have := hs12 W
          rw [show (((at_ + h.n + U : Nat) : Int)) = (at_ : Int) + (h.n : Int) + (U : Int) by simp] at this
          exact this
        have x5 := HP6.out.cell 5
        have x6 := HP6.out.cell 6
        simp only [List.getElem?_toArray, List.getElem?_cons_zero, List.getElem?_cons_succ] at x5 x6
        rw [← hCR] at x5 HP6
        clear HK5 HON5 HD5 HH5 hs12 hby12 hK hKp hCR hTL hTe hout5 hbl HSM
        go_upto_region 12 with (fail)
        go_cut [80] (fun v wd => v = .bool (!K) ∧ Hid (Below wc.heap.size wc wd))
        case first =>
          have HB12d : Hid (Bytes wc.drew a12 (len - (at_ + h.n + U)) (cap - (at_ + h.n + U)) (b.drop (at_ + h.n + U))) := Lib.hid (HB12.out.below (Nat.le_refl _) (Below.refl _ _).drew)
          go_region_with (first
            | (go_at_call 19; refine (HTL.out _).mono ?_; rintro e w7 ⟨v7, rfl, ho7, hb7⟩; obtain ⟨a7, c7, rfl, hby7⟩ := own_tail ho7; have HB7 := Lib.hid hb7; have HY7 := Lib.hid hby7; clear ho7 hb7 hby7)
            | (go_at_call 34; refine (HPF.out _ a7 c7 (HB12d.out.below (Nat.le_refl _) HB7.out) HY7.out).mono ?_; rintro e w8 ⟨rfl, rfl⟩))
          all_goals (go_wp2_with fail; go_meet)
          all_goals exact ⟨rfl, Lib.hid ((Below.refl wc.heap.size wc).drew.trans HB7.out)⟩
        obtain ⟨rfl, HBd⟩ := hcut
        have HK7 := Lib.hid (HK6.out.same (HBd.out.block g HK6.out.lt))
        have HP7 := Lib.hid (HP6.out.same (HBd.out.block g5 HP6.out.lt))
        have HOd := Lib.hid (HOc.out.below (Nat.le_refl _) HBd.out)
        have HONd := Lib.hid (HONc.out.then_below HBd.out)
        clear HK6 HP6 HOc HONc HB12 HPF HTL hs13 x5 x6
        cases hKb : K with
        | false =>
          rw [hKb] at HKK
          go_wp2_with (first
            | (refine wpList_store_row rfl _ _ _ rfl g _ rfl rfl 39 #[.bool false, .string ⟨#[]⟩, .float .f64 0, .int .i64 0, .int .i64 0, .int .u32 0, .int .i64 0] HK7.out (by kernel_rfl) rfl (by simp [Value.oneCell']) ?_))
          have hm : memR b (at_ + h.n) ratio 0 t = 2 := by rw [HRS.out.1, if_neg hov, if_pos (of_decide_eq_false HKK.out.1.symm)]
          exact member_ret (g := g) rfl rfl (setRow_heap _ _ _ _ _ _ HK7.out) rfl rfl rfl ⟨.inr ⟨by rw [hm]; decide, by rw [hm]; rfl⟩, HONd.out.trans (only_row _ g _) (fun i hi hh => absurd hi (by have := HG.out; omega))⟩
        | true =>
          rw [hKb] at HKK
          obtain ⟨PC, hPC⟩ : ∃ PC : Array Value, PC = #[.bool h.named, .string ⟨h.name.toArray⟩, .float .f64 tf, .int .i64 ((at_ : Int) + (h.n : Int)), .int .i64 (U : Int), .int .u32 (CR : Int), .int .i64 (L : Int)] := ⟨_, rfl⟩
          rw [← hPC] at HP7
          have hPs : some 7 = some PC.size := by rw [hPC]; rfl
          have HPC := Lib.hid (And.intro hPC hPs)
          clear hPC hPs
          go_wp2_with (first
            | (refine wpList_load_row rfl 39 _ rfl g5 rfl 39 PC _ _ HP7.out Tryz.underlying39 rfl (by rw [← HPC.out.2]; exact info_part) ?_)
            | (refine wpList_store_row rfl _ _ _ rfl g _ rfl rfl 39 #[.bool false, .string ⟨#[]⟩, .float .f64 0, .int .i64 0, .int .i64 0, .int .u32 0, .int .i64 0] HK7.out (by rw [← HPC.out.2]; exact info_part) (Option.some.inj HPC.out.2) (by rw [HPC.out.1]; simp [Value.oneCell']) ?_))
          have hm : memR b (at_ + h.n) ratio 0 t = 0 := by rw [HRS.out.1, if_neg hov, if_neg (fun hne => hne (of_decide_eq_true HKK.out.1.symm))]
          have hv : Value.agg PC = Mb.v ⟨h, at_ + h.n, t.pushed - t.bits.length / 8, t.out⟩ := by
            rw [HPC.out.1, ← HRS.out.2.2.2, HTF.out, HKK.out.2, HRS.out.2.1]
            rfl
          exact member_ret (g := g) rfl rfl (setRow_heap _ _ _ _ _ _ HK7.out) (Option.some.inj HPC.out.2).symm rfl rfl ⟨.inl ⟨hm, ov', oc', by rw [hv, HRS.out.2.2.1]; rfl, (only_row _ g _).own HOd.out (fun k hk e => own_ne HOd.out HK7.out (by decide) (by rw [hk, e]))⟩, HONd.out.trans (only_row _ g _) (fun i hi hh => absurd hi (by have := HG.out; omega))⟩
    · exact absurd rfl h
  · refine HUN.out.mono ?_
    rintro e w4 ⟨⟨h, -⟩ | ⟨-, rfl⟩, hon⟩
    · exact absurd h hc0
    · have HC0 := Lib.hid hc0
      have HK4 := Lib.hid (hon.blk HK3.out (fun e => own_ne HO3.out HK3.out (by decide) e.symm))
      have HON : Hid (Only (fun k => (Value.slice ov OL.length oc).ownBlock = some k) w w4) := Lib.hid ((Only.of_below HB3.out _).trans hon (fun _ _ h => h))
      have hcz : ((c : Int) != 0) = true := by simp; omega
      clear HUN HO3 HI HTF HH3 hc0 hon HK3 HB3
      go_wp2_with (first
        | (refine wpList_store_row rfl _ _ _ rfl g _ rfl rfl 39 #[.bool false, .string ⟨#[]⟩, .float .f64 0, .int .i64 0, .int .i64 0, .int .u32 0, .int .i64 0] HK4.out (by kernel_rfl) rfl (by simp [Value.oneCell']) ?_))
      have hro := only_row w4 g #[.bool false, .string ⟨#[]⟩, .float .f64 0, .int .i64 0, .int .i64 0, .int .u32 0, .int .i64 0]
      have hm : memR b (at_ + h.n) ratio c t = c := by unfold memR; rw [if_pos HC0.out]
      refine member_ret (g := g) rfl rfl (setRow_heap _ _ _ _ _ _ HK4.out) rfl rfl rfl ⟨.inr ⟨by rw [hm]; exact HC0.out, by rw [hm]; rfl⟩, HON.out.trans hro (fun i hi hh => absurd hi (by have := HG.out; omega))⟩
set_option maxRecDepth 100000 in
set_option maxHeartbeats 4000000 in
theorem member_head {ov : Option Addr} {oc n : Nat} {a : Option Addr} {len cap : Nat} {b : List UInt8} {at_ most ratio k : Nat} {w : World} (hb : Bytes w a len cap b) (hl : len ≤ 100000) (ha : at_ ≤ len) (hk : rd (b.drop at_) = .bad k) (h0 : k ≠ 0) :
    Calls Tryz.prog 20 #[.slice a len cap, .int .i64 (at_ : Int), .slice ov n oc, .int .i64 (most : Int), .float .f64 ratio] w fun e w' =>
      e = .returned (.tuple #[zeroPart, .slice none 0 0, .int .i64 ((if k = 5 then 2 else k : Nat) : Int)]) ∧ Below w.heap.size w w' := by
  obtain ⟨g, hg⟩ : ∃ g, g = w.heap.size := ⟨_, rfl⟩
  obtain ⟨w1, hw1⟩ : ∃ w1, w1 = w.alloc (.cells #[.bool false, .string ⟨#[]⟩, .float .f64 0, .int .i64 0, .int .i64 0, .int .u32 0, .int .i64 0] 39) := ⟨_, rfl⟩
  have hb1 : Below w.heap.size w w1 := by rw [hw1]; exact (Below.refl _ _).alloc (Nat.le_refl _) _
  have hk1 : Blk w1 g 39 #[.bool false, .string ⟨#[]⟩, .float .f64 0, .int .i64 0, .int .i64 0, .int .u32 0, .int .i64 0] := by rw [hw1, hg]; exact Blk.new _ _ _
  obtain ⟨a2, ha2, hs2, hby2, hf2⟩ := cut_from hb at_ ha
  have hread := read_any a2 (len - at_) (cap - at_) (b.drop at_) w1 (hby2.below (Nat.le_refl _) hb1) (by omega)
  rw [hk] at hread
  unfold readV headV at hread
  simp only at hread
  have HR := Lib.hid hread
  have HB1 := Lib.hid hb1
  have HK1 := Lib.hid hk1
  have HW := Lib.hid (fun w => whole_any k w)
  have HG : Hid (w.heap.size ≤ g) := Lib.hid (by rw [hg]; exact Nat.le_refl _)
  obtain ⟨c, hc⟩ : ∃ c, c = (if k = 5 then 2 else k) := ⟨_, rfl⟩
  rw [← hc] at HW ⊢
  clear hb hb1 hk1 hby2 hf2 hread hk hc
  go_enter Tryz.func20, Tryz.ntmps20
  go_upto_region 2 with (fail)
  rw [← hw1, ← hg]
  clear hw1 hg
  go_wp2_with fail
  refine HR.out.mono ?_
  rintro e w2 ⟨rfl, hb2⟩
  have HK2 := Lib.hid (HK1.out.same (hb2.block g HK1.out.lt))
  have HB2 := Lib.hid (HB1.out.trans (hb2.mono HB1.out.size))
  clear hb2 HR HK1 HB1 hs2 ha2
  have hkz : ((k : Int) != 0) = true := by simp; omega
  have hon : Only (fun _ => False) w w2 := Only.of_below HB2.out _
  go_wp2_with (first
    | (refine wpList_store_row rfl _ _ _ rfl w2.heap.size _ rfl rfl 27 #[.bool false, .string ⟨#[]⟩, .float .f64 0] (heap_alloc_new w2 _) (by kernel_rfl) rfl (by simp [Value.oneCell']) ?_))
  refine (HW.out _).mono ?_
  rintro e w3 ⟨rfl, rfl⟩
  obtain ⟨w4, hw4⟩ : ∃ w4, w4 = (w2.alloc (.cells #[.bool false, .string ⟨#[]⟩, .float .f64 0] 27)).setRow w2.heap.size #[.bool false, .string ⟨#[]⟩, .float .f64 0] := ⟨_, rfl⟩
  have hb4 : Below w2.heap.size w2 w4 := by rw [hw4]; exact below_setRow ((Below.refl _ _).alloc (Nat.le_refl _) _) (Nat.le_refl _) _
  have HK4 := Lib.hid (HK2.out.same (hb4.block g HK2.out.lt))
  have HB4 := Lib.hid (HB2.out.trans (hb4.mono HB2.out.size))
  rw [← hw4]
  clear hw4 hb4 HK2 HB2
  go_wp2_with (first
    | (refine wpList_store_row rfl _ _ _ rfl g _ rfl rfl 39 #[.bool false, .string ⟨#[]⟩, .float .f64 0, .int .i64 0, .int .i64 0, .int .u32 0, .int .i64 0] HK4.out (by kernel_rfl) rfl (by simp [Value.oneCell']) ?_))
  exact member_ret (g := g) rfl rfl (setRow_heap _ _ _ _ _ _ HK4.out) rfl rfl rfl ⟨rfl, below_setRow HB4.out HG.out _⟩
end Go.Proofs.YtilfmmjjiiabgaaGreatDoor.GzC
end
