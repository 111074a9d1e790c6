import Derived.Test.YtjejlhpnhkacmaaGreatDoorMgM
import Derived.Test.YtjejlhpnhkacmaaGreatDoorMgR
import Derived.Test.YtjejlhpnhkacmaaGreatDoorMgL
import Derived.Test.YtjejlhpnhkacmaaGreatDoorMgU
import Derived.Test.YtjejlhpnhkacmaaGreatDoorMgV

section
/-
  A beginning of a right stream, and the rest behind it. No program, no dump.
-/
namespace InfMath
open BitMath CanMath TabMath WinMath

/-- The same, so many bytes counted. -/
abbrev pu (n : Nat) (s : M) : M := { s with pushed := n }
def puR (n : Nat) : Res → Res
  | .more s => .more (pu n s)
  | .halt c => .halt c
theorem puR_ite (n : Nat) (c : Prop) [Decidable c] (a b : Res) : puR n (if c then a else b) = if c then puR n a else puR n b := by split <;> rfl
section
variable (p : Nat) (s : M)
theorem pu_len (v n : Nat) : readLen (pu p s) v n = puR p (readLen s v n) := by
  unfold readLen
  simp only [puR_ite]
  rfl
theorem pu_lit (v n : Nat) : readLit (pu p s) v n = puR p (readLit s v n) := by
  unfold readLit
  simp only [puR_ite]
  split
  · split
    · rfl
    · rfl
  · split
    · rfl
    · cases h : base v s.wide with
      | none => rfl
      | some q => simp only [puR_ite]; rfl
theorem pu_dist (v n : Nat) : readDist (pu p s) v n = puR p (readDist s v n) := by
  unfold readDist
  cases h : far v s.wide with
  | none => rfl
  | some q =>
    simp only [pu, puR_ite, copied]
    split
    · rfl
    · split
      · rfl
      · rfl
theorem step_pu : step (pu p s) = puR p (step s) := by
  unfold step
  split
  · rename_i h
    rw [show s.next = 1 from h]
    unfold opening; simp only [puR_ite]; rfl
  · rename_i h
    rw [show s.next = 2 from h]
    unfold readSize; simp only [puR_ite]; rfl
  · rename_i h
    rw [show s.next = 3 from h]
    unfold readBytes; simp only [puR_ite]
    split
    · rfl
    · split
      · rfl
      · split
        · rfl
        · rfl
  · rename_i h
    rw [show s.next = 4 from h]
    unfold readHlit; simp only [puR_ite]; rfl
  · rename_i h
    rw [show s.next = 5 from h]
    unfold readHdist; simp only [puR_ite]; rfl
  · rename_i h
    rw [show s.next = 6 from h]
    unfold readHclen; simp only [puR_ite]; rfl
  · rename_i h
    rw [show s.next = 7 from h]
    unfold readCodeLengths; simp only [puR_ite]; rfl
  · rename_i h
    rw [show s.next = 8 from h]
    unfold readLengths readLength; simp only [puR_ite, pu_len]; rfl
  · rename_i h
    rw [show s.next = 9 from h]
    unfold readLiteral; simp only [puR_ite, pu_lit]; rfl
  · rename_i h
    rw [show s.next = 10 from h]
    unfold readDistance; simp only [puR_ite, pu_dist]; rfl
  · rfl
theorem steps_pu {s t : M} (h : Steps s t) : Steps (pu p s) (pu p t) := by
  induction h with
  | refl s => exact .refl _
  | cons h k ih => exact .cons (by rw [step_pu, h]; rfl) ih
theorem ends_pu {s t : M} {c : Nat} (h : Ends s t c) : Ends (pu p s) (pu p t) c := ⟨steps_pu p h.1, by rw [step_pu, h.2]; rfl⟩
end
/-- Whether all bytes are there does not turn, nor how many were counted. -/
def Keep (e : Bool) (n : Nat) : Res → Prop
  | .more t => t.ended = e ∧ t.pushed = n
  | .halt _ => True
theorem keep_ite (e : Bool) (n : Nat) (c : Prop) [Decidable c] (a b : Res) : Keep e n (if c then a else b) ↔ (if c then Keep e n a else Keep e n b) := by split <;> exact Iff.rfl
theorem keep_len (s : M) (v n : Nat) : Keep s.ended s.pushed (readLen s v n) := by
  unfold readLen
  simp only [keep_ite]
  repeat' split
  all_goals first | trivial | exact ⟨rfl, rfl⟩
theorem keep_lit (s : M) (v n : Nat) : Keep s.ended s.pushed (readLit s v n) := by
  unfold readLit
  simp only [keep_ite]
  repeat' split
  all_goals first | trivial | exact ⟨rfl, rfl⟩
theorem keep_dist (s : M) (v n : Nat) : Keep s.ended s.pushed (readDist s v n) := by
  unfold readDist
  cases h : far v s.wide with
  | none => trivial
  | some q =>
    unfold copied
    simp only [keep_ite]
    repeat' split
    all_goals first | trivial | exact ⟨rfl, rfl⟩
theorem keep_res (s : M) : Keep s.ended s.pushed (step s) := by
  unfold step
  split
  · unfold opening; simp only [keep_ite]; repeat' split
    all_goals first | trivial | exact ⟨rfl, rfl⟩
  · unfold readSize; simp only [keep_ite]; repeat' split
    all_goals first | trivial | exact ⟨rfl, rfl⟩
  · unfold readBytes; simp only [keep_ite]; repeat' split
    all_goals first | trivial | exact ⟨rfl, rfl⟩
  · unfold readHlit; simp only [keep_ite]; repeat' split
    all_goals first | trivial | exact ⟨rfl, rfl⟩
  · unfold readHdist; simp only [keep_ite]; repeat' split
    all_goals first | trivial | exact ⟨rfl, rfl⟩
  · unfold readHclen; simp only [keep_ite]; repeat' split
    all_goals first | trivial | exact ⟨rfl, rfl⟩
  · unfold readCodeLengths; simp only [keep_ite]; repeat' split
    all_goals first | trivial | exact ⟨rfl, rfl⟩
  · unfold readLengths readLength; simp only [keep_ite]; repeat' split
    all_goals first | trivial | exact keep_len _ _ _ | exact ⟨rfl, rfl⟩
  · unfold readLiteral; simp only [keep_ite]; repeat' split
    all_goals first | trivial | exact keep_lit _ _ _ | exact ⟨rfl, rfl⟩
  · unfold readDistance; simp only [keep_ite]; repeat' split
    all_goals first | trivial | exact keep_dist _ _ _ | exact ⟨rfl, rfl⟩
  · trivial
theorem keep_step {s t : M} (h : step s = .more t) : t.ended = s.ended ∧ t.pushed = s.pushed := by
  have := keep_res s
  rw [h] at this
  exact this
theorem keep_steps {s t : M} (h : Steps s t) : t.ended = s.ended ∧ t.pushed = s.pushed := by
  induction h with
  | refl => exact ⟨rfl, rfl⟩
  | cons h _ ih => have := keep_step h; exact ⟨ih.1.trans this.1, ih.2.trans this.2⟩
/-- The machine at a stream's beginning, these bytes pushed. -/
abbrev bg (wide : Bool) (S most : Nat) (l : List UInt8) (n : Nat) : M := { start wide S most with bits := bitsOf l, pushed := n }
theorem ext_bg (wide : Bool) (S most n : Nat) (x y : List UInt8) : ext (bg wide S most x n) (bitsOf y) = bg wide S most (x ++ y) n := by
  unfold ext bg
  rw [bitsOf_append]
theorem mod8 (y : List UInt8) : (bitsOf y).length % 8 = 0 := by rw [bitsOf_len]; omega
/-- A piece of a right stream lacks bits; with the rest it comes to the stream's end. -/
theorem cut_ends {wide : Bool} {S most p k : Nat} {b : List UInt8} {s' : M} (okk : ∀ (l : List UInt8) (n : Nat), l.length ≤ n → n ≤ 1000 → Ok (bg wide S most l n)) (hb : b.length ≤ 1000)
    (hs : Steps (bg wide S most b b.length) s') (hp : p ≤ 8 * b.length) (hbits : s'.bits = (bitsOf b).drop p) (hn : s'.next = 11) (hk : k < (p + 7) / 8) :
    ∃ t1, Ends (bg wide S most (b.take k) k) t1 5 ∧ (Ok t1 ∧ Ok { t1 with bits := t1.bits ++ bitsOf ((b.drop k).take ((p + 7) / 8 - k)), pushed := t1.pushed + ((p + 7) / 8 - k) } ∧ t1.pushed = k ∧ t1.bits.length ≤ 8 * k) ∧
      ∃ t3, Ends { bare t1 with bits := t1.bits ++ bitsOf ((b.drop k).take ((p + 7) / 8 - k)), pushed := t1.pushed + ((p + 7) / 8 - k), ended := false } t3 0 ∧ t1.out ++ t3.out = s'.out ∧ t3.pushed - t3.bits.length / 8 = (p + 7) / 8 := by
  obtain ⟨U, hU⟩ : ∃ U, U = (p + 7) / 8 := ⟨_, rfl⟩
  rw [← hU] at hk ⊢
  have hUL : U ≤ b.length := by omega
  have hlen : s'.bits.length = 8 * b.length - p := by rw [hbits, List.length_drop, bitsOf_len]
  have E0 : Ends (bg wide S most b b.length) s' 0 := ⟨hs, over_halts hn⟩
  -- the first piece
  have ok1 : Ok (bg wide S most (b.take k) k) := okk _ _ (by rw [List.length_take]; omega) (by omega)
  have gd1 : Gd (bg wide S most (b.take k) k) := gd_other ⟨(by decide : (1 : Nat) ≠ 8), (by decide : (1 : Nat) ≠ 9), (by decide : (1 : Nat) ≠ 10)⟩
  have x1 : ext (bg wide S most (b.take k) k) (bitsOf (b.drop k)) = pu k (bg wide S most b b.length) := by rw [ext_bg, List.take_append_drop]
  obtain ⟨t1, c1, e1⟩ := ends_some (bg wide S most (b.take k) k)
  have k1 := keep_steps e1.1
  have hc1 : c1 = 5 := by
    by_cases hc : c1 = 5
    · exact hc
    · exfalso
      have h1 := halt_ext (bitsOf (b.drop k)) (mod8 _) (ok1.steps e1.1) (gd_steps gd1 e1.1) k1.1 hc e1.2
      have h2 := ext_steps (bitsOf (b.drop k)) (mod8 _) ok1 e1.1
      have h3 : Ends (ext (bg wide S most (b.take k) k) (bitsOf (b.drop k))) (ext t1 (bitsOf (b.drop k))) c1 := ⟨h2, h1⟩
      rw [x1] at h3
      obtain ⟨h4, -⟩ := h3.det (ends_pu k E0)
      have h5 := congrArg (fun m : M => m.bits.length) h4
      simp only [List.length_append, bitsOf_len, List.length_drop] at h5
      omega
  subst hc1
  -- all that is used
  have ok2 : Ok (bg wide S most (b.take U) U) := okk _ _ (by rw [List.length_take]; omega) (by omega)
  have gd2 : Gd (bg wide S most (b.take U) U) := gd_other ⟨(by decide : (1 : Nat) ≠ 8), (by decide : (1 : Nat) ≠ 9), (by decide : (1 : Nat) ≠ 10)⟩
  have x2 : ext (bg wide S most (b.take U) U) (bitsOf (b.drop U)) = pu U (bg wide S most b b.length) := by rw [ext_bg, List.take_append_drop]
  obtain ⟨t2, c2, e2⟩ := ends_some (bg wide S most (b.take U) U)
  have h2 := ext_steps (bitsOf (b.drop U)) (mod8 _) ok2 e2.1
  rw [x2] at h2
  have hc2 : c2 = 0 ∧ ext t2 (bitsOf (b.drop U)) = pu U s' := by
    by_cases hc : c2 = 5
    · exfalso
      subst hc
      have h3 := Ends.next h2 (ends_pu U E0)
      cases hst : step (ext t2 (bitsOf (b.drop U))) with
      | halt c =>
        obtain ⟨h4, -⟩ := Ends.det (s := ext t2 (bitsOf (b.drop U))) ⟨.refl _, hst⟩ h3
        have h5 : t2.next = 11 := by have := congrArg M.next h4; exact this.trans hn
        have := over_halts h5
        rw [e2.2] at this
        cases this
      | more m =>
        have h4 := short_step (bitsOf (b.drop U)) (mod8 _) (ok2.steps e2.1) e2.2 hst
        have h5 := bits_steps (Ends.next (.one hst) h3).1
        have h6 : (pu U s').bits.length = s'.bits.length := rfl
        rw [bitsOf_len, List.length_drop] at h4
        omega
    · have h1 := halt_ext (bitsOf (b.drop U)) (mod8 _) (ok2.steps e2.1) (gd_steps gd2 e2.1) (keep_steps e2.1).1 hc e2.2
      obtain ⟨h4, h5⟩ := Ends.det ⟨h2, h1⟩ (ends_pu U E0)
      exact ⟨h5, h4⟩
  obtain ⟨rfl, hx⟩ := hc2
  have ho2 : t2.out = s'.out := by have h := congrArg M.out hx; exact h
  have hb2 : t2.bits.length + 8 * (b.length - U) = 8 * b.length - p := by
    have h5 := congrArg (fun m : M => m.bits.length) hx
    simp only [List.length_append, bitsOf_len, List.length_drop] at h5
    omega
  -- from the first piece on
  have hpart : b.take k ++ (b.drop k).take (U - k) = b.take U := by
    have := List.take_add (l := b) (i := k) (j := U - k)
    rw [show k + (U - k) = U by omega] at this
    exact this.symm
  have x3 : ext (bg wide S most (b.take k) k) (bitsOf ((b.drop k).take (U - k))) = pu k (bg wide S most (b.take U) U) := by rw [ext_bg, hpart]
  have h3 := ext_steps (bitsOf ((b.drop k).take (U - k))) (mod8 _) ok1 e1.1
  rw [x3] at h3
  have h4 := Ends.next h3 (ends_pu k e2)
  obtain ⟨t3, c3, e3⟩ := ends_some (bare (ext t1 (bitsOf ((b.drop k).take (U - k)))))
  have h5 := ends_re t1.out e3
  have h6 : re t1.out (bare (ext t1 (bitsOf ((b.drop k).take (U - k))))) = ext t1 (bitsOf ((b.drop k).take (U - k))) := by
    show ({ t1 with bits := _, out := t1.out ++ [] } : M) = _
    rw [List.append_nil]
  rw [h6] at h5
  obtain ⟨h7, rfl⟩ := h5.det h4
  have hok3 : Ok { t1 with bits := t1.bits ++ bitsOf ((b.drop k).take (U - k)), pushed := t1.pushed + (U - k) } := by
    have h8 : t1.pushed + (U - k) = U := by have : t1.pushed = k := k1.2; omega
    have h9 := steps_pu U (ext_steps (bitsOf ((b.drop k).take (U - k))) (mod8 _) ok1 e1.1)
    have h10 : pu U (ext (bg wide S most (b.take k) k) (bitsOf ((b.drop k).take (U - k)))) = bg wide S most (b.take U) U := by rw [ext_bg, hpart]
    rw [h10] at h9
    rw [h8]
    exact ok2.steps h9
  have hbl1 : t1.bits.length ≤ 8 * k := by
    have h8 := bits_steps e1.1
    have h9 : (bg wide S most (b.take k) k).bits.length = 8 * (b.take k).length := bitsOf_len _
    rw [List.length_take] at h9
    omega
  refine ⟨t1, e1, ⟨ok1.steps e1.1, hok3, k1.2, hbl1⟩, pu U t3, ?_, ?_, ?_⟩
  · have h8 := ends_pu U e3
    have e : ({ bare t1 with bits := t1.bits ++ bitsOf ((b.drop k).take (U - k)), pushed := t1.pushed + (U - k), ended := false } : M) = pu U (bare (ext t1 (bitsOf ((b.drop k).take (U - k))))) := by
      have h9 : t1.pushed + (U - k) = U := by have : t1.pushed = k := k1.2; omega
      rw [h9]
      have h10 : t1.ended = false := k1.1
      show _ = ({ t1 with out := [], bits := t1.bits ++ bitsOf ((b.drop k).take (U - k)), pushed := U } : M)
      rw [← h10]
    rw [e]
    exact h8
  · have := congrArg M.out h7
    exact this.trans ho2
  · have h8 : t3.bits = t2.bits := by have h := congrArg M.bits h7; exact h
    show U - t3.bits.length / 8 = U
    rw [h8]
    have : t2.bits.length / 8 = 0 := by omega
    omega
end InfMath
end

section
/-
  The document's own inflate: Run.
-/
namespace Go.Proofs.YtjejlhpnhkacmaaGreatDoor.RfC
open Go.RowKit Go.My BitMath CanMath TabMath WinMath CanC RefC
open InfMath (Stn St1 St9 Bad CodeOk sym)

/-- Where it stands, in memory. -/
def posAt (g : Nat) (w : World) : Nat := (intOf ((w.cell? ⟨g, 1, none⟩).getD undef)).toNat
/-- What Run hands back. -/
def RunR (w0 : World) (len : Nat) (l : List UInt8) (wide : Bool) (S most : Nat) (s : InfMath.M) (e : Ending) (w' : World) : Prop :=
  Below w0.heap.size w0 w' ∧
  ((∃ (ov : Value) (out : List UInt8) (p : Nat), e = .returned (.tuple #[ov, .int .i64 0, .int .i64 (((p + 7) / 8 : Nat) : Int)]) ∧ Own 5 w0.heap.size w' ov out ∧ 0 < p ∧ p ≤ 8 * len ∧ ∃ s', InfMath.Steps s s' ∧ St1 l p out wide S most true s') ∨
   (∃ (ov : Value) (c : Nat), e = .returned (.tuple #[ov, .int .i64 (c : Int), .int .i64 0]) ∧ c ≠ 0 ∧ Bad s))
theorem posAt_of {w0 w : World} {g : Nat} {a : Option Addr} {len cap : Nat} {l : List UInt8} {p : Nat} {ov : Value} {out : List UInt8} {wide : Bool} {S most code : Nat} {R : List (Nat × TypeId × Array Value)} (h : XAt w0 w g a len cap l p ov out wide S most code R) : posAt g w = p := by
  unfold posAt
  rw [h.blk.cell]
  show (p : Int).toNat = p
  simp

/-- What is left to do in a block. -/
def toDo (len g : Nat) (gv : Value) (w : World) : Nat := match gv with
  | .bool true => 8 * len - posAt g w + 1
  | _ => 0
set_option maxRecDepth 100000 in
set_option maxHeartbeats 16000000 in
theorem run_ref {a : Option Addr} {len cap : Nat} {l : List UInt8} {wide : Bool} {S most : Nat} {s : InfMath.M} (w0 : World) (hb : Bytes w0 a len cap l) (hl : len ≤ 100000) (h1 : Stn 1 l 0 [] wide S most false s) (hm : most ≤ 1073741824) (hS : S ≤ 65536) :
    Calls Tryz.prog 10 #[.slice a len cap, .bool wide, .int .i64 (S : Int), .int .i64 (most : Int)] w0 (RunR w0 len l wide S most s) := by
  have HBY := Lib.hid hb
  have H1 := Lib.hid h1
  have HLE := Lib.hid hb.len_eq
  clear hb h1
  go_enter Tryz.func10, Tryz.ntmps10
  go_wp2_with fail
  refine (fixed_any _).mono ?_
  rintro e w1 ⟨gl, gd, rfl, HKL, HKD, hb1⟩
  obtain ⟨g, hg⟩ : ∃ g, g = w0.heap.size := ⟨_, rfl⟩
  have HX : Hid (XAt w0 w1 g a len cap l 0 (.slice none 0 0) [] wide S most 0 [(gl, 9, (texts InfMath.fixL).toArray), (gd, 9, (texts InfMath.fixD).toArray)]) := Lib.hid (by
    have hk := Blk.new w0 58 (xc a len cap 0 (.slice none 0 0) wide S most 0)
    have hlt := hk.lt
    refine ⟨by rw [hg]; exact (hb1.block _ hlt).trans hk, Own.nil _ _ _, by omega, HBY.out, ((Below.refl _ w0).alloc (Nat.le_refl _) _).trans (hb1.mono (by simp)), by omega, by omega, fun x hx => ?_⟩
    simp only [List.mem_cons, List.not_mem_nil, or_false] at hx
    rcases hx with rfl | rfl
    · exact ⟨HKL.out, (by decide : 9 ≠ 58), (by decide : 9 ≠ 5)⟩
    · exact ⟨HKD.out, (by decide : 9 ≠ 58), (by decide : 9 ≠ 5)⟩)
  rw [← hg]
  clear hb1 HKL HKD hg
  obtain ⟨R, hR⟩ : ∃ R, R = [(gl, 9, (texts InfMath.fixL).toArray), (gd, 9, (texts InfMath.fixD).toArray)] := ⟨_, rfl⟩
  rw [← hR] at HX
  have HRM : Hid ((gl, 9, (texts InfMath.fixL).toArray) ∈ R ∧ (gd, 9, (texts InfMath.fixD).toArray) ∈ R ∧ ∀ x ∈ R, x.2.1 = 9) := Lib.hid (by
    rw [hR]
    refine ⟨by simp, by simp, fun x hx => ?_⟩
    simp only [List.mem_cons, List.not_mem_nil, or_false] at hx
    rcases hx with rfl | rfl <;> rfl)
  clear hR
  go_wp2_with fail
  go_loopw [18] (fun _ wr => ∃ (p : Nat) (ov : Value) (out : List UInt8) (code : Nat), out.length ≤ most ∧ Hid (XAt w0 wr g a len cap l p ov out wide S most code R) ∧ Hid (∃ fin s', InfMath.Steps s s' ∧ Stn 1 l p out wide S most fin s')) (fun _ wr => 8 * len - posAt g wr)
  case atStart => exact ⟨0, _, [], 0, Nat.zero_le _, HX, Lib.hid ⟨false, s, .refl s, H1.out⟩⟩
  case round =>
    clear HX
    obtain ⟨p, ov, out, code, hom, HX, HST⟩ := hrel
    have HPA := Lib.hid (posAt_of HX.out)
    have HG1 := Lib.hid (get_any 1 (by omega) HX)
    generalize wr = wq at *
    go_wp2_with fail
    refine HG1.out.mono ?_
    rintro e w2 (⟨hno, rfl, HX1⟩ | ⟨hyes, rfl, HX1⟩)
    · have HB : Hid (Bad s) := Lib.hid (by
        obtain ⟨fin, s', hs, h1⟩ := HST.out
        exact .of hs (InfMath.open_short h1 (by rw [HLE.out]; omega)))
      have HG2 := Lib.hid (get_any 2 (by omega) HX1)
      clear HG1
      go_wp2_with fail
      refine HG2.out.mono ?_
      rintro e w3 (⟨-, rfl, HX2⟩ | ⟨hyes2, -, -⟩)
      · have x2 : w3.cell? ⟨g, 2, none⟩ = some ov := HX2.out.blk.cell 2
        clear HG2 HX1
        go_wp2_with fail
        go_ret3
        exact ⟨HX2.out.below, .inr ⟨ov, 5, rfl, by decide, HB.out⟩⟩
      · omega
    · obtain ⟨a0, ha0⟩ : ∃ a0, a0 = num (((bitsOf l).drop p).take 1) := ⟨_, rfl⟩
      rw [← ha0]
      have HG2 := Lib.hid (get_any 2 (by omega) HX1)
      clear HG1
      go_wp2_with fail
      refine HG2.out.mono ?_
      rintro e w3 (⟨hno2, rfl, HX2⟩ | ⟨hyes2, rfl, HX2⟩)
      · have HB : Hid (Bad s) := Lib.hid (by
          obtain ⟨fin, s', hs, h1⟩ := HST.out
          exact .of hs (InfMath.open_short h1 (by rw [HLE.out]; omega)))
        have x2 : w3.cell? ⟨g, 2, none⟩ = some ov := HX2.out.blk.cell 2
        clear HG2 HX1 ha0
        go_wp2_with fail
        go_ret3
        exact ⟨HX2.out.below, .inr ⟨ov, 5, rfl, by decide, HB.out⟩⟩
      · obtain ⟨b0, hb0⟩ : ∃ b0, b0 = num (((bitsOf l).drop (p + 1)).take 2) := ⟨_, rfl⟩
        rw [← hb0]
        have hb4 : b0 < 4 := by
          rw [hb0]
          exact Nat.lt_of_lt_of_le (num_lt _) (Nat.pow_le_pow_right (n := 2) (by omega) (show _ ≤ 2 by rw [List.length_take]; omega))
        have HOP : Hid ((b0 = 0 → ∃ s', InfMath.Steps s s' ∧ Stn 2 l (p + 3) out wide S most (a0 == 1) s') ∧ (b0 = 1 → ∃ s', InfMath.Steps s s' ∧ St9 l (p + 3) out wide S most InfMath.fixL InfMath.fixD (a0 == 1) s') ∧ (b0 = 2 → ∃ s', InfMath.Steps s s' ∧ Stn 4 l (p + 3) out wide S most (a0 == 1) s') ∧ (b0 = 3 → Bad s)) := Lib.hid (by
          obtain ⟨fin, s', hs, h1⟩ := HST.out
          obtain ⟨o0, o1, o2, o3⟩ := InfMath.open_ h1 (by rw [HLE.out]; omega) ha0.symm hb0.symm
          exact ⟨fun h => let ⟨t, k1, k2⟩ := o0 h; ⟨t, hs.trans k1, k2⟩, fun h => let ⟨t, k1, k2⟩ := o1 h; ⟨t, hs.trans k1, k2⟩, fun h => let ⟨t, k1, k2⟩ := o2 h; ⟨t, hs.trans k1, k2⟩, fun h => .of hs (o3 h)⟩)
        rw [show p + 1 + 2 = p + 3 from rfl] at HX2
        rw [← ha0]
        clear HG2 HX1 ha0 hb0 HST hyes hyes2
        generalize w3 = w4 at *
        go_upto_block 2 with fail
        go_cut [18] (fun gv wx => ∃ (goes : Bool) (p' code' : Nat) (ov' : Value) (out' : List UInt8), gv = .bool goes ∧ Hid (XAt w0 wx g a len cap l p' ov' out' wide S most code' R) ∧ Hid ((goes = true → p < p' ∧ out'.length ≤ most ∧ ∃ s', InfMath.Steps s s' ∧ St1 l p' out' wide S most (a0 == 1) s') ∧ (goes = false → code' ≠ 0 ∧ Bad s)))
        case first =>
          by_cases hb : b0 = 0
          · have g0 : ((b0 : Int) == 0) = true := by simp; omega
            have HSA : Hid (∃ s', InfMath.Steps s s' ∧ Calls Tryz.prog 22 #[.pointer (some ⟨g, 0, none⟩)] w4 (StoR w0 g a len cap l wide S most R (a0 == 1) s' (p + 3))) := Lib.hid (by
              obtain ⟨s', hs, h2⟩ := HOP.out.1 hb
              exact ⟨s', hs, stored_any HX2 h2 hm hom⟩)
            obtain ⟨s', hs, hc⟩ := HSA.out
            have HS := Lib.hid hs
            have HC := Lib.hid hc
            clear hs hc HSA hb
            go_wp2_with fail
            refine HC.out.mono ?_
            rintro e w5 ⟨r, p', code', ov', out', rfl, HX5, HR5⟩
            clear HC HX2
            go_wp2_with fail
            have HR6 : Hid ((r = true → p < p' ∧ out'.length ≤ most ∧ ∃ s', InfMath.Steps s s' ∧ St1 l p' out' wide S most (a0 == 1) s') ∧ (r = false → code' ≠ 0 ∧ Bad s)) := Lib.hid (by
              rcases HR5.out with ⟨h1, h2, h3, s2, h4, h5⟩ | ⟨h1, h2, h3⟩
              · refine ⟨fun _ => ⟨by omega, h3, s2, HS.out.trans h4, h5⟩, fun hr => ?_⟩
                rw [h1] at hr; cases hr
              · refine ⟨fun hr => ?_, fun _ => ⟨h2, .of HS.out h3⟩⟩
                rw [h1] at hr; cases hr)
            clear HR5
            go_meet
            case rel => exact ⟨r, p', code', ov', out', rfl, HX5, HR6⟩
          · have g0 : ((b0 : Int) == 0) = false := by simp; omega
            by_cases hb3 : b0 = 3
            · have g3 : ((b0 : Int) == 3) = true := by simp; omega
              have HB : Hid (Bad s) := Lib.hid (HOP.out.2.2.2 hb3)
              have x2 : w4.cell? ⟨g, 2, none⟩ = some ov := HX2.out.blk.cell 2
              clear hb hb3
              go_wp2_with fail
              go_ret3
              exact ⟨HX2.out.below, .inr ⟨ov, 2, rfl, by decide, HB.out⟩⟩
            · have g3 : ((b0 : Int) == 3) = false := by simp; omega
              have hb12 : b0 = 1 ∨ b0 = 2 := by omega
              clear hb hb3
              go_upto_if 56 with (fail)
              go_cut [18, 19, 20] (fun gv lv dv wx => (∃ (gl' gd' : Nat) (ls ds : List Nat) (R' : List (Nat × TypeId × Array Value)) (p' code' : Nat), gv = .bool true ∧ lv = .slice (some ⟨gl', 0, none⟩) ls.length ls.length ∧ dv = .slice (some ⟨gd', 0, none⟩) ds.length ds.length ∧ Hid (XAt w0 wx g a len cap l p' ov out wide S most code' R') ∧ Hid (((gl', 9, (texts ls).toArray) ∈ R' ∧ (gd', 9, (texts ds).toArray) ∈ R' ∧ ∀ x ∈ R, x ∈ R') ∧ CodeOk ls ∧ CodeOk ds ∧ p < p' ∧ ∃ s', InfMath.Steps s s' ∧ St9 l p' out wide S most ls ds (a0 == 1) s')) ∨
                (∃ (p' code' : Nat), gv = .bool false ∧ lv = .slice none 0 0 ∧ dv = .slice none 0 0 ∧ Hid (XAt w0 wx g a len cap l p' ov out wide S most code' R) ∧ Hid (code' ≠ 0 ∧ Bad s)))
              case first =>
                by_cases hb2 : b0 = 2
                · have g2 : ((b0 : Int) == 2) = true := by simp; omega
                  have HSA : Hid (∃ s', InfMath.Steps s s' ∧ Calls Tryz.prog 23 #[.pointer (some ⟨g, 0, none⟩)] w4 (LenR w0 g a len cap l ov out wide S most R (a0 == 1) s' (p + 3))) := Lib.hid (by
                    obtain ⟨s', hs, h4⟩ := HOP.out.2.2.1 hb2
                    exact ⟨s', hs, lengths_any HX2 h4 HRM.out.2.2⟩)
                  obtain ⟨s', hs, hc⟩ := HSA.out
                  have HS := Lib.hid hs
                  have HC := Lib.hid hc
                  clear hs hc HSA hb2 hb12
                  go_wp2_with fail
                  refine HC.out.mono ?_
                  rintro e w5 (⟨g1, g2', p', code', ls, ds, rfl, HX5, okl, okd, hpp, s2, hs2, h9⟩ | ⟨p', code', rfl, HX5, hcode, hbad⟩)
                  · have HF : Hid (((g1, 9, (texts ls).toArray) ∈ (g1, 9, (texts ls).toArray) :: (g2', 9, (texts ds).toArray) :: R ∧ (g2', 9, (texts ds).toArray) ∈ (g1, 9, (texts ls).toArray) :: (g2', 9, (texts ds).toArray) :: R ∧ ∀ x ∈ R, x ∈ (g1, 9, (texts ls).toArray) :: (g2', 9, (texts ds).toArray) :: R) ∧ CodeOk ls ∧ CodeOk ds ∧ p < p' ∧ ∃ s', InfMath.Steps s s' ∧ St9 l p' out wide S most ls ds (a0 == 1) s') := Lib.hid ⟨⟨by simp, by simp, fun x hx => List.mem_cons_of_mem _ (List.mem_cons_of_mem _ hx)⟩, okl, okd, by omega, s2, HS.out.trans hs2, h9⟩
                    clear HC HX2 okl okd hpp hs2 h9
                    go_wp2_with fail
                    go_meet
                    case rel => exact .inl ⟨g1, g2', ls, ds, _, p', code', rfl, rfl, rfl, HX5, HF⟩
                  · have HF : Hid (code' ≠ 0 ∧ Bad s) := Lib.hid ⟨hcode, .of HS.out hbad⟩
                    clear HC HX2 hcode hbad
                    go_wp2_with fail
                    go_meet
                    case rel => exact .inr ⟨p', code', rfl, rfl, rfl, HX5, HF⟩
                · have g2 : ((b0 : Int) == 2) = false := by simp; omega
                  have HF : Hid (((gl, 9, (texts InfMath.fixL).toArray) ∈ R ∧ (gd, 9, (texts InfMath.fixD).toArray) ∈ R ∧ ∀ x ∈ R, x ∈ R) ∧ CodeOk InfMath.fixL ∧ CodeOk InfMath.fixD ∧ p < p + 3 ∧ ∃ s', InfMath.Steps s s' ∧ St9 l (p + 3) out wide S most InfMath.fixL InfMath.fixD (a0 == 1) s') := Lib.hid ⟨⟨HRM.out.1, HRM.out.2.1, fun _ h => h⟩, InfMath.fixL_ok, InfMath.fixD_ok, by omega, HOP.out.2.1 (by omega)⟩
                  clear hb2 hb12
                  go_wp2_with fail
                  go_meet
                  case rel => exact .inl ⟨gl, gd, InfMath.fixL, InfMath.fixD, R, p + 3, code, rfl, rfl, rfl, HX2, HF⟩
              clear HX2 HOP hb12
              rcases hcut with ⟨gl', gd', ls, ds, R', p1, code1, rfl, rfl, rfl, HX3, HF⟩ | ⟨p1, code1, rfl, rfl, rfl, HX3, HF⟩
              · generalize wc = w5 at *
                go_wp2_with fail
                go_loopw [18, 21] (fun gv tv wr =>
                  (∃ (p' code' : Nat) (ov' : Value) (out' : List UInt8), gv = .bool true ∧ tv = .int .i64 0 ∧ out'.length ≤ most ∧ Hid (XAt w0 wr g a len cap l p' ov' out' wide S most code' R') ∧ Hid (p < p' ∧ ∃ s', InfMath.Steps s s' ∧ St9 l p' out' wide S most ls ds (a0 == 1) s')) ∨
                  (∃ (p' code' : Nat) (ov' : Value) (out' : List UInt8), gv = .bool true ∧ tv = .int .i64 1 ∧ Hid (XAt w0 wr g a len cap l p' ov' out' wide S most code' R') ∧ Hid (p < p' ∧ out'.length ≤ most ∧ ∃ s', InfMath.Steps s s' ∧ St1 l p' out' wide S most (a0 == 1) s')) ∨
                  (∃ (p' code' : Nat) (ov' : Value) (out' : List UInt8), gv = .bool false ∧ tv = .int .i64 2 ∧ Hid (XAt w0 wr g a len cap l p' ov' out' wide S most code' R') ∧ Hid (code' ≠ 0 ∧ Bad s))) (fun gv _ wr => toDo len g gv wr)
                case atStart => exact .inl ⟨p1, code1, ov, out, rfl, rfl, hom, HX3, Lib.hid ⟨HF.out.2.2.2.1, HF.out.2.2.2.2⟩⟩
                case round =>
                  clear HX3
                  rcases hrel with ⟨p2, code2, ov2, out2, rfl, rfl, hom2, HX3, HG⟩ | ⟨p2, code2, ov2, out2, rfl, rfl, HX3, HG⟩ | ⟨p2, code2, ov2, out2, rfl, rfl, HX3, HG⟩
                  · have HPB := Lib.hid (posAt_of HX3.out)
                    obtain ⟨hpp, s1, hs1, h9⟩ := HG.out
                    have HTK := Lib.hid (token_any HX3 h9 HF.out.1.1 HF.out.1.2.1 HF.out.2.1 HF.out.2.2.1 hm hS hom2)
                    have HS1 := Lib.hid hs1
                    clear hs1 h9 HG
                    generalize wr = w6 at *
                    go_wp2_with fail
                    refine HTK.out.mono ?_
                    rintro e w7 ⟨r, p3, code3, ov3, out3, rfl, HX7, HR7⟩
                    have HPC := Lib.hid (posAt_of HX7.out)
                    have hp3 := HX7.out.lt
                    clear HTK HX3
                    rcases HR7.out with ⟨h0, h1, h2, s2, h3, h4⟩ | ⟨h0, h1, h2, s2, h3, h4⟩ | ⟨h0, h1, h2⟩
                    · subst h0
                      have HG2 : Hid (p < p3 ∧ ∃ s', InfMath.Steps s s' ∧ St9 l p3 out3 wide S most ls ds (a0 == 1) s') := Lib.hid ⟨by omega, s2, HS1.out.trans h3, h4⟩
                      clear h3 h4 HR7
                      go_wp2_with fail
                      go_roundw
                      case rel => exact .inl ⟨p3, code3, ov3, out3, rfl, rfl, h2, HX7, HG2⟩
                      case measure => simp only [toDo]; rw [HPB.out, HPC.out]; omega
                    · subst h0
                      have HG2 : Hid (p < p3 ∧ out3.length ≤ most ∧ ∃ s', InfMath.Steps s s' ∧ St1 l p3 out3 wide S most (a0 == 1) s') := Lib.hid ⟨by omega, h2, s2, HS1.out.trans h3, h4⟩
                      clear h3 h4 HR7
                      go_wp2_with fail
                      go_roundw
                      case rel => exact .inr (.inl ⟨p3, code3, ov3, out3, rfl, rfl, HX7, HG2⟩)
                      case measure => simp only [toDo]; rw [HPB.out, HPC.out]; omega
                    · subst h0
                      have HG2 : Hid (code3 ≠ 0 ∧ Bad s) := Lib.hid ⟨h1, .of HS1.out h2⟩
                      clear h1 h2 HR7
                      go_wp2_with fail
                      go_roundw
                      case rel => exact .inr (.inr ⟨p3, code3, ov3, out3, rfl, rfl, HX7, HG2⟩)
                      case measure => simp only [toDo]; omega
                  · have HX4 := Lib.hid (HX3.out.less HF.out.1.2.2)
                    clear HX3
                    go_wp2_with fail
                    go_meet
                    case rel => exact ⟨true, p2, code2, ov2, out2, rfl, HX4, Lib.hid ⟨fun _ => HG.out, fun h => by cases h⟩⟩
                  · have HX4 := Lib.hid (HX3.out.less HF.out.1.2.2)
                    clear HX3
                    go_wp2_with fail
                    go_meet
                    case rel => exact ⟨false, p2, code2, ov2, out2, rfl, HX4, Lib.hid ⟨(fun h => by cases h), fun _ => HG.out⟩⟩
              · generalize wc = w5 at *
                go_wp2_with fail
                go_loopw [18] (fun gv wr => gv = .bool false ∧ wr = w5) (fun _ _ => 0)
                case atStart => exact ⟨rfl, rfl⟩
                case round =>
                  obtain ⟨rfl, rfl⟩ := hrel
                  go_wp2_with fail
                  go_meet
                  case rel => exact ⟨false, p1, code1, ov, out, rfl, HX3, Lib.hid ⟨(fun h => by cases h), fun _ => HF.out⟩⟩
        obtain ⟨goes, p', code', ov', out', rfl, HX5, HR5⟩ := hcut
        clear HX2 HOP
        generalize wc = w8 at *
        cases goes with
        | false =>
          have HBD := Lib.hid (HR5.out.2 rfl)
          have x2 : w8.cell? ⟨g, 2, none⟩ = some ov' := HX5.out.blk.cell 2
          have x6 : w8.cell? ⟨g, 6, none⟩ = some (.int .i64 (code' : Int)) := HX5.out.blk.cell 6
          go_wp2_with fail
          go_quiet (fail)
          have HBE := Lib.hid (HX5.out.below.trans ((quiet_below' w8 nq).mono HX5.out.below.size))
          clear x2 x6
          go_wp2_with fail
          go_ret3
          exact ⟨HBE.out, .inr ⟨ov', code', rfl, HBD.out.1, HBD.out.2⟩⟩
        | true =>
          have HGD := Lib.hid (HR5.out.1 rfl)
          have hp8 := HX5.out.lt
          by_cases ha1 : a0 = 1
          · have g1 : ((a0 : Int) == 1) = true := by simp; omega
            subst ha1
            have HE : Hid (0 < p' ∧ ∃ s', InfMath.Steps s s' ∧ St1 l p' out' wide S most true s') := Lib.hid ⟨by have := HGD.out.1; omega, HGD.out.2.2⟩
            have x2 : w8.cell? ⟨g, 2, none⟩ = some ov' := HX5.out.blk.cell 2
            have x1 : w8.cell? ⟨g, 1, none⟩ = some (.int .i64 (p' : Int)) := HX5.out.blk.cell 1
            have e1 : IntKind.i64.wrap ((p' : Int) + 7) = (p' : Int) + 7 := IntWalk.i64_in _ (by omega)
            have e2 : (0 : Int) ≤ (p' : Int) + 7 := by omega
            go_wp2_with fail
            go_quiet (fail)
            have HBE := Lib.hid (HX5.out.below.trans ((quiet_below' w8 nq).mono HX5.out.below.size))
            have HOE := Lib.hid (HX5.out.own.below (Nat.le_refl _) (quiet_below' w8 nq))
            clear x1 x2 e1 e2
            go_wp2_with fail
            go_ret3
            exact ⟨HBE.out, .inl ⟨ov', out', p', by simp, HOE.out, HE.out.1, hp8, HE.out.2⟩⟩
          · have g1 : ((a0 : Int) == 1) = false := by simp; omega
            have hf : (a0 == 1) = false := by simpa using ha1
            have HST2 : Hid (∃ fin s', InfMath.Steps s s' ∧ Stn 1 l p' out' wide S most fin s') := Lib.hid (by
              obtain ⟨_, _, s', hs, h1⟩ := HGD.out
              rw [hf] at h1
              exact ⟨false, s', hs, h1.bd, h1.next, h1.final⟩)
            have hpp := HGD.out.1
            have hol := HGD.out.2.1
            have HPC := Lib.hid (posAt_of HX5.out)
            clear HGD HR5 hf ha1
            go_wp2_with fail
            go_roundw
            case rel => exact ⟨p', ov', out', code', hol, HX5, HST2⟩
            case measure => rw [HPA.out, HPC.out]; omega
end Go.Proofs.YtjejlhpnhkacmaaGreatDoor.RfC
end

section
/-
  The document's own inflate: All.
-/
namespace Go.Proofs.YtjejlhpnhkacmaaGreatDoor.RfC
open Go.RowKit Go.My BitMath CanMath TabMath WinMath CanC RefC
open InfMath (Stn St1 Bad bg)

/-- What the document's All answers. -/
def AllR (w0 : World) (len : Nat) (l : List UInt8) (wide : Bool) (S most : Nat) (e : Ending) (w' : World) : Prop :=
  Below w0.heap.size w0 w' ∧
  ((∃ (ov : Value) (out : List UInt8) (p : Nat), e = .returned (.tuple #[ov, .int .i64 (((p + 7) / 8 : Nat) : Int), .int .i64 0]) ∧ Own 5 w0.heap.size w' ov out ∧ 0 < p ∧ p ≤ 8 * len ∧ ∃ s', InfMath.Steps (bg wide S most l l.length) s' ∧ St1 l p out wide S most true s') ∨
   (∃ c : Nat, e = .returned (.tuple #[.slice none 0 0, .int .i64 0, .int .i64 (c : Int)]) ∧ c ≠ 0))
theorem bg_open (wide : Bool) (S most : Nat) (l : List UInt8) : Stn 1 l 0 [] wide S most false (bg wide S most l l.length) :=
  ⟨⟨rfl, rfl, rfl, rfl, rfl, rfl, rfl, rfl⟩, rfl, rfl⟩
set_option maxHeartbeats 2000000 in
theorem all_ref {a : Option Addr} {len cap : Nat} {l : List UInt8} (wide : Bool) (S most : Nat) (w0 : World) (hb : Bytes w0 a len cap l) (hl : len ≤ 100000) (h1 : 0 < S) (hm : most ≤ 1073741824) (hS : S ≤ 65536) :
    Calls Tryz.prog 5 #[.slice a len cap, .bool wide, .int .i64 (S : Int), .int .i64 (most : Int)] w0 (AllR w0 len l wide S most) := by
  have HR := Lib.hid (run_ref w0 hb hl (bg_open wide S most l) hm hS)
  clear hb
  have g1 : decide ((S : Int) < 1) = false := by simp; omega
  have g2 : decide ((S : Int) > 65536) = false := by simp; omega
  have g2' : decide ((65536 : Int) < (S : Int)) = false := by simp; omega
  have g3 : decide ((most : Int) < 0) = false := by simp
  have g4 : decide ((1073741824 : Int) < (most : Int)) = false := by simp; omega
  go_enter Tryz.func5, Tryz.ntmps5
  go_wp2_with fail
  refine HR.out.mono ?_
  clear HR g1 g2 g2' g3 g4
  rintro e w1 ⟨hbl, ⟨ov, out, p, rfl, ho, hp0, hp8, hst⟩ | ⟨ov, c, rfl, hc, hbad⟩⟩
  · have H1 := Lib.hid (And.intro hbl (And.intro ho (And.intro hp0 (And.intro hp8 hst))))
    clear hbl ho hp0 hp8 hst
    obtain ⟨U, hU⟩ : ∃ U, U = (p + 7) / 8 := ⟨_, rfl⟩
    rw [← hU]
    have HU := Lib.hid hU
    clear hU
    go_wp2_with fail
    go_ret3
    exact ⟨H1.out.1, .inl ⟨ov, out, p, by rw [← HU.out]; rfl, H1.out.2⟩⟩
  · have HB := Lib.hid hbl
    clear hbl hbad
    by_cases h5 : c = 5
    · have g5 : ((c : Int) == 5) = true := by simp; omega
      clear h5
      go_wp2_with fail
      go_ret3
      exact ⟨HB.out, .inr ⟨2, rfl, by decide⟩⟩
    · have g5 : ((c : Int) == 5) = false := by simp; omega
      have g6 : ((c : Int) != 0) = true := by simp; omega
      clear h5
      go_wp2_with fail
      go_ret3
      exact ⟨HB.out, .inr ⟨c, rfl, hc⟩⟩
end Go.Proofs.YtjejlhpnhkacmaaGreatDoor.RfC
end

section
/-
  InflatePrefix's law.
-/
namespace Go.Proofs.YtjejlhpnhkacmaaGreatDoor.InfC
open Go.RowKit Go.My BitMath CanMath TabMath WinMath FeedC TabC CanC RefC
open InfMath (M Ok CodeOk mu lack fixL fixD bare shut bg)

theorem un_rem (z : Int) (m : Nat) (h : 0 < m) (h2 : m ≤ 1000000) : ∃ q : Nat, q < m ∧ (IntKind.u64.wrap z).tmod (m : Int) = (q : Int) := by
  have h0 : 0 ≤ IntKind.u64.wrap z := by rw [IntKind.wrap_u64]; omega
  rw [Int.tmod_eq_emod_of_nonneg h0]
  have h1 := Int.emod_nonneg (IntKind.u64.wrap z) (show (m : Int) ≠ 0 by omega)
  have h3 := Int.emod_lt_of_pos (IntKind.u64.wrap z) (show (0 : Int) < m by omega)
  generalize IntKind.u64.wrap z % (m : Int) = r at *
  obtain ⟨q, rfl⟩ := Int.eq_ofNat_of_zero_le h1
  exact ⟨q, by omega, rfl⟩
theorem own_conv {X : World} {B : Nat} {v : Value} {l : List UInt8} (h : Own 5 B X v l) : ∃ a c, v = .slice a l.length c ∧ Own 5 B X (.slice a l.length c) l := by
  obtain ⟨a, c, rfl, _⟩ := h.bytes
  exact ⟨a, c, rfl, h⟩
/-- The next piece. -/
theorem next_push {B x : Nat} {w0 w : World} {d : Ad} {s : M} (a : Option Addr) (len cap : Nat) (l : List UInt8) (hb : Bytes w0 a len cap l) (hl : len ≤ 100000)
    (hB : w0.heap.size ≤ B) (hw : Below w0.heap.size w0 w) (h : At B w x s d) (hok : Ok s) (hok2 : Ok { s with bits := s.bits ++ bitsOf l, pushed := s.pushed + len, ended := false }) (hr : Rm s) (hO : Ordr B w) (hn : s.next ≠ 11) (hc4 : ∀ k, d.c k ≠ 4) (hbs : s.bits.length ≤ 1000000) (hps : s.pushed ≤ 1000000) (hE : s.ended = false) :
    Calls Tryz.prog 7 #[.pointer (some ⟨x, 0, none⟩), .slice a len cap] w fun e w' =>
      ∃ t c, InfMath.Ends { s with bits := s.bits ++ bitsOf l, pushed := s.pushed + len, ended := false } t c ∧ Out B x w d.c t c e w' :=
  push_any (Lib.hid h) (.slice a len cap) (bitsOf l) len hok hok2 hr hO hn hc4 (fun W hW => push_in B d.f _ d.F _ w0 W (hE ▸ h.rs.feed.1.below hW) hB (hw.trans (hW.mono hw.size)) a len cap l hb (by omega) (by omega) (by omega))

set_option maxRecDepth 100000 in
set_option maxHeartbeats 16000000 in
theorem prefix_law (a : Option Addr) (len cap : Nat) (l : List UInt8) (z : Int) (wide : Bool) (w : World) (hb : Bytes w a len cap l) (hO : Ordr w.heap.size w) :
    Calls Tryz.prog 3 #[.slice a len cap, .int .i64 z, .bool wide] w fun e w' => e = .returned (.bool true) ∧ Below w.heap.size w w' := by
  have HO := Lib.hid hO
  have HBy := Lib.hid hb
  have HL := Lib.hid hb.len_eq
  have hlc := hb.le_cap
  have hcm := hb.cap_le
  clear hO hb
  by_cases hbig : 300 < len
  · have HT := Lib.hid (told_any w HO.out)
    go_enter Tryz.func3, Tryz.ntmps3
    go_wp2_with fail
    refine HT.out.mono ?_
    rintro e w1 ⟨rfl, hb⟩
    have HB := Lib.hid hb
    clear hb
    go_wp2_with fail
    go_ret
    exact ⟨rfl, HB.out⟩
  · have HA := Lib.hid (RfC.all_ref wide 65536 70000 w HBy.out (by omega) (by omega) (by omega) (by omega))
    go_enter Tryz.func3, Tryz.ntmps3
    go_wp2_with fail
    refine HA.out.mono ?_
    clear HA
    rintro e w1 ⟨hb1, ⟨ov, out, p, rfl, ho, hp0, hp8, s', hs, hst⟩ | ⟨c, rfl, hc⟩⟩
    · obtain ⟨av, cv, rfl, ho⟩ := own_conv ho
      obtain ⟨U, hU⟩ : ∃ U, U = (p + 7) / 8 := ⟨_, rfl⟩
      rw [← hU]
      have hU0 : 0 < U := by omega
      have hUl : U ≤ len := by omega
      obtain ⟨k, hk, hrem⟩ := un_rem z U hU0 (by omega)
      have HB1 := Lib.hid hb1
      have HW := Lib.hid ho
      have okk : ∀ (l : List UInt8) (n : Nat), l.length ≤ n → n ≤ 1000 → Ok (bg wide 65536 70000 l n) := fun l n h1 h2 => ok_open (by omega) (by omega) (by omega) (by omega) (by rw [bitsOf_len]; omega)
      obtain ⟨t1, e1, hok1, t3, e3, hcat, hused⟩ := InfMath.cut_ends (k := k) okk (by rw [HL.out]; omega) hs (by rw [HL.out]; exact hp8) hst.bd.eb (by rw [hst.next]; rfl) (by rw [← hU]; exact hk)
      rw [← hU] at e3 hused hok1
      rw [hst.bd.eo] at hcat
      have HE1 := Lib.hid e1
      have HE3 := Lib.hid e3
      have HCT := Lib.hid (And.intro hcat hused)
      have HOK := Lib.hid hok1
      clear hb1 ho hs hst e1 e3 hcat hused hU okk hp0 hp8 hok1
      obtain ⟨b, off, rfl⟩ := HBy.out.some_ (by omega)
      have HQ := Lib.hid (inf_new_ok wide 65536 70000 w1 (by omega) (by omega) (by omega))
      go_wp2_with fail
      refine HQ.out.mono ?_
      rintro e w2 ⟨x, d, rfl, hA, hbl, hc4⟩
      have HA := Lib.hid (And.intro hA (And.intro hbl hc4))
      clear hA hbl hc4 HQ hrem
      have hkc : (k : Int) ≤ (cap : Int) := by omega
      have HP1 := Lib.hid (first_push (w0 := w1) (some ⟨b, off, none⟩) k cap (l.take k) ((HBy.out.below (Nat.le_refl _) HB1.out).take k (by omega)) (by omega) (by omega) (by omega) (by omega) (Nat.le_refl _) HA.out.2.1 HA.out.1 HA.out.2.2 ((HO.out.up HB1.out).below (Nat.le_refl _) HA.out.2.1))
      go_wp2_with fail
      refine HP1.out.mono ?_
      rintro e w3 ⟨t, c, hends, oa, oc, rfl, hown, h5, hn⟩
      have hlk : (l.take k).length = k := by rw [List.length_take, HL.out]; omega
      have hbg : began wide 65536 70000 (l.take k) = bg wide 65536 70000 (l.take k) k := by
        show ({ InfMath.start wide 65536 70000 with bits := bitsOf (l.take k), pushed := (l.take k).length } : M) = _
        rw [hlk]
      have hEB : InfMath.Ends (began wide 65536 70000 (l.take k)) t1 5 := by rw [hbg]; exact HE1.out
      obtain ⟨rfl, rfl⟩ := hends.det hEB
      obtain ⟨d2, hA2, hM2, hc42, hcol2⟩ := h5 rfl
      have hlow : ∀ k, d.c k ≠ 0 → w1.heap.size ≤ k := fun k hk => by
        by_cases hlt : k < w1.heap.size
        · exact absurd (HA.out.1.rs.low k hlt) hk
        · omega
      have hB13 : Below w1.heap.size w1 w3 := HA.out.2.1.trans (hM2.only.below HA.out.2.1.size hlow)
      have hne : t.next ≠ 11 := fun e => by
        have := InfMath.over_halts e
        rw [hEB.2] at this
        cases this
      have hOr3 := ((HO.out.up HB1.out).below (Nat.le_refl _) HA.out.2.1).mv HA.out.1.rs.low HA.out.1.rs.lt hM2
      have hby1 := ((HBy.out.below (Nat.le_refl _) HB1.out).drop k (by omega)).take (U - k) (by omega)
      have HP2 := Lib.hid (next_push (w0 := w1) (s := { t with out := [] }) (some ⟨b, off + k, none⟩) (U - k) (cap - k) ((l.drop k).take (U - k)) hby1 (by omega) (Nat.le_refl _) hB13 hA2 (ok_bare HOK.out.1 t.ended) (ok_bare HOK.out.2.1 false) (fun e => rm_end (InfMath.step_bare hEB.2) rfl e) hOr3 hne hc42 (by have := HOK.out.2.2.2; show t.bits.length ≤ 1000000; omega) (by have := HOK.out.2.2.1; show t.pushed ≤ 1000000; omega) (InfMath.keep_steps hEB.1).1)
      have hHW3 : Own 5 w.heap.size w3 (.slice av out.length cv) out := (hM2.only).own (HW.out.below (Nat.le_refl _) HA.out.2.1) (fun j hj hs => hs (HA.out.1.rs.low j (World.ownsRow.lt HW.out j hj).2))
      have hcolW : ∀ j, (Value.slice av out.length cv).ownBlock = some j → d2.c j = 0 := fun j hj => by
        have hj1 := (World.ownsRow.lt HW.out j hj).2
        rw [hM2.col j (Nat.lt_of_lt_of_le hj1 HA.out.2.1.size)]
        exact HA.out.1.rs.low j hj1
      have hlow2 : ∀ k, d2.c k ≠ 0 → w1.heap.size ≤ k := fun k hk => by
        by_cases hlt : k < w1.heap.size
        · exact absurd (hA2.rs.low k hlt) hk
        · omega
      have H3 := Lib.hid (And.intro hB13 (And.intro hHW3 (And.intro hcolW (And.intro hlow2 (And.intro hown (And.intro hcol2 hEB))))))
      have f1 : ¬ cap = k := by omega
      have f2 : (k : Int) ≤ (U : Int) := by omega
      have f3 : (U : Int) ≤ (cap : Int) := by omega
      clear hends hown h5 hn hlk hbg hEB hA2 hM2 hc42 hcol2 hlow hB13 hne hOr3 hby1 hHW3 hcolW hlow2 HP1
      go_wp2_with fail
      refine HP2.out.mono ?_
      rintro e w4 ⟨t', c', hends, oa2, oc2, rfl, hown2, -, hn2⟩
      obtain ⟨rfl, rfl⟩ := hends.det HE3.out
      obtain ⟨hk4, hO4⟩ := hn2 (by decide)
      have hB14 : Below w1.heap.size w1 w4 := H3.out.1.trans (hO4.below H3.out.1.size H3.out.2.2.2.1)
      have hBw4 : Below w.heap.size w w4 := HB1.out.trans (hB14.mono HB1.out.size)
      have hW4 := hO4.own H3.out.2.1 (fun j hj hs => hs (H3.out.2.2.1 j hj))
      have hP4 := hO4.own H3.out.2.2.2.2.1 (fun j hj hs => hs (H3.out.2.2.2.2.2.1 j hj))
      have HA5 := Lib.hid (all_err (S := 65536) (most := 70000) ((HBy.out.below (Nat.le_refl _) hBw4).take k (by omega)) (by omega) (by omega) (by omega) (by omega) (HO.out.up hBw4) H3.out.2.2.2.2.2.2 (by decide))
      have H4 := Lib.hid (And.intro hk4 (And.intro hBw4 (And.intro hW4 (And.intro hP4 hown2))))
      clear hends hown2 hn2 hk4 hO4 hB14 hBw4 hW4 hP4 HP2 f1 f2 f3
      go_wp2_with fail
      refine HA5.out.mono ?_
      rintro e w5 ⟨rfl, HB5⟩
      have HBw5 := Lib.hid (H4.out.2.1.trans (HB5.out.mono H4.out.2.1.size))
      have HT := Lib.hid (told_any w5 (HO.out.up HBw5.out))
      clear HA5
      go_wp2_with fail
      refine HT.out.mono ?_
      rintro e w6 ⟨rfl, hb6⟩
      have hB46 : Below w4.heap.size w4 w6 := HB5.out.trans (hb6.mono HB5.out.size)
      have HB6 := Lib.hid (HBw5.out.trans (hb6.mono HBw5.out.size))
      have hcv1 := conv_own ((Only.of_below hB46 (fun _ => False)).own H4.out.2.2.2.1 (fun _ _ h => h))
      have hcv2 := conv_own ((Only.of_below hB46 (fun _ => False)).own H4.out.2.2.2.2 (fun _ _ h => h))
      have hcv3 := conv_own ((Only.of_below hB46 (fun _ => False)).own H4.out.2.2.1 (fun _ _ h => h))
      have hOut : out = t.out ++ t'.out := HCT.out.1.symm
      have HUs := Lib.hid (inf_used (Lib.hid (H4.out.1.same (hB46.block x H4.out.1.lt))) (t'.pushed - t'.bits.length / 8) rfl)
      rw [HCT.out.2] at HUs
      have hlen : out.length ≤ 9223372036854775807 := by
        obtain ⟨a1, c1, e1, h1⟩ := H4.out.2.2.1.bytes
        have h3 := h1.le_cap
        have h4 := h1.cap_le
        omega
      obtain ⟨q1, hq1⟩ : ∃ q1 : ByteArray, q1 = ⟨t.out.toArray⟩ := ⟨_, rfl⟩
      obtain ⟨q2, hq2⟩ : ∃ q2 : ByteArray, q2 = ⟨t'.out.toArray⟩ := ⟨_, rfl⟩
      have hq3 : (⟨out.toArray⟩ : ByteArray) = q1 ++ q2 := by
        rw [hq1, hq2, hOut]; exact ByteArray.ext (by simp)
      rw [← hq1] at hcv1
      rw [← hq2] at hcv2
      rw [hq3] at hcv3
      have y0 : ¬ 9223372036854775807 < q1.size + q2.size := by
        have g1 : q1.size = t.out.length := by rw [hq1]; rfl
        have g2 : q2.size = t'.out.length := by rw [hq2]; rfl
        have g3 := congrArg List.length hOut
        rw [List.length_append] at g3
        omega
      have HU0 : (U : Int) = U := rfl
      clear hq3 hq1 hq2 hlen hOut H4 HCT HT hb6 hB46 HBw5 HB5 HE3
      go_wp2_with fail
      refine HUs.out.mono ?_
      rintro e w7 ⟨rfl, rfl⟩
      go_wp2_with fail
      go_ret
      exact ⟨rfl, HB6.out⟩
    · have h0 : ((c : Int) != 0) = true := by
        rw [bne_iff_ne]; omega
      have HB1 := Lib.hid hb1
      have HT := Lib.hid (told_any w1 (HO.out.up hb1))
      clear hb1
      go_wp2_with fail
      refine HT.out.mono ?_
      rintro e w2 ⟨rfl, hb⟩
      have HB := Lib.hid (HB1.out.trans (hb.mono HB1.out.size))
      clear hb
      go_wp2_with fail
      go_ret
      exact ⟨rfl, HB.out⟩
end Go.Proofs.YtjejlhpnhkacmaaGreatDoor.InfC
end
