/-
  made, fixedCodes; codes.bits.
-/
import Derived.Test.YtaeoedapaiapdaaBkC0
import Derived.Test.YtaeoedapaiapdaaCanE
import Derived.Test.YtaeoedapaiapdaaSlc
import Derived.Test.YtaeoedapaiapdaaPkCst
namespace Go.Proofs.Ytaeoedapaiapdaa.BlkC
open Go.RowKit Go.My BitMath CanMath TabMath
open CanC (iv allWords)
open PkC (cel lv)
open InfMath (CodeOk fixL fixD)

theorem lv_iv (l : List Nat) : (l.map fun n : Nat => (n : Int)).map iv = lv l := by
  unfold lv iv; rw [List.map_map]; rfl
theorem nat_cast (l : List Nat) : CanC.nat (l.map fun n : Nat => (n : Int)) = l := by
  unfold CanC.nat
  rw [List.map_map]
  conv => rhs; rw [← List.map_id l]
  apply List.map_congr_left
  intro n _
  simp
/-- A code in memory: its lengths, its words. -/
structure CodeIn (B : Nat) (w : World) (a b : Option Addr) (n c1 c2 : Nat) (ls : List Nat) : Prop where
  lens : RowIn w a n c1 (lv ls)
  words : RowIn w b n c2 (allWords ls)
  la : ∀ k off, a = some ⟨k, off, none⟩ → B ≤ k
  lb : ∀ k off, b = some ⟨k, off, none⟩ → B ≤ k
theorem CodeIn.below {B : Nat} {w w' : World} {a b : Option Addr} {n c1 c2 : Nat} {ls : List Nat} (h : CodeIn B w a b n c1 c2 ls) (hb : Below w.heap.size w w') : CodeIn B w' a b n c1 c2 ls :=
  ⟨h.lens.below (Nat.le_refl _) hb, h.words.below (Nat.le_refl _) hb, h.la, h.lb⟩
theorem own_la {E : TypeId} {B : Nat} {w : World} {a : Option Addr} {n c : Nat} {vs : List Value} (h : OwnV E B w (.slice a n c) vs) : ∀ k off, a = some ⟨k, off, none⟩ → B ≤ k := fun k off e => h.base k (by rw [e]; rfl)
theorem row_only {S : Nat → Prop} {w w' : World} {a : Option Addr} {n c : Nat} {vs : List Value} (h : Only S w w') (hr : RowIn w a n c vs) (hS : ∀ b off, a = some ⟨b, off, none⟩ → ¬ S b) : RowIn w' a n c vs := by
  refine ⟨hr.1, hr.2, hr.3, hr.4, hr.5.imp_right ?_⟩
  rintro ⟨b, off, ha, hs, hc⟩
  exact ⟨b, off, ha, Nat.lt_of_lt_of_le hs h.size, fun i hi => by rw [h.cell (p := ⟨b, off + i, none⟩) hs (hS b off ha)]; exact hc i hi⟩
theorem only_set2 (w : World) (g : Nat) (u v : Value) : Only (fun k => k = g) w ((w.setCell ⟨g, 0, none⟩ u).setCell ⟨g, 1, none⟩ v) :=
  ((Only.refl (fun k => k = g) w).setCell (p := ⟨g, 0, none⟩) (fun _ => rfl) u).setCell (p := ⟨g, 1, none⟩) (fun _ => rfl) v
theorem code_ret {fn : Func} {p : Tmp} (hres : fn.results = #[.cell p 52]) {a : Act} {w : World} {g : Nat} {cs : Array Value} {R : Ending → World → Prop} (hd : a.defers = []) (hp : a.tmps.getD p undef = .pointer (some ⟨g, 0, none⟩))
    (hg : Blk w g 52 cs) (hi : (Try.prog.info? 52).map (·.size) = some cs.size) (h : R (.returned (.agg cs)) w) : bodyPost Try.prog fn R .ret a w :=
  bodyPost_ret (results_cell_row hres _ _ g _ cs _ _ hp hg Try.underlying52 rfl hi) hd h
theorem info_code : (Try.prog.info? 52).map (·.size) = some 2 := by kernel_rfl
set_option maxRecDepth 100000 in
set_option maxHeartbeats 2000000 in
theorem made_any (a : Option Addr) (n c : Nat) (ls : List Nat) (w : World) (h : RowIn w a n c (lv ls)) (hn : ls.length ≤ 65536) (h15 : ∀ x ∈ ls, x ≤ 15) (hk : kr ls ≤ 32768) {B : Nat} (hB : B ≤ w.heap.size) (hla : ∀ k off, a = some ⟨k, off, none⟩ → B ≤ k) :
    Calls Try.prog 36 #[.slice a n c] w fun e w' => ∃ b, e = .returned (.agg #[.slice a n c, .slice (some ⟨b, 0, none⟩) n n]) ∧ w.heap.size ≤ b ∧ CodeIn B w' a (some ⟨b, 0, none⟩) n c n ls ∧ Below w.heap.size w w' := by
  have hl : ls.length = n := by have := h.len_eq; simpa [lv] using this
  have hgood : CanC.Good (ls.map fun k : Nat => (k : Int)) := by
    refine ⟨by rw [List.length_map]; exact hn, fun z hz => ?_⟩
    obtain ⟨k, hk, rfl⟩ := List.mem_map.1 hz
    have := h15 k hk
    omega
  obtain ⟨X, hX⟩ : ∃ X, X = w.alloc (.cells #[.slice none 0 0, .slice none 0 0] 52) := ⟨_, rfl⟩
  have HBX : Hid (Blk X w.heap.size 52 #[.slice none 0 0, .slice none 0 0]) := Lib.hid (by rw [hX]; exact Blk.new w _ _)
  have HXB : Hid (Below w.heap.size w X) := Lib.hid (by rw [hX]; exact (Below.refl _ _).alloc (Nat.le_refl _) _)
  have HR0 := Lib.hid h
  have HR := Lib.hid (h.below (Nat.le_refl _) HXB.out)
  have HC := Lib.hid (CanC.codes_ok a n c (ls.map fun k : Nat => (k : Int)) X (by rw [lv_iv]; exact HR.out) hgood (by rw [nat_cast]; exact hk))
  have HL : Hid ((ls.map fun k : Nat => (k : Int)).length = n) := Lib.hid (by rw [List.length_map]; exact hl)
  clear h hn h15 hk hl hgood
  go_enter Try.func36, Try.ntmps36
  go_upto_region 1 with (fail)
  rw [← hX]
  clear hX
  go_wp2_with fail
  refine HC.out.mono ?_
  rintro e w1 ⟨g, rfl, hg, hown, hb⟩
  rw [HL.out] at *
  rw [nat_cast] at hown
  have HB1 := Lib.hid (HBX.out.same (hb.block w.heap.size HBX.out.lt))
  have HX1 := Lib.hid (HXB.out.trans (hb.mono HXB.out.size))
  have HLT := Lib.hid HBX.out.lt
  have HOW := Lib.hid hown
  have HG := Lib.hid hg
  have r0 : w1.cell? ⟨w.heap.size, 0, none⟩ = some (.slice none 0 0) := HB1.out.cell 0
  have r1 : w1.cell? ⟨w.heap.size, 1, none⟩ = some (.slice none 0 0) := HB1.out.cell 1
  have f0 := HB1.out.frozen 0
  have f1 := HB1.out.frozen 1
  have HRR := Lib.hid (HR.out.below (Nat.le_refl _) hb)
  clear hg hown hb HC HBX
  go_wp2_with fail
  have HB3 := (HB1.out.set_ 0 (.slice a n c)).set_ 1 (.slice (some ⟨g, 0, none⟩) n n)
  have hO := only_set2 w1 w.heap.size (.slice a n c) (.slice (some ⟨g, 0, none⟩) n n)
  have hbl : Below w.heap.size w ((w1.setCell ⟨w.heap.size, 0, none⟩ (.slice a n c)).setCell ⟨w.heap.size, 1, none⟩ (.slice (some ⟨g, 0, none⟩) n n)) := HX1.out.trans (hO.below (by have := HX1.out.size; omega) (fun k hk => by omega))
  have hrow : RowIn w1 (some ⟨g, 0, none⟩) n n (allWords ls) := by
    have h1 := HOW.out
    exact h1.rowIn (by rw [CanC.allWords_len]; have := HR0.out.len_eq; simpa [lv] using this)
  refine code_ret rfl rfl rfl HB3 info_code ⟨g, rfl, by have := HG.out; have := HLT.out; omega, ⟨HR0.out.below (Nat.le_refl _) hbl, row_only hO hrow (fun b off hab => ?_), hla, fun k off hab => ?_⟩, hbl⟩
  all_goals
    injection hab with hab
    injection hab with hab _
    have := HG.out
    have := HLT.out
    omega

theorem one_row (w : World) (z : Int) : RowIn (w.alloc (.cells #[.int .i64 z] 3)) (some ⟨w.heap.size, 0, none⟩) 1 1 [iv z] :=
  (OwnV.lit 3 w #[.int .i64 z] (Nat.le_refl _) (by simp)).rowIn rfl
/-- The four rows of the fixed literals' lengths. -/
def fixR : Nat → List Value
  | 0 => List.replicate 144 (iv 8)
  | 1 => List.replicate 112 (iv 9)
  | 2 => List.replicate 24 (iv 7)
  | _ => List.replicate 8 (iv 8)
theorem cat_fix : SlcC.cat fixR 4 = lv fixL := by
  rw [← lv_iv]
  simp only [SlcC.cat, fixR, fixL, List.map_append, List.map_replicate, List.nil_append]
  rfl
theorem fixD_lv : lv fixD = List.replicate 32 (iv 5) := by rw [← lv_iv]; simp only [fixD, List.map_replicate]; rfl
/-- The fixed codes in memory. -/
def FixedRet (w : World) (e : Ending) (w' : World) : Prop :=
  ∃ a1 c1 b1 a2 c2 b2, e = .returned (.agg #[.slice a1 288 c1, .slice (some ⟨b1, 0, none⟩) 288 288, .slice a2 32 c2, .slice (some ⟨b2, 0, none⟩) 32 32]) ∧
    CodeIn w.heap.size w' a1 (some ⟨b1, 0, none⟩) 288 c1 288 fixL ∧ CodeIn w.heap.size w' a2 (some ⟨b2, 0, none⟩) 32 c2 32 fixD ∧ Below w.heap.size w w'
theorem info_codes : (Try.prog.info? 54).map (·.size) = some 4 := by kernel_rfl
theorem codes_ret {fn : Func} {p : Tmp} (hres : fn.results = #[.cell p 54]) {a : Act} {w : World} {g : Nat} {cs : Array Value} {R : Ending → World → Prop} (hd : a.defers = []) (hp : a.tmps.getD p undef = .pointer (some ⟨g, 0, none⟩))
    (hg : Blk w g 54 cs) (hi : (Try.prog.info? 54).map (·.size) = some cs.size) (h : R (.returned (.agg cs)) w) : bodyPost Try.prog fn R .ret a w :=
  bodyPost_ret (results_cell_row hres _ _ g _ cs _ _ hp hg Try.underlying54 rfl hi) hd h
theorem CodeIn.off {B g : Nat} {w w' : World} {a b : Option Addr} {n c1 c2 : Nat} {ls : List Nat} (h : CodeIn B w a b n c1 c2 ls) (ho : Only (fun k => k = g) w w') (ha : ∀ off, a ≠ some ⟨g, off, none⟩) (hb : ∀ off, b ≠ some ⟨g, off, none⟩) : CodeIn B w' a b n c1 c2 ls :=
  ⟨row_only ho h.lens (fun k off e hk => by subst hk; exact ha off e), row_only ho h.words (fun k off e hk => by subst hk; exact hb off e), h.la, h.lb⟩
theorem only_set4 (w : World) (g : Nat) (u v x y : Value) : Only (fun k => k = g) w ((((w.setCell ⟨g, 0, none⟩ u).setCell ⟨g, 1, none⟩ v).setCell ⟨g, 2, none⟩ x).setCell ⟨g, 3, none⟩ y) :=
  ((((Only.refl (fun k => k = g) w).setCell (p := ⟨g, 0, none⟩) (fun _ => rfl) u).setCell (p := ⟨g, 1, none⟩) (fun _ => rfl) v).setCell (p := ⟨g, 2, none⟩) (fun _ => rfl) x).setCell (p := ⟨g, 3, none⟩) (fun _ => rfl) y
theorem cells_ne {w : World} {g n c : Nat} {a : Option Addr} {vs : List Value} {t : TypeId} {cs : Array Value} (hr : RowIn w a n c vs) (h0 : 0 < n) (hg : Blk w g t cs) (hv : ∀ u ∈ vs, ∃ k q, u = .int k q) (hs : ∀ (i : Nat) u, cs[i]? = some u → ∃ p m c, u = Value.slice p m c) : ∀ off, a ≠ some ⟨g, off, none⟩ := by
  rintro off rfl
  have h1 := hr.get 0 (by have := hr.len_eq; omega)
  rw [hg.cell] at h1
  obtain ⟨p, m, c', e1⟩ := hs _ _ h1
  obtain ⟨k, q, e2⟩ := hv (vs[0]'(by have := hr.len_eq; omega)) (List.getElem_mem _)
  rw [e1] at e2
  cases e2
theorem lv_ints (l : List Nat) : ∀ u ∈ lv l, ∃ k q, u = Value.int k q := by
  intro u hu
  obtain ⟨n, -, rfl⟩ := List.mem_map.1 hu
  exact ⟨_, _, rfl⟩
theorem words_ints (l : List Nat) : ∀ u ∈ allWords l, ∃ k q, u = Value.int k q := by
  intro u hu
  obtain ⟨n, -, rfl⟩ := List.mem_map.1 hu
  exact ⟨_, _, rfl⟩
theorem slices4 {p1 p2 p3 p4 : Option Addr} {m1 m2 m3 m4 c1 c2 c3 c4 : Nat} : ∀ (i : Nat) u, (#[Value.slice p1 m1 c1, .slice p2 m2 c2, .slice p3 m3 c3, .slice p4 m4 c4] : Array Value)[i]? = some u → ∃ p m c, u = Value.slice p m c := by
  intro i u h
  rcases i with _ | _ | _ | _ | i
  · injection h with h; exact ⟨_, _, _, h.symm⟩
  · injection h with h; exact ⟨_, _, _, h.symm⟩
  · injection h with h; exact ⟨_, _, _, h.symm⟩
  · injection h with h; exact ⟨_, _, _, h.symm⟩
  · simp at h
theorem fixed_done {w w8 : World} {a1 a2 : Option Addr} {c1 b1 c2 b2 : Nat} {p1 p2 p3 p4 : Option Addr} {m1 m2 m3 m4 d1 d2 d3 d4 : Nat} (hb : Below w.heap.size w w8) (hg : Blk w8 w.heap.size 54 #[.slice p1 m1 d1, .slice p2 m2 d2, .slice p3 m3 d3, .slice p4 m4 d4])
    (h1 : CodeIn w.heap.size w8 a1 (some ⟨b1, 0, none⟩) 288 c1 288 fixL) (h2 : CodeIn w.heap.size w8 a2 (some ⟨b2, 0, none⟩) 32 c2 32 fixD) (u v x y : Value) :
    FixedRet w (.returned (.agg #[.slice a1 288 c1, .slice (some ⟨b1, 0, none⟩) 288 288, .slice a2 32 c2, .slice (some ⟨b2, 0, none⟩) 32 32])) ((((w8.setCell ⟨w.heap.size, 0, none⟩ u).setCell ⟨w.heap.size, 1, none⟩ v).setCell ⟨w.heap.size, 2, none⟩ x).setCell ⟨w.heap.size, 3, none⟩ y) := by
  have ho := only_set4 w8 w.heap.size u v x y
  exact ⟨a1, c1, b1, a2, c2, b2, rfl, h1.off ho (cells_ne h1.lens (by omega) hg (lv_ints _) slices4) (cells_ne h1.words (by omega) hg (words_ints _) slices4), h2.off ho (cells_ne h2.lens (by omega) hg (lv_ints _) slices4) (cells_ne h2.words (by omega) hg (words_ints _) slices4),
    hb.trans (ho.below (by have := hg.lt; omega) (fun k hk => by omega))⟩
set_option maxRecDepth 100000 in
set_option maxHeartbeats 4000000 in
theorem fixed_any (w : World) : Calls Try.prog 25 #[] w (FixedRet w) := by
  obtain ⟨w0, hw0⟩ : ∃ w0, w0 = w.alloc (.cells #[.slice none 0 0, .slice none 0 0, .slice none 0 0, .slice none 0 0] 54) := ⟨_, rfl⟩
  have HBX : Hid (Blk w0 w.heap.size 54 #[.slice none 0 0, .slice none 0 0, .slice none 0 0, .slice none 0 0]) := Lib.hid (by rw [hw0]; exact Blk.new w _ _)
  have HXB : Hid (Below w.heap.size w w0) := Lib.hid (by rw [hw0]; exact (Below.refl _ _).alloc (Nat.le_refl _) _)
  go_enter Try.func25, Try.ntmps25
  go_upto_region 1 with (fail)
  rw [← hw0]
  clear hw0
  go_wp2_with fail
  refine (SlcC.repeat_any 8 144 (by omega) (by omega) _ _ _ (one_row w0 8)).mono ?_
  rintro e w1 ⟨ga, rfl, hown, hb⟩
  have H1 : Hid (RowIn w1 (some ⟨ga, 0, none⟩) 144 144 (fixR 0)) := Lib.hid (hown.rowIn (by simp))
  have HB1 : Hid (Below w0.heap.size w0 w1) := Lib.hid (((Below.refl w0.heap.size w0).alloc (Nat.le_refl _) _).trans (hb.mono (by simp)))
  clear hown hb
  go_wp2_with fail
  refine (SlcC.repeat_any 9 112 (by omega) (by omega) _ _ _ (one_row w1 9)).mono ?_
  rintro e w2 ⟨gb, rfl, hown, hb⟩
  have hb2 : Below w1.heap.size w1 w2 := ((Below.refl w1.heap.size w1).alloc (Nat.le_refl _) _).trans (hb.mono (by simp))
  have H1' : Hid (RowIn w2 (some ⟨ga, 0, none⟩) 144 144 (fixR 0)) := Lib.hid (H1.out.below (Nat.le_refl _) hb2)
  have H2 : Hid (RowIn w2 (some ⟨gb, 0, none⟩) 112 112 (fixR 1)) := Lib.hid (hown.rowIn (by simp))
  have HB2 : Hid (Below w0.heap.size w0 w2) := Lib.hid (HB1.out.trans (hb2.mono HB1.out.size))
  clear hown hb hb2 H1 HB1
  go_wp2_with fail
  refine (SlcC.repeat_any 7 24 (by omega) (by omega) _ _ _ (one_row w2 7)).mono ?_
  rintro e w3 ⟨gc, rfl, hown, hb⟩
  have hb3 : Below w2.heap.size w2 w3 := ((Below.refl w2.heap.size w2).alloc (Nat.le_refl _) _).trans (hb.mono (by simp))
  have H1 : Hid (RowIn w3 (some ⟨ga, 0, none⟩) 144 144 (fixR 0)) := Lib.hid (H1'.out.below (Nat.le_refl _) hb3)
  have H2' : Hid (RowIn w3 (some ⟨gb, 0, none⟩) 112 112 (fixR 1)) := Lib.hid (H2.out.below (Nat.le_refl _) hb3)
  have H3 : Hid (RowIn w3 (some ⟨gc, 0, none⟩) 24 24 (fixR 2)) := Lib.hid (hown.rowIn (by simp))
  have HB3 : Hid (Below w0.heap.size w0 w3) := Lib.hid (HB2.out.trans (hb3.mono HB2.out.size))
  clear hown hb hb3 H1' H2 HB2
  go_wp2_with fail
  refine (SlcC.repeat_any 8 8 (by omega) (by omega) _ _ _ (one_row w3 8)).mono ?_
  rintro e w4 ⟨gd, rfl, hown, hb⟩
  have hb4 : Below w3.heap.size w3 w4 := ((Below.refl w3.heap.size w3).alloc (Nat.le_refl _) _).trans (hb.mono (by simp))
  have h1 : RowIn w4 (some ⟨ga, 0, none⟩) 144 144 (fixR 0) := H1.out.below (Nat.le_refl _) hb4
  have h2 : RowIn w4 (some ⟨gb, 0, none⟩) 112 112 (fixR 1) := H2'.out.below (Nat.le_refl _) hb4
  have h3 : RowIn w4 (some ⟨gc, 0, none⟩) 24 24 (fixR 2) := H3.out.below (Nat.le_refl _) hb4
  have h4 : RowIn w4 (some ⟨gd, 0, none⟩) 8 8 (fixR 3) := hown.rowIn (by simp)
  have HB4 : Hid (Below w0.heap.size w0 w4) := Lib.hid (HB3.out.trans (hb4.mono HB3.out.size))
  obtain ⟨f, hf⟩ : ∃ f : Nat → Value, f = fun i => if i = 0 then .slice (some ⟨ga, 0, none⟩) 144 144 else if i = 1 then .slice (some ⟨gb, 0, none⟩) 112 112 else if i = 2 then .slice (some ⟨gc, 0, none⟩) 24 24 else .slice (some ⟨gd, 0, none⟩) 8 8 := ⟨_, rfl⟩
  have hal : Below w4.heap.size w4 (w4.alloc (.cells #[.slice (some ⟨ga, 0, none⟩) 144 144, .slice (some ⟨gb, 0, none⟩) 112 112, .slice (some ⟨gc, 0, none⟩) 24 24, .slice (some ⟨gd, 0, none⟩) 8 8] 49)) := (Below.refl _ _).alloc (Nat.le_refl _) _
  have hrw : SlcC.Rws (w4.alloc (.cells #[.slice (some ⟨ga, 0, none⟩) 144 144, .slice (some ⟨gb, 0, none⟩) 112 112, .slice (some ⟨gc, 0, none⟩) 24 24, .slice (some ⟨gd, 0, none⟩) 8 8] 49)) (some ⟨w4.heap.size, 0, none⟩) 4 4 f fixR := by
    refine ⟨?_, fun i hi => ?_, fun i _ u hu => ?_⟩
    · have := (OwnV.lit 49 w4 #[.slice (some ⟨ga, 0, none⟩) 144 144, .slice (some ⟨gb, 0, none⟩) 112 112, .slice (some ⟨gc, 0, none⟩) 24 24, .slice (some ⟨gd, 0, none⟩) 8 8] (Nat.le_refl _) (by simp)).rowIn rfl
      rw [hf]
      exact this
    · rw [hf]
      rcases (by omega : i = 0 ∨ i = 1 ∨ i = 2 ∨ i = 3) with rfl | rfl | rfl | rfl
      · exact ⟨_, _, rfl, h1.below (Nat.le_refl _) hal⟩
      · exact ⟨_, _, rfl, h2.below (Nat.le_refl _) hal⟩
      · exact ⟨_, _, rfl, h3.below (Nat.le_refl _) hal⟩
      · exact ⟨_, _, rfl, h4.below (Nat.le_refl _) hal⟩
    · unfold fixR at hu
      split at hu <;> (rw [(List.mem_replicate.1 hu).2]; rfl)
  have HRW := Lib.hid hrw
  clear hown hb hb4 h1 h2 h3 h4 hal hrw hf H1 H2' H3 HB3
  have hlv : (lv fixL).length = 288 := by simp only [lv, List.length_map]; exact InfMath.fixL_len
  go_wp2_with fail
  refine (SlcC.concat_any _ 4 4 f fixR _ HRW.out (by omega) (by rw [cat_fix, hlv]; omega) (by rw [cat_fix, hlv]; omega)).mono ?_
  rw [cat_fix, hlv]
  rintro e w5 ⟨a5, c5, rfl, hown, hb⟩
  have H5 : Hid (RowIn w5 a5 288 c5 (lv fixL)) := Lib.hid (hown.rowIn hlv)
  have hb5 : Below w0.heap.size w0 w5 := HB4.out.trans ((((Below.refl w4.heap.size w4).alloc (Nat.le_refl _) _).trans (hb.mono (by simp))).mono HB4.out.size)
  have HB5 := Lib.hid hb5
  have HLA : Hid (∀ k off, a5 = some ⟨k, off, none⟩ → w.heap.size ≤ k) := Lib.hid fun k off hk => by
    have h1 := own_la hown k off hk
    have h2 := HB4.out.size
    have h3 := HXB.out.size
    simp at h1
    omega
  have HM1 := Lib.hid (made_any a5 288 c5 fixL w5 H5.out (by rw [InfMath.fixL_len]; omega) InfMath.fixL_ok.all InfMath.fixL_ok.kr (B := w.heap.size) (by have := HB5.out.size; have := HXB.out.size; omega) HLA.out)
  clear hown hb hb5 HRW HB4
  go_wp2_with fail
  refine HM1.out.mono ?_
  rintro e w6 ⟨b1, rfl, hb1, hc, hb⟩
  have HC1 := Lib.hid hc
  have HB6 := Lib.hid (HB5.out.trans (hb.mono HB5.out.size))
  clear hb1 hc hb HM1 HB5 H5
  go_wp2_with fail
  refine (SlcC.repeat_any 5 32 (by omega) (by omega) _ _ _ (one_row w6 5)).mono ?_
  rintro e w7 ⟨g7, rfl, hown, hb⟩
  have hb7 : Below w6.heap.size w6 w7 := ((Below.refl w6.heap.size w6).alloc (Nat.le_refl _) _).trans (hb.mono (by simp))
  have H7 : Hid (RowIn w7 (some ⟨g7, 0, none⟩) 32 32 (lv fixD)) := Lib.hid (by rw [fixD_lv]; exact hown.rowIn (by simp))
  have HC7 := Lib.hid (HC1.out.below hb7)
  have HB7 := Lib.hid (HB6.out.trans (hb7.mono HB6.out.size))
  have HLB : Hid (∀ k off, (some ⟨g7, 0, none⟩ : Option Addr) = some ⟨k, off, none⟩ → w.heap.size ≤ k) := Lib.hid fun k off hk => by
    have h1 := own_la hown k off hk
    have h2 := HB6.out.size
    have h3 := HXB.out.size
    simp at h1
    omega
  have HM2 := Lib.hid (made_any (some ⟨g7, 0, none⟩) 32 32 fixD w7 H7.out (by rw [InfMath.fixD_len]; omega) InfMath.fixD_ok.all InfMath.fixD_ok.kr (B := w.heap.size) (by have := HB7.out.size; have := HXB.out.size; omega) HLB.out)
  clear hown hb hb7 HC1 HB6 H7
  go_wp2_with fail
  refine HM2.out.mono ?_
  rintro e w8 ⟨b2, rfl, hb2, hc, hb⟩
  have HC2 := Lib.hid hc
  have HC8 := Lib.hid (HC7.out.below hb)
  have HB8 := Lib.hid (HB7.out.trans (hb.mono HB7.out.size))
  clear hb2 hc hb HM2 HB7 HC7
  have HBR := Lib.hid (HBX.out.same (HB8.out.block w.heap.size HBX.out.lt))
  have r0 : w8.cell? ⟨w.heap.size, 0, none⟩ = some (.slice none 0 0) := HBR.out.cell 0
  have r1 : w8.cell? ⟨w.heap.size, 1, none⟩ = some (.slice none 0 0) := HBR.out.cell 1
  have r2 : w8.cell? ⟨w.heap.size, 2, none⟩ = some (.slice none 0 0) := HBR.out.cell 2
  have r3 : w8.cell? ⟨w.heap.size, 3, none⟩ = some (.slice none 0 0) := HBR.out.cell 3
  have f0 := HBR.out.frozen 0
  have f1 := HBR.out.frozen 1
  have f2 := HBR.out.frozen 2
  have f3 := HBR.out.frozen 3
  have HW8 := Lib.hid (HXB.out.trans (HB8.out.mono HXB.out.size))
  have HNE : Hid (∀ k, w.heap.size < k → k ≠ w.heap.size) := Lib.hid fun k hk => by omega
  go_wp2_with fail
  have HB3 := (((HBR.out.set_ 0 (.slice a5 288 c5)).set_ 1 (.slice (some ⟨b1, 0, none⟩) 288 288)).set_ 2 (.slice (some ⟨g7, 0, none⟩) 32 32)).set_ 3 (.slice (some ⟨b2, 0, none⟩) 32 32)
  refine codes_ret rfl rfl rfl HB3 info_codes ?_
  exact fixed_done HW8.out HBR.out HC8.out HC2.out _ _ _ _
end Go.Proofs.Ytaeoedapaiapdaa.BlkC
