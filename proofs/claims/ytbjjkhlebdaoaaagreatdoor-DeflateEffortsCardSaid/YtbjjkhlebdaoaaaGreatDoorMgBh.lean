import Derived.Test.YtbjjkhlebdaoaaaGreatDoorMgBp
import Derived.Test.YtbjjkhlebdaoaaaGreatDoorMgBt
import Derived.Test.YtbjjkhlebdaoaaaGreatDoorMgH

section
/-
  header.put, header.bits.
-/
namespace Go.Proofs.YtbjjkhlebdaoaaaGreatDoor.BlkC
open Go.RowKit Go.My BitMath CanMath TabMath BitC
open CanC (iv allWords)
open PkC (lv)
open InfMath (Pc CodeOk pbits hbits)

/-- How many lengths of the short code are told. -/
def hcl (Sh : List Nat) : Nat → Nat
  | 0 => 0
  | n + 1 => if 4 < n + 1 ∧ Sh.getD (InfMath.order.getD n 0) 0 = 0 then hcl Sh n else n + 1
theorem hcl_le (Sh : List Nat) : ∀ n, hcl Sh n ≤ n
  | 0 => Nat.le_refl _
  | n + 1 => by unfold hcl; split; have := hcl_le Sh n; omega; omega
theorem hcl_four (Sh : List Nat) : ∀ n, 4 ≤ n → 4 ≤ hcl Sh n
  | 0, h => by omega
  | n + 1, h => by
    unfold hcl
    split
    · next h2 => exact hcl_four Sh n (by omega)
    · exact h
theorem hcl_rest (Sh : List Nat) : ∀ n i, hcl Sh n ≤ i → i < n → Sh.getD (InfMath.order.getD i 0) 0 = 0
  | 0, i, _, h => by omega
  | n + 1, i, h1, h2 => by
    unfold hcl at h1
    split at h1
    · next h3 =>
      by_cases e : i = n
      · subst e; exact h3.2
      · exact hcl_rest Sh n i h1 (by omega)
    · omega
def hn (Sh : List Nat) : Nat := hcl Sh 19
theorem pcs_only {S : Nat → Prop} {w w' : World} {a : Option Addr} {len cap : Nat} {P : List Pc} (h : PcIn w a len cap P) (ho : Only S w w') (hS : ∀ b off, a = some ⟨b, off, none⟩ → ¬ S b) : PcIn w' a len cap P := by
  refine ⟨h.1, h.2, h.3, h.4.imp_right ?_⟩
  rintro ⟨b, off, ha, hs, hc⟩
  have e : ∀ k, w'.cell? ⟨b, k, none⟩ = w.cell? ⟨b, k, none⟩ := fun k => ho.cell (p := ⟨b, k, none⟩) hs (hS b off ha)
  exact ⟨b, off, ha, Nat.lt_of_lt_of_le hs ho.size, fun i hi => by rw [e, e, e]; exact hc i hi⟩
/-- A header and what it names, beside a writer. -/
structure Hd (B : Nat) (w : World) (g : Nat) (r : Option Nat) (pa sa sb : Option Addr) (np pc_ sc sd : Nat) (Sh : List Nat) (P : List Pc) : Prop where
  cd : Cd w g r sa sb 19 sc sd Sh
  pcs : PcIn w pa np pc_ P
  sep : ∀ b off, pa = some ⟨b, off, none⟩ → b < w.heap.size ∧ ¬ Fp g r b
  tbl : Tbls B w
section
variable {B : Nat} {w0 w w' : World} {g q : Nat} {r r' r2 : Option Nat} {pa sa sb : Option Addr} {np pc_ sc sd : Nat} {Sh : List Nat} {P : List Pc} {T T2 : List Bool} {cs : Array Value}
theorem Hd.below (h : Hd B w g r pa sa sb np pc_ sc sd Sh P) (hb : Below w.heap.size w w') (hB : B ≤ w.heap.size) : Hd B w' g r pa sa sb np pc_ sc sd Sh P :=
  ⟨h.cd.below hb, h.pcs.below hb, fun b off e => ⟨Nat.lt_of_lt_of_le (h.sep b off e).1 hb.size, (h.sep b off e).2⟩, h.tbl.below hb hB⟩
theorem Hd.next (h : Hd B w g r pa sa sb np pc_ sc sd Sh P) (hw : Wr B w g r T) (ho : Only (Fp g r) w w') (hn : Nxt r w.heap.size r') : Hd B w' g r' pa sa sb np pc_ sc sd Sh P :=
  ⟨h.cd.next ho hn, pcs_only h.pcs ho (fun b off e => (h.sep b off e).2), fun b off e => ⟨Nat.lt_of_lt_of_le (h.sep b off e).1 ho.size, fp_next (h.sep b off e).1 (h.sep b off e).2 hn⟩, h.tbl.below (C := B) (ho.below (by have := hw.base; have := hw.lt; omega) hw.fp) (Nat.le_refl _)⟩
/-- While it is put. -/
structure Ph (B : Nat) (w0 : World) (g : Nat) (r : Option Nat) (q : Nat) (cs : Array Value) (pa sa sb : Option Addr) (np pc_ sc sd : Nat) (Sh : List Nat) (P : List Pc) (w : World) (r' : Option Nat) (T : List Bool) : Prop where
  wr : Wr B w g r' T
  hd : Hd B w g r' pa sa sb np pc_ sc sd Sh P
  box : Blk w q 80 cs
  nq : ¬ Fp g r' q
  only : Only (Fp g r) w0 w
  nxt : Nxt r w0.heap.size r'
theorem Ph.below (h : Ph B w0 g r q cs pa sa sb np pc_ sc sd Sh P w r' T) (hb : Below w.heap.size w w') : Ph B w0 g r q cs pa sa sb np pc_ sc sd Sh P w' r' T :=
  ⟨h.wr.below hb, h.hd.below hb (by have := h.wr.base; have := h.wr.lt; omega), Blk.later h.box hb, h.nq, h.only.then_below hb, h.nxt⟩
theorem Ph.next (h : Ph B w0 g r q cs pa sa sb np pc_ sc sd Sh P w r' T) (hw : Wr B w' g r2 T2) (ho : Only (Fp g r') w w') (hn : Nxt r' w.heap.size r2) : Ph B w0 g r q cs pa sa sb np pc_ sc sd Sh P w' r2 T2 :=
  ⟨hw, h.hd.next h.wr ho hn, ho.blk h.box h.nq, fp_next h.box.lt h.nq hn, h.only.next h.nxt ho, h.nxt.trans hn h.only.size⟩
end
theorem sh_cell {w : World} {p o n c : Nat} {Sh : List Nat} (h : RowIn w (some ⟨p, o, none⟩) n c (lv Sh)) (i : Nat) (hi : i < n) : w.cell? ⟨p, o + i, none⟩ = some (.int .i64 ((Sh.getD i 0 : Nat) : Int)) := by
  have hl := h.len_eq
  simp [lv] at hl
  rw [h.get i (by simp [lv]; omega), lv_at _ _ (by omega)]
theorem u32_small (n : Nat) (h : n < 4294967296) : IntKind.u32.wrap (n : Int) = (n : Int) := by rw [IntKind.wrap_u32]; omega
theorem rng_succ {α : Type} (f : Nat → List α) (i : Nat) : (List.range (i + 1)).flatMap f = (List.range i).flatMap f ++ f i := by
  rw [List.range_succ, List.flatMap_append, List.flatMap_cons, List.flatMap_nil, List.append_nil]
theorem take_pc {P : List Pc} {j : Nat} (h : j < P.length) (f : Pc → List Bool) : (P.take (j + 1)).flatMap f = (P.take j).flatMap f ++ f P[j] := by
  rw [List.take_succ_eq_append_getElem h, List.flatMap_append, List.flatMap_cons, List.flatMap_nil, List.append_nil]
theorem PcIn.get {w : World} {a : Option Addr} {len cap j : Nat} {P : List Pc} (h : PcIn w a len cap P) (hj : j < P.length) : ∃ b off, a = some ⟨b, off, none⟩ ∧ w.cell? ⟨b, off + j * 3, none⟩ = some (.int .i64 (P[j].s : Int)) ∧ w.cell? ⟨b, off + j * 3 + 1, none⟩ = some (.int .i64 (P[j].x : Int)) ∧ w.cell? ⟨b, off + j * 3 + 2, none⟩ = some (.int .i64 (P[j].v : Int)) := by
  rcases h.at_ with h0 | ⟨b, off, ha, -, hc⟩
  · have := h.len_eq; omega
  · exact ⟨b, off, ha, hc j hj⟩
set_option maxRecDepth 100000 in
set_option maxHeartbeats 8000000 in
theorem hput_any (B g : Nat) (r : Option Nat) (bs : List Bool) (pa sa sb : Option Addr) (np pc_ sc sd hl hd : Nat) (Sh : List Nat) (P : List Pc) (L D : List Nat) (w : World) (hH : Hd B w g r pa sa sb np pc_ sc sd Sh P)
    (h7 : ∀ i, Sh.getD i 0 ≤ 7) (hkr : kr Sh ≤ 32768) (hP : ∀ p ∈ P, 1 ≤ ln Sh p.s ∧ p.x ≤ 32 ∧ p.v < 4294967296) (hL : L.length = hl) (hD : D.length = hd) (l1 : 257 ≤ hl) (l2 : hl ≤ 286) (d1 : 1 ≤ hd) (d2 : hd ≤ 32) (hnp : np ≤ 10000)
    (hw : Wr B w g r bs) (hbs : bs.length ≤ 1000000000) :
    Calls Tryz.prog 46 #[.agg #[.int .i64 (hl : Int), .int .i64 (hd : Int), .slice pa np pc_, .slice sa 19 sc, .slice sb 19 sd], .pointer (some ⟨g, 0, none⟩)] w (Wrote B g r w (bs ++ hbits L D Sh (hn Sh) P)) := by
  obtain ⟨cs, hcs⟩ : ∃ cs : Array Value, cs = #[.int .i64 (hl : Int), .int .i64 (hd : Int), .slice pa np pc_, .slice sa 19 sc, .slice sb 19 sd] := ⟨_, rfl⟩
  obtain ⟨X, hX⟩ : ∃ X, X = w.alloc (.cells #[.int .i64 (hl : Int), .int .i64 (hd : Int), .slice pa np pc_, .slice sa 19 sc, .slice sb 19 sd] 80) := ⟨_, rfl⟩
  have hXB : Below w.heap.size w X := by rw [hX]; exact (Below.refl _ _).alloc (Nat.le_refl _) _
  have HP0 : Hid (Ph B w g r w.heap.size cs pa sa sb np pc_ sc sd Sh P X r bs) := Lib.hid (by
    refine ⟨hw.below hXB, hH.below hXB (by have := hw.base; have := hw.lt; omega), by rw [hX, hcs]; exact Blk.new w _ _, ?_, Only.of_below hXB _, Nxt.refl _ _⟩
    rintro (e | e)
    · have := hw.lt; omega
    · have := (hw.rlt _ e).2; omega)
  have H7 := Lib.hid h7
  have HKR := Lib.hid hkr
  have HPP := Lib.hid hP
  have HLD := Lib.hid (And.intro hL hD)
  have HCS := Lib.hid hcs
  have HBL := Lib.hid hbs
  obtain ⟨p, o, rfl⟩ := hH.cd.lens.some_ (by omega)
  clear hH h7 hkr hP hL hD hw hbs hcs hXB
  go_enter Tryz.func46, Tryz.ntmps46
  go_upto_region 1 with (fail)
  rw [← hX]
  clear hX
  obtain ⟨q, hq⟩ : ∃ q, q = w.heap.size := ⟨_, rfl⟩
  rw [← hq]
  rw [← hq] at HP0
  clear hq
  have x3 : X.cell? ⟨q, 3, none⟩ = some (.slice (some ⟨p, o, none⟩) 19 sc) := by have := HP0.out.box.cell 3; rw [HCS.out] at this; exact this
  go_wp2_with fail
  go_loopw [4] (fun kv wr => ∃ k : Nat, kv = .int .i64 (k : Int) ∧ 4 ≤ k ∧ k ≤ 19 ∧ Hid (hcl Sh k = hn Sh) ∧ ∃ q, wr = X.drewN q) (fun kv _ => (intOf kv).toNat)
  case atStart => exact ⟨19, rfl, by omega, by omega, Lib.hid rfl, 0, rfl⟩
  case round =>
    obtain ⟨k, rfl, hk1, hk, HK, q0, rfl⟩ := hrel
    by_cases hgt : 4 < k
    · have hgd : decide ((4 : Int) < (k : Int)) = true := by simp; omega
      obtain ⟨j, hj⟩ : ∃ j, j = k - 1 := ⟨_, rfl⟩
      have hj1 : (k : Int) - 1 = (j : Int) := by omega
      have hj19 : (j : Int) < 19 := by omega
      obtain ⟨i, hi⟩ : ∃ i, i = InfMath.order.getD j 0 := ⟨_, rfl⟩
      have hi19 : i < 19 := by rw [hi]; exact InfMath.order_lt ⟨j, by omega⟩
      have hii : (i : Int) < 19 := by omega
      have ho := HP0.out.hd.tbl.order j (by omega)
      have hc := sh_cell HP0.out.hd.cd.lens i hi19
      have h7i := H7.out i
      obtain ⟨y, hy⟩ : ∃ y, y = Sh.getD i 0 := ⟨_, rfl⟩
      rw [← hi] at ho
      rw [← hy] at hc h7i
      have HY : Hid (hcl Sh k = if y = 0 then hcl Sh j else k) := Lib.hid (by
        rw [show k = j + 1 from by omega, hcl, ← hi, ← hy]
        by_cases e : y = 0
        · rw [if_pos e, if_pos ⟨by omega, e⟩]
        · rw [if_neg e, if_neg (fun h => e h.2)])
      have HJ := Lib.hid hj
      clear hi hy hj
      by_cases h0 : y = 0
      · have he : ((y : Int) == 0) = true := by simp; exact h0
        have HZ := Lib.hid h0
        clear h0
        go_upto_region 2 with (fail)
        go_quiet (fail)
        go_wp2_with fail
        go_roundw
        case rel => exact ⟨j, by go_num, by have := HJ.out; omega, by omega, Lib.hid (by have h2 := HY.out; rw [if_pos HZ.out] at h2; rw [← h2]; exact HK.out), _, rfl⟩
        case measure => have := HJ.out; simp [intOf]; omega
      · have he : ((y : Int) == 0) = false := by simp; omega
        have HN : Hid (hn Sh = k) := Lib.hid (by have h2 := HY.out; rw [if_neg h0] at h2; rw [← h2]; exact HK.out.symm)
        clear h0
        go_upto_region 2 with (fail)
        go_quiet (fail)
        go_upto_region 4 with (fail)
        obtain ⟨A, hA, hA1⟩ : ∃ A : Nat, A = hl - 257 ∧ (hl : Int) - 257 = (A : Int) := ⟨hl - 257, rfl, by omega⟩
        obtain ⟨E, hE, hE1⟩ : ∃ E : Nat, E = hd - 1 ∧ (hd : Int) - 1 = (E : Int) := ⟨hd - 1, rfl, by omega⟩
        obtain ⟨F, hF, hF1⟩ : ∃ F : Nat, F = k - 4 ∧ (k : Int) - 4 = (F : Int) := ⟨k - 4, rfl, by omega⟩
        have hA2 := u32_small A (by omega)
        have hE2 := u32_small E (by omega)
        have hF2 := u32_small F (by omega)
        have hAb : A < 4294967296 := by omega
        have hEb : E < 4294967296 := by omega
        have hFb : F < 4294967296 := by omega
        have HAEF := Lib.hid (And.intro hA (And.intro hE hF))
        have x0 : X.cell? ⟨q, 0, none⟩ = some (.int .i64 (hl : Int)) := by have := HP0.out.box.cell 0; rw [HCS.out] at this; exact this
        clear hA hE hF
        go_wp2_with fail
        refine (put_any A 5 B g r bs (X.drewN (q0 + nq)) hAb (by omega) (by omega) (HP0.out.wr.below ⟨rfl, rfl, rfl, Nat.le_refl _, fun _ _ => rfl⟩) (by have := HBL.out; omega)).mono ?_
        rintro e w1 ⟨r1, rfl, hw1, ho1, hn1⟩
        have HP1 := Lib.hid ((HP0.out.below (w' := X.drewN (q0 + nq)) ⟨rfl, rfl, rfl, Nat.le_refl _, fun _ _ => rfl⟩).next hw1 ho1 hn1)
        have x1 : w1.cell? ⟨q, 1, none⟩ = some (.int .i64 (hd : Int)) := by have := HP1.out.box.cell 1; rw [HCS.out] at this; exact this
        clear hw1 ho1 hn1 HP0 x0 x3
        go_wp2_with fail
        refine (put_any E 5 B g r1 _ w1 hEb (by omega) (by omega) HP1.out.wr (by rw [List.length_append, lows_len]; have := HBL.out; omega)).mono ?_
        rintro e w2 ⟨r2, rfl, hw2, ho2, hn2⟩
        have HP2 := Lib.hid (HP1.out.next hw2 ho2 hn2)
        clear hw2 ho2 hn2 HP1 x1
        go_wp2_with fail
        refine (put_any F 4 B g r2 _ w2 hFb (by omega) (by omega) HP2.out.wr (by simp only [List.length_append, lows_len]; have := HBL.out; omega)).mono ?_
        rintro e w3 ⟨r3, rfl, hw3, ho3, hn3⟩
        obtain ⟨T, hT⟩ : ∃ T, T = bs ++ lows 5 A ++ lows 5 E ++ lows 4 F := ⟨_, rfl⟩
        have HP3 : Hid (Ph B w g r q cs pa (some ⟨p, o, none⟩) sb np pc_ sc sd Sh P w3 r3 T) := Lib.hid (by rw [hT]; exact HP2.out.next hw3 ho3 hn3)
        have HTT : Hid (T = bs ++ lows 5 (L.length - 257) ++ lows 5 (D.length - 1) ++ lows 4 (hn Sh - 4) ∧ T.length ≤ 1000000100) := Lib.hid (by
          refine ⟨by rw [hT, HLD.out.1, HLD.out.2, HN.out, HAEF.out.1, HAEF.out.2.1, HAEF.out.2.2], ?_⟩
          rw [hT]; simp only [List.length_append, lows_len]; have := HBL.out; omega)
        clear hw3 ho3 hn3 HP2 hT hA1 hE1 hF1 hA2 hE2 hF2 hAb hEb hFb
        go_wp2_with fail
        go_loopw [42] (fun iv wr => ∃ (i : Nat) (r' : Option Nat), iv = .int .i64 (i : Int) ∧ i ≤ k ∧ Hid (Ph B w g r q cs pa (some ⟨p, o, none⟩) sb np pc_ sc sd Sh P wr r' (T ++ (List.range i).flatMap (fun i => lows 3 (Sh.getD (InfMath.order.getD i 0) 0)))) ∧ Hid ((T ++ (List.range i).flatMap (fun i => lows 3 (Sh.getD (InfMath.order.getD i 0) 0))).length ≤ 1000000100 + 3 * i)) (fun iv _ => k - (intOf iv).toNat)
        case atStart => exact ⟨0, r3, rfl, Nat.zero_le _, Lib.hid (by simpa using HP3.out), Lib.hid (by simpa using HTT.out.2)⟩
        case round =>
          clear HP3
          obtain ⟨i, r', rfl, hi, HP, HLE⟩ := hrel
          by_cases hlt : i < k
          · have hi19 : (i : Int) < 19 := by omega
            obtain ⟨j, hj⟩ : ∃ j, j = InfMath.order.getD i 0 := ⟨_, rfl⟩
            have hj19 : j < 19 := by rw [hj]; exact InfMath.order_lt ⟨i, by omega⟩
            have hjj : (j : Int) < 19 := by omega
            have ho := HP.out.hd.tbl.order i (by omega)
            have hc := sh_cell HP.out.hd.cd.lens j hj19
            have h7i := H7.out j
            have x3 : wr.cell? ⟨q, 3, none⟩ = some (.slice (some ⟨p, o, none⟩) 19 sc) := by have := HP.out.box.cell 3; rw [HCS.out] at this; exact this
            obtain ⟨y, hy⟩ : ∃ y, y = Sh.getD j 0 := ⟨_, rfl⟩
            rw [← hj] at ho
            rw [← hy] at hc h7i
            have hy2 := u32_small y (by omega)
            have HY : Hid ((List.range (i + 1)).flatMap (fun i => lows 3 (Sh.getD (InfMath.order.getD i 0) 0)) = (List.range i).flatMap (fun i => lows 3 (Sh.getD (InfMath.order.getD i 0) 0)) ++ lows 3 y) := Lib.hid (by rw [rng_succ, ← hj, ← hy])
            have HPU := Lib.hid (put_any y 3 B g r' _ wr.drew (by omega) (by omega) (by omega) (HP.out.wr.below (Below.refl _ _).drew) (by have := HLE.out; omega))
            clear hj hy
            go_upto_region 10 with (fail)
            go_still_tail 10, (by kernel_rfl)
            go_wp2_with fail
            refine HPU.out.mono ?_
            rintro e w5 ⟨r5, rfl, hw5, ho5, hn5⟩
            have HP5 := Lib.hid ((HP.out.below (Below.refl _ _).drew).next hw5 ho5 hn5)
            rw [List.append_assoc, ← HY.out] at HP5
            have HLE5 : Hid ((T ++ (List.range (i + 1)).flatMap (fun i => lows 3 (Sh.getD (InfMath.order.getD i 0) 0))).length ≤ 1000000100 + 3 * (i + 1)) := Lib.hid (by rw [HY.out, ← List.append_assoc, List.length_append, lows_len]; have := HLE.out; omega)
            clear hw5 ho5 hn5 HPU HP x3 ho hc
            go_wp2_with fail
            go_roundw
            case rel => exact ⟨i + 1, r5, by go_num, by omega, HP5, HLE5⟩
            case measure => simp [intOf]; omega
          · obtain rfl : i = k := by omega
            obtain ⟨T2, hT2⟩ : ∃ T2, T2 = T ++ (List.range i).flatMap (fun i => lows 3 (Sh.getD (InfMath.order.getD i 0) 0)) := ⟨_, rfl⟩
            rw [← hT2] at HP HLE
            have HT2 := Lib.hid hT2
            have x2 : wr.cell? ⟨q, 2, none⟩ = some (.slice pa np pc_) := by have := HP.out.box.cell 2; rw [HCS.out] at this; exact this
            have hpl := HP.out.hd.pcs.len_eq
            have hpc := HP.out.hd.pcs.le_cap
            have hpm := HP.out.hd.pcs.cap_le
            have HPL := Lib.hid hpl
            clear hT2 hpl
            go_wp2_with fail
            go_loopw [60] (fun jv wr => ∃ (j : Nat) (r' : Option Nat), jv = .int .i64 (j : Int) ∧ j ≤ np ∧ Hid (Ph B w g r q cs pa (some ⟨p, o, none⟩) sb np pc_ sc sd Sh P wr r' (T2 ++ (P.take j).flatMap (pbits Sh))) ∧ Hid ((T2 ++ (P.take j).flatMap (pbits Sh)).length ≤ 1000001000 + 100 * j)) (fun jv _ => np - (intOf jv).toNat)
            case atStart => exact ⟨0, r', rfl, Nat.zero_le _, Lib.hid (by simpa using HP.out), Lib.hid (by have := HLE.out; simp; omega)⟩
            case round =>
              clear HP HLE
              obtain ⟨j, r7, rfl, hj, HP, HLE⟩ := hrel
              by_cases hjt : j < np
              · have hjp : j < P.length := by rw [HPL.out]; exact hjt
                obtain ⟨b, off, hab, c0, c1, c2⟩ := HP.out.hd.pcs.get hjp
                have hpp := HPP.out P[j] (List.getElem_mem hjp)
                have HTK := Lib.hid (take_pc hjp (pbits Sh))
                obtain ⟨pp, hpe⟩ : ∃ pp, pp = P[j] := ⟨_, rfl⟩
                rw [← hpe] at c0 c1 c2 hpp HTK
                clear hpe
                subst hab
                obtain ⟨W, hW⟩ : ∃ W, W = wr.alloc (.cells #[.int .i64 (pp.s : Int), .int .i64 (pp.x : Int), .int .i64 (pp.v : Int)] 111) := ⟨_, rfl⟩
                have HPW : Hid (Ph B w g r q cs (some ⟨b, off, none⟩) (some ⟨p, o, none⟩) sb np pc_ sc sd Sh P W r7 (T2 ++ (P.take j).flatMap (pbits Sh))) := Lib.hid (by rw [hW]; exact HP.out.below ((Below.refl _ _).alloc (Nat.le_refl _) _))
                have HBW : Hid (Blk W wr.heap.size 111 #[.int .i64 (pp.s : Int), .int .i64 (pp.x : Int), .int .i64 (pp.v : Int)]) := Lib.hid (by rw [hW]; exact Blk.new wr _ _)
                have HCP := Lib.hid (cput_any pp.s pp.x pp.v B g r7 _ (some ⟨p, o, none⟩) sb 19 sc sd Sh W HPW.out.hd.cd hpp.1 (fun y hy => by
                  obtain ⟨i9, hi9, rfl⟩ := List.getElem_of_mem hy
                  have h9 := H7.out i9
                  rw [List.getD_eq_getElem?_getD, List.getElem?_eq_getElem hi9] at h9
                  have h8 : Sh[i9] ≤ 7 := h9
                  omega) HKR.out hpp.2.1 hpp.2.2 HPW.out.wr (by have := HLE.out; omega))
                have HLB : Hid ((pbits Sh pp).length ≤ 100) := Lib.hid (by
                  unfold pbits
                  rw [List.length_append, InfMath.bits_ln, lows_len]
                  have h9 := H7.out pp.s
                  have h8 : ln Sh pp.s ≤ 7 := h9
                  have := hpp.2.1
                  omega)
                clear hpp HP
                go_upto_region 15 with (fail)
                rw [← hW]
                clear hW c0 c1 c2
                have x3 : W.cell? ⟨q, 3, none⟩ = some (.slice (some ⟨p, o, none⟩) 19 sc) := by have := HPW.out.box.cell 3; rw [HCS.out] at this; exact this
                have x4 : W.cell? ⟨q, 4, none⟩ = some (.slice sb 19 sd) := by have := HPW.out.box.cell 4; rw [HCS.out] at this; exact this
                have z0 : W.cell? ⟨wr.heap.size, 0, none⟩ = some (.int .i64 (pp.s : Int)) := HBW.out.cell 0
                have z1 : W.cell? ⟨wr.heap.size, 1, none⟩ = some (.int .i64 (pp.x : Int)) := HBW.out.cell 1
                have z2 : W.cell? ⟨wr.heap.size, 2, none⟩ = some (.int .i64 (pp.v : Int)) := HBW.out.cell 2
                go_wp2_with fail
                refine HCP.out.mono ?_
                rintro e w5 ⟨r5, rfl, hw5, ho5, hn5⟩
                have HP5 := Lib.hid (HPW.out.next hw5 ho5 hn5)
                have HP6 : Hid (Ph B w g r q cs (some ⟨b, off, none⟩) (some ⟨p, o, none⟩) sb np pc_ sc sd Sh P w5 r5 (T2 ++ (P.take (j + 1)).flatMap (pbits Sh))) := Lib.hid (by rw [HTK.out, ← List.append_assoc]; exact HP5.out)
                have HLE5 : Hid ((T2 ++ (P.take (j + 1)).flatMap (pbits Sh)).length ≤ 1000001000 + 100 * (j + 1)) := Lib.hid (by rw [HTK.out, ← List.append_assoc, List.length_append]; have := HLE.out; have := HLB.out; omega)
                clear hw5 ho5 hn5 HCP HPW HP5 x3 x4 z0 z1 z2
                go_wp2_with fail
                go_roundw
                case rel => exact ⟨j + 1, r5, by go_num, by omega, HP6, HLE5⟩
                case measure => simp [intOf]; omega
              · obtain rfl : j = np := by omega
                have HE : Hid (T2 ++ (P.take j).flatMap (pbits Sh) = bs ++ hbits L D Sh (hn Sh) P) := Lib.hid (by
                  rw [List.take_of_length_le (by rw [HPL.out]; exact Nat.le_refl _), HT2.out, HTT.out.1]
                  unfold hbits
                  rw [HN.out]
                  simp only [List.append_assoc])
                go_wp2_with fail
                go_end0
                exact ⟨r7, rfl, by rw [← HE.out]; exact HP.out.wr, HP.out.only, HP.out.nxt⟩
    · have hgd : decide ((4 : Int) < (k : Int)) = false := by simp; omega
      have HN : Hid (hn Sh = k) := Lib.hid (by
        have h4 : k = 4 := by omega
        have h5 : hcl Sh 4 = 4 := by unfold hcl; rw [if_neg (fun h => absurd h.1 (by decide))]
        rw [← HK.out, h4, h5])
      clear hgt
      go_upto_region 2 with (fail)
      go_quiet (fail)
      go_upto_region 4 with (fail)
      obtain ⟨A, hA, hA1⟩ : ∃ A : Nat, A = hl - 257 ∧ (hl : Int) - 257 = (A : Int) := ⟨hl - 257, rfl, by omega⟩
      obtain ⟨E, hE, hE1⟩ : ∃ E : Nat, E = hd - 1 ∧ (hd : Int) - 1 = (E : Int) := ⟨hd - 1, rfl, by omega⟩
      obtain ⟨F, hF, hF1⟩ : ∃ F : Nat, F = k - 4 ∧ (k : Int) - 4 = (F : Int) := ⟨k - 4, rfl, by omega⟩
      have hA2 := u32_small A (by omega)
      have hE2 := u32_small E (by omega)
      have hF2 := u32_small F (by omega)
      have hAb : A < 4294967296 := by omega
      have hEb : E < 4294967296 := by omega
      have hFb : F < 4294967296 := by omega
      have HAEF := Lib.hid (And.intro hA (And.intro hE hF))
      have x0 : X.cell? ⟨q, 0, none⟩ = some (.int .i64 (hl : Int)) := by have := HP0.out.box.cell 0; rw [HCS.out] at this; exact this
      clear hA hE hF
      go_wp2_with fail
      refine (put_any A 5 B g r bs (X.drewN (q0 + nq)) hAb (by omega) (by omega) (HP0.out.wr.below ⟨rfl, rfl, rfl, Nat.le_refl _, fun _ _ => rfl⟩) (by have := HBL.out; omega)).mono ?_
      rintro e w1 ⟨r1, rfl, hw1, ho1, hn1⟩
      have HP1 := Lib.hid ((HP0.out.below (w' := X.drewN (q0 + nq)) ⟨rfl, rfl, rfl, Nat.le_refl _, fun _ _ => rfl⟩).next hw1 ho1 hn1)
      have x1 : w1.cell? ⟨q, 1, none⟩ = some (.int .i64 (hd : Int)) := by have := HP1.out.box.cell 1; rw [HCS.out] at this; exact this
      clear hw1 ho1 hn1 HP0 x0 x3
      go_wp2_with fail
      refine (put_any E 5 B g r1 _ w1 hEb (by omega) (by omega) HP1.out.wr (by rw [List.length_append, lows_len]; have := HBL.out; omega)).mono ?_
      rintro e w2 ⟨r2, rfl, hw2, ho2, hn2⟩
      have HP2 := Lib.hid (HP1.out.next hw2 ho2 hn2)
      clear hw2 ho2 hn2 HP1 x1
      go_wp2_with fail
      refine (put_any F 4 B g r2 _ w2 hFb (by omega) (by omega) HP2.out.wr (by simp only [List.length_append, lows_len]; have := HBL.out; omega)).mono ?_
      rintro e w3 ⟨r3, rfl, hw3, ho3, hn3⟩
      obtain ⟨T, hT⟩ : ∃ T, T = bs ++ lows 5 A ++ lows 5 E ++ lows 4 F := ⟨_, rfl⟩
      have HP3 : Hid (Ph B w g r q cs pa (some ⟨p, o, none⟩) sb np pc_ sc sd Sh P w3 r3 T) := Lib.hid (by rw [hT]; exact HP2.out.next hw3 ho3 hn3)
      have HTT : Hid (T = bs ++ lows 5 (L.length - 257) ++ lows 5 (D.length - 1) ++ lows 4 (hn Sh - 4) ∧ T.length ≤ 1000000100) := Lib.hid (by
        refine ⟨by rw [hT, HLD.out.1, HLD.out.2, HN.out, HAEF.out.1, HAEF.out.2.1, HAEF.out.2.2], ?_⟩
        rw [hT]; simp only [List.length_append, lows_len]; have := HBL.out; omega)
      clear hw3 ho3 hn3 HP2 hT hA1 hE1 hF1 hA2 hE2 hF2 hAb hEb hFb
      go_wp2_with fail
      go_loopw [42] (fun iv wr => ∃ (i : Nat) (r' : Option Nat), iv = .int .i64 (i : Int) ∧ i ≤ k ∧ Hid (Ph B w g r q cs pa (some ⟨p, o, none⟩) sb np pc_ sc sd Sh P wr r' (T ++ (List.range i).flatMap (fun i => lows 3 (Sh.getD (InfMath.order.getD i 0) 0)))) ∧ Hid ((T ++ (List.range i).flatMap (fun i => lows 3 (Sh.getD (InfMath.order.getD i 0) 0))).length ≤ 1000000100 + 3 * i)) (fun iv _ => k - (intOf iv).toNat)
      case atStart => exact ⟨0, r3, rfl, Nat.zero_le _, Lib.hid (by simpa using HP3.out), Lib.hid (by simpa using HTT.out.2)⟩
      case round =>
        clear HP3
        obtain ⟨i, r', rfl, hi, HP, HLE⟩ := hrel
        by_cases hlt : i < k
        · have hi19 : (i : Int) < 19 := by omega
          obtain ⟨j, hj⟩ : ∃ j, j = InfMath.order.getD i 0 := ⟨_, rfl⟩
          have hj19 : j < 19 := by rw [hj]; exact InfMath.order_lt ⟨i, by omega⟩
          have hjj : (j : Int) < 19 := by omega
          have ho := HP.out.hd.tbl.order i (by omega)
          have hc := sh_cell HP.out.hd.cd.lens j hj19
          have h7i := H7.out j
          have x3 : wr.cell? ⟨q, 3, none⟩ = some (.slice (some ⟨p, o, none⟩) 19 sc) := by have := HP.out.box.cell 3; rw [HCS.out] at this; exact this
          obtain ⟨y, hy⟩ : ∃ y, y = Sh.getD j 0 := ⟨_, rfl⟩
          rw [← hj] at ho
          rw [← hy] at hc h7i
          have hy2 := u32_small y (by omega)
          have HY : Hid ((List.range (i + 1)).flatMap (fun i => lows 3 (Sh.getD (InfMath.order.getD i 0) 0)) = (List.range i).flatMap (fun i => lows 3 (Sh.getD (InfMath.order.getD i 0) 0)) ++ lows 3 y) := Lib.hid (by rw [rng_succ, ← hj, ← hy])
          have HPU := Lib.hid (put_any y 3 B g r' _ wr.drew (by omega) (by omega) (by omega) (HP.out.wr.below (Below.refl _ _).drew) (by have := HLE.out; omega))
          clear hj hy
          go_upto_region 10 with (fail)
          go_still_tail 10, (by kernel_rfl)
          go_wp2_with fail
          refine HPU.out.mono ?_
          rintro e w5 ⟨r5, rfl, hw5, ho5, hn5⟩
          have HP5 := Lib.hid ((HP.out.below (Below.refl _ _).drew).next hw5 ho5 hn5)
          rw [List.append_assoc, ← HY.out] at HP5
          have HLE5 : Hid ((T ++ (List.range (i + 1)).flatMap (fun i => lows 3 (Sh.getD (InfMath.order.getD i 0) 0))).length ≤ 1000000100 + 3 * (i + 1)) := Lib.hid (by rw [HY.out, ← List.append_assoc, List.length_append, lows_len]; have := HLE.out; omega)
          clear hw5 ho5 hn5 HPU HP x3 ho hc
          go_wp2_with fail
          go_roundw
          case rel => exact ⟨i + 1, r5, by go_num, by omega, HP5, HLE5⟩
          case measure => simp [intOf]; omega
        · obtain rfl : i = k := by omega
          obtain ⟨T2, hT2⟩ : ∃ T2, T2 = T ++ (List.range i).flatMap (fun i => lows 3 (Sh.getD (InfMath.order.getD i 0) 0)) := ⟨_, rfl⟩
          rw [← hT2] at HP HLE
          have HT2 := Lib.hid hT2
          have x2 : wr.cell? ⟨q, 2, none⟩ = some (.slice pa np pc_) := by have := HP.out.box.cell 2; rw [HCS.out] at this; exact this
          have hpl := HP.out.hd.pcs.len_eq
          have hpc := HP.out.hd.pcs.le_cap
          have hpm := HP.out.hd.pcs.cap_le
          have HPL := Lib.hid hpl
          clear hT2 hpl
          go_wp2_with fail
          go_loopw [60] (fun jv wr => ∃ (j : Nat) (r' : Option Nat), jv = .int .i64 (j : Int) ∧ j ≤ np ∧ Hid (Ph B w g r q cs pa (some ⟨p, o, none⟩) sb np pc_ sc sd Sh P wr r' (T2 ++ (P.take j).flatMap (pbits Sh))) ∧ Hid ((T2 ++ (P.take j).flatMap (pbits Sh)).length ≤ 1000001000 + 100 * j)) (fun jv _ => np - (intOf jv).toNat)
          case atStart => exact ⟨0, r', rfl, Nat.zero_le _, Lib.hid (by simpa using HP.out), Lib.hid (by have := HLE.out; simp; omega)⟩
          case round =>
            clear HP HLE
            obtain ⟨j, r7, rfl, hj, HP, HLE⟩ := hrel
            by_cases hjt : j < np
            · have hjp : j < P.length := by rw [HPL.out]; exact hjt
              obtain ⟨b, off, hab, c0, c1, c2⟩ := HP.out.hd.pcs.get hjp
              have hpp := HPP.out P[j] (List.getElem_mem hjp)
              have HTK := Lib.hid (take_pc hjp (pbits Sh))
              obtain ⟨pp, hpe⟩ : ∃ pp, pp = P[j] := ⟨_, rfl⟩
              rw [← hpe] at c0 c1 c2 hpp HTK
              clear hpe
              subst hab
              obtain ⟨W, hW⟩ : ∃ W, W = wr.alloc (.cells #[.int .i64 (pp.s : Int), .int .i64 (pp.x : Int), .int .i64 (pp.v : Int)] 111) := ⟨_, rfl⟩
              have HPW : Hid (Ph B w g r q cs (some ⟨b, off, none⟩) (some ⟨p, o, none⟩) sb np pc_ sc sd Sh P W r7 (T2 ++ (P.take j).flatMap (pbits Sh))) := Lib.hid (by rw [hW]; exact HP.out.below ((Below.refl _ _).alloc (Nat.le_refl _) _))
              have HBW : Hid (Blk W wr.heap.size 111 #[.int .i64 (pp.s : Int), .int .i64 (pp.x : Int), .int .i64 (pp.v : Int)]) := Lib.hid (by rw [hW]; exact Blk.new wr _ _)
              have HCP := Lib.hid (cput_any pp.s pp.x pp.v B g r7 _ (some ⟨p, o, none⟩) sb 19 sc sd Sh W HPW.out.hd.cd hpp.1 (fun y hy => by
                obtain ⟨i9, hi9, rfl⟩ := List.getElem_of_mem hy
                have h9 := H7.out i9
                rw [List.getD_eq_getElem?_getD, List.getElem?_eq_getElem hi9] at h9
                have h8 : Sh[i9] ≤ 7 := h9
                omega) HKR.out hpp.2.1 hpp.2.2 HPW.out.wr (by have := HLE.out; omega))
              have HLB : Hid ((pbits Sh pp).length ≤ 100) := Lib.hid (by
                unfold pbits
                rw [List.length_append, InfMath.bits_ln, lows_len]
                have h9 := H7.out pp.s
                have h8 : ln Sh pp.s ≤ 7 := h9
                have := hpp.2.1
                omega)
              clear hpp HP
              go_upto_region 15 with (fail)
              rw [← hW]
              clear hW c0 c1 c2
              have x3 : W.cell? ⟨q, 3, none⟩ = some (.slice (some ⟨p, o, none⟩) 19 sc) := by have := HPW.out.box.cell 3; rw [HCS.out] at this; exact this
              have x4 : W.cell? ⟨q, 4, none⟩ = some (.slice sb 19 sd) := by have := HPW.out.box.cell 4; rw [HCS.out] at this; exact this
              have z0 : W.cell? ⟨wr.heap.size, 0, none⟩ = some (.int .i64 (pp.s : Int)) := HBW.out.cell 0
              have z1 : W.cell? ⟨wr.heap.size, 1, none⟩ = some (.int .i64 (pp.x : Int)) := HBW.out.cell 1
              have z2 : W.cell? ⟨wr.heap.size, 2, none⟩ = some (.int .i64 (pp.v : Int)) := HBW.out.cell 2
              go_wp2_with fail
              refine HCP.out.mono ?_
              rintro e w5 ⟨r5, rfl, hw5, ho5, hn5⟩
              have HP5 := Lib.hid (HPW.out.next hw5 ho5 hn5)
              have HP6 : Hid (Ph B w g r q cs (some ⟨b, off, none⟩) (some ⟨p, o, none⟩) sb np pc_ sc sd Sh P w5 r5 (T2 ++ (P.take (j + 1)).flatMap (pbits Sh))) := Lib.hid (by rw [HTK.out, ← List.append_assoc]; exact HP5.out)
              have HLE5 : Hid ((T2 ++ (P.take (j + 1)).flatMap (pbits Sh)).length ≤ 1000001000 + 100 * (j + 1)) := Lib.hid (by rw [HTK.out, ← List.append_assoc, List.length_append]; have := HLE.out; have := HLB.out; omega)
              clear hw5 ho5 hn5 HCP HPW HP5 x3 x4 z0 z1 z2
              go_wp2_with fail
              go_roundw
              case rel => exact ⟨j + 1, r5, by go_num, by omega, HP6, HLE5⟩
              case measure => simp [intOf]; omega
            · obtain rfl : j = np := by omega
              have HE : Hid (T2 ++ (P.take j).flatMap (pbits Sh) = bs ++ hbits L D Sh (hn Sh) P) := Lib.hid (by
                rw [List.take_of_length_le (by rw [HPL.out]; exact Nat.le_refl _), HT2.out, HTT.out.1]
                unfold hbits
                rw [HN.out]
                simp only [List.append_assoc])
              go_wp2_with fail
              go_end0
              exact ⟨r7, rfl, by rw [← HE.out]; exact HP.out.wr, HP.out.only, HP.out.nxt⟩
end Go.Proofs.YtbjjkhlebdaoaaaGreatDoor.BlkC
end

section
/-
  header.bits.
-/
namespace Go.Proofs.YtbjjkhlebdaoaaaGreatDoor.BlkC
open Go.RowKit Go.My BitMath CanMath TabMath BitC
open InfMath (Pc CodeOk pbits hbits)

theorem Cd.fresh {w w' : World} {g n c1 c2 : Nat} {r : Option Nat} {a b : Option Addr} {ls : List Nat} (h : Cd w g r a b n c1 c2 ls) (hb : Below w.heap.size w w') : Cd w' w.heap.size none a b n c1 c2 ls :=
  ⟨h.lens.below (Nat.le_refl _) hb, h.words.below (Nat.le_refl _) hb, h.pos, fun k off e => ⟨Nat.lt_of_lt_of_le (h.la k off e).1 hb.size, by
      have := (h.la k off e).1
      rintro (e2 | e2)
      · omega
      · cases e2⟩, fun k off e => ⟨Nat.lt_of_lt_of_le (h.lb k off e).1 hb.size, by
      have := (h.lb k off e).1
      rintro (e2 | e2)
      · omega
      · cases e2⟩⟩
theorem Hd.fresh {B : Nat} {w w' : World} {g : Nat} {r : Option Nat} {pa sa sb : Option Addr} {np pc_ sc sd : Nat} {Sh : List Nat} {P : List Pc} (h : Hd B w g r pa sa sb np pc_ sc sd Sh P) (hb : Below w.heap.size w w') (hB : B ≤ w.heap.size) : Hd w.heap.size w' w.heap.size none pa sa sb np pc_ sc sd Sh P :=
  ⟨h.cd.fresh hb, h.pcs.below hb, fun b off e => ⟨Nat.lt_of_lt_of_le (h.sep b off e).1 hb.size, by
      have := (h.sep b off e).1
      rintro (e2 | e2)
      · omega
      · cases e2⟩, (h.tbl.more hB).below hb (Nat.le_refl _)⟩
set_option maxRecDepth 100000 in
set_option maxHeartbeats 8000000 in
theorem hbits_any (B g : Nat) (r : Option Nat) (pa sa sb : Option Addr) (np pc_ sc sd hl hd : Nat) (Sh : List Nat) (P : List Pc) (L D : List Nat) (w : World) (hH : Hd B w g r pa sa sb np pc_ sc sd Sh P) (hB : B ≤ w.heap.size)
    (h7 : ∀ i, Sh.getD i 0 ≤ 7) (hkr : kr Sh ≤ 32768) (hP : ∀ p ∈ P, 1 ≤ ln Sh p.s ∧ p.x ≤ 32 ∧ p.v < 4294967296) (hL : L.length = hl) (hD : D.length = hd) (l1 : 257 ≤ hl) (l2 : hl ≤ 286) (d1 : 1 ≤ hd) (d2 : hd ≤ 32) (hnp : np ≤ 10000) (hbb : (hbits L D Sh (hn Sh) P).length ≤ 100000000000) :
    Calls Tryz.prog 40 #[.agg #[.int .i64 (hl : Int), .int .i64 (hd : Int), .slice pa np pc_, .slice sa 19 sc, .slice sb 19 sd]] w fun e w' => e = .returned (.int .i64 ((hbits L D Sh (hn Sh) P).length : Int)) ∧ Below w.heap.size w w' := by
  obtain ⟨X, hX⟩ : ∃ X, X = w.alloc (.cells #[.int .i64 (hl : Int), .int .i64 (hd : Int), .slice pa np pc_, .slice sa 19 sc, .slice sb 19 sd] 80) := ⟨_, rfl⟩
  have hXB : Below w.heap.size w X := by rw [hX]; exact (Below.refl _ _).alloc (Nat.le_refl _) _
  obtain ⟨cs, hcs⟩ : ∃ cs : Array Value, cs = #[.int .i64 (hl : Int), .int .i64 (hd : Int), .slice pa np pc_, .slice sa 19 sc, .slice sb 19 sd] := ⟨_, rfl⟩
  have HBX : Hid (Blk X w.heap.size 80 #[.int .i64 (hl : Int), .int .i64 (hd : Int), .slice pa np pc_, .slice sa 19 sc, .slice sb 19 sd]) := Lib.hid (by rw [hX]; exact Blk.new w _ _)
  have HH := Lib.hid (hH.below hXB hB)
  have HXB := Lib.hid hXB
  have HBH : Hid (B ≤ X.heap.size) := Lib.hid (by have := hXB.size; omega)
  have HLT : Hid (w.heap.size < X.heap.size) := Lib.hid HBX.out.lt
  have HALL := Lib.hid (And.intro h7 (And.intro hkr (And.intro hP (And.intro hL (And.intro hD hbb)))))
  clear hH hB h7 hkr hP hL hD hXB hbb hcs
  go_enter Tryz.func40, Tryz.ntmps40
  go_upto_region 1 with (fail)
  rw [← hX]
  clear hX
  go_wp2_with fail
  refine (new_writer X).mono ?_
  rintro e w1 ⟨rfl, h1⟩
  have hb1 : Below X.heap.size X w1 := by rw [← h1]; exact (Below.refl _ _).alloc (Nat.le_refl _) _
  have HW1 : Hid (Wr X.heap.size w1 X.heap.size none []) := Lib.hid (by rw [← h1]; exact wr_new X)
  have HH1 := Lib.hid (HH.out.fresh hb1 HBH.out)
  have HB1 := Lib.hid (Blk.later HBX.out hb1)
  have HX1 := Lib.hid (HXB.out.trans (hb1.mono HXB.out.size))
  have HPU := Lib.hid (hput_any X.heap.size X.heap.size none [] pa sa sb np pc_ sc sd hl hd Sh P L D w1 HH1.out HALL.out.1 HALL.out.2.1 HALL.out.2.2.1 HALL.out.2.2.2.1 HALL.out.2.2.2.2.1 l1 l2 d1 d2 hnp HW1.out (by simp))
  have x0 : w1.cell? ⟨w.heap.size, 0, none⟩ = some (.int .i64 (hl : Int)) := HB1.out.cell 0
  have x1 : w1.cell? ⟨w.heap.size, 1, none⟩ = some (.int .i64 (hd : Int)) := HB1.out.cell 1
  have x2 : w1.cell? ⟨w.heap.size, 2, none⟩ = some (.slice pa np pc_) := HB1.out.cell 2
  have x3 : w1.cell? ⟨w.heap.size, 3, none⟩ = some (.slice sa 19 sc) := HB1.out.cell 3
  have x4 : w1.cell? ⟨w.heap.size, 4, none⟩ = some (.slice sb 19 sd) := HB1.out.cell 4
  clear h1 hb1
  go_wp2_with fail
  refine HPU.out.mono ?_
  rintro e w2 ⟨r2, rfl, hw2, ho2, hn2⟩
  rw [List.nil_append] at hw2
  have HLN := Lib.hid (len_any X.heap.size X.heap.size r2 _ w2 hw2 HALL.out.2.2.2.2.2)
  have HX2 : Hid (Below w.heap.size w w2) := Lib.hid (HX1.out.trans (ho2.below HX1.out.size (fun k hk => by
    have := HLT.out
    rcases hk with rfl | hk
    · omega
    · cases hk)))
  clear hw2 ho2 hn2 HPU
  go_wp2_with fail
  refine HLN.out.mono ?_
  rintro e w3 ⟨rfl, n, rfl⟩
  go_wp2_with fail
  go_ret
  exact ⟨rfl, HX2.out.os, HX2.out.tape, HX2.out.output, HX2.out.size, HX2.out.block⟩
end Go.Proofs.YtbjjkhlebdaoaaaGreatDoor.BlkC
end

section
/-
  headerOf: what tells two codes.
-/
namespace Go.Proofs.YtbjjkhlebdaoaaaGreatDoor.BlkC
open Go.RowKit Go.My BitMath CanMath TabMath BitC
open CanC (iv allWords)
open PkC (cel lv cel_zero cel_cell Best)
open InfMath (Pc CodeOk pbits hbits Sp cntP)

theorem info_hdr : (Tryz.prog.info? 80).map (·.size) = some 5 := by kernel_rfl
theorem hdr_ret {fn : Func} {p : Tmp} (hres : fn.results = #[.cell p 80]) {a : Act} {w : World} {g : Nat} {cs : Array Value} {R : Ending → World → Prop} (hd : a.defers = []) (hp : a.tmps.getD p undef = .pointer (some ⟨g, 0, none⟩))
    (hg : Blk w g 80 cs) (hi : (Tryz.prog.info? 80).map (·.size) = some cs.size) (h : R (.returned (.agg cs)) w) : bodyPost Tryz.prog fn R .ret a w :=
  bodyPost_ret (results_cell_row hres _ _ g _ cs _ _ hp hg Tryz.underlying80 rfl hi) hd h
theorem x_cl {a : Act} {o : Oper} (s : Operand) {q k : Nat} {w : World} (ho : o.op = .fieldAddr 73 s 0) (hs : a.eval s = .pointer (some ⟨q, k, none⟩)) : (execOp a.eval o).run Tryz.prog w = .ok (.value (.pointer (some ⟨q, k, none⟩))) w := by
  unfold execOp; rw [ho]; simp only [hs]
  go_simp
theorem x_blen {a : Act} {o : Oper} (s : Operand) {u : Option Addr} {m c : Nat} {w : World} (ho : o.op = .call { callee := .builtin .len, args := #[s], argTypes := #[67] }) (hs : a.eval s = .slice u m c) : (execOp a.eval o).run Tryz.prog w = .ok (.value (.int .i64 (m : Int))) w := by
  unfold execOp; rw [ho]
  simp only [resolve, List.map_toArray, List.map_cons, List.map_nil, hs]
  go_simp
theorem x_hdr {a : Act} {o : Oper} {m n : Int} {u v : Value} {pa : Option Addr} {np pc_ : Nat} {w : World} (s t p r : Operand) (ho : o.op = .build 80 #[(0, s), (1, t), (2, p), (3, r)]) (hs : a.eval s = .int .i64 m) (ht : a.eval t = .int .i64 n) (hp : a.eval p = .slice pa np pc_) (hr : a.eval r = .agg #[u, v]) :
    (execOp a.eval o).run Tryz.prog w = .ok (.value (.agg #[.int .i64 m, .int .i64 n, .slice pa np pc_, u, v])) w := by
  unfold execOp; rw [ho]
  simp only [List.map_toArray, List.map_cons, List.map_nil, hs, ht, hp, hr]
  go_simp
def TwoAt (q : Nat) (a1 : Option Addr) (k1 c1 : Nat) (a2 : Option Addr) (k2 c2 : Nat) (w : World) : Prop := w.cell? ⟨q, 0, none⟩ = some (.slice a1 k1 c1) ∧ w.cell? ⟨q, 2, none⟩ = some (.slice a2 k2 c2)
/-- While pieces are counted. -/
structure Ho (w0 : World) (q cg : Nat) (bx : Array Value) (pa : Option Addr) (np pc_ : Nat) (P : List Pc) (C : Nat → Nat) (w : World) : Prop where
  cnt : Blk w cg 3 (cel 19 C).toArray
  pcs : PcIn w pa np pc_ P
  sep : ∀ b off, pa = some ⟨b, off, none⟩ → q + 1 < b ∧ b < cg
  box : Blk w q 75 bx
  res : Blk w (q + 1) 80 #[.int .i64 0, .int .i64 0, .slice none 0 0, .slice none 0 0, .slice none 0 0]
  bel : Below w0.heap.size w0 w
  lq : w0.heap.size = q
  lc : q + 1 < cg
theorem Ho.below {w0 w w' : World} {q cg : Nat} {bx : Array Value} {pa : Option Addr} {np pc_ : Nat} {P : List Pc} {C : Nat → Nat} (h : Ho w0 q cg bx pa np pc_ P C w) (hb : Below w.heap.size w w') : Ho w0 q cg bx pa np pc_ P C w' :=
  ⟨Blk.later h.cnt hb, h.pcs.below hb, h.sep, Blk.later h.box hb, Blk.later h.res hb, h.bel.trans (hb.mono h.bel.size), h.lq, h.lc⟩
theorem Ho.set {w0 w : World} {q cg : Nat} {bx : Array Value} {pa : Option Addr} {np pc_ : Nat} {P : List Pc} {C : Nat → Nat} (h : Ho w0 q cg bx pa np pc_ P C w) (s v : Nat) : Ho w0 q cg bx pa np pc_ P (fun j => if j = s then v else C j) (w.setCell ⟨cg, s, none⟩ (.int .i64 (v : Int))) := by
  have h1 := h.lq
  have h2 := h.lc
  refine ⟨PkC.Blk.set_cel h.cnt s v, pcs_only h.pcs ((Only.refl (fun k => k = cg) w).setCell (p := ⟨cg, s, none⟩) (fun _ => rfl) _) (fun b off e => by have := h.sep b off e; omega), h.sep, PkC.Blk.set_far h.box (by omega) _ _, PkC.Blk.set_far h.res (by omega) _ _, h.bel.setCell (p := ⟨cg, s, none⟩) (by show w0.heap.size ≤ cg; omega) _, h.lq, h.lc⟩
theorem Ho.congr {w0 w : World} {q cg : Nat} {bx : Array Value} {pa : Option Addr} {np pc_ : Nat} {P : List Pc} {C D : Nat → Nat} (h : Ho w0 q cg bx pa np pc_ P C w) (e : ∀ j, j < 19 → C j = D j) : Ho w0 q cg bx pa np pc_ P D w :=
  ⟨by rw [← cel_all e]; exact h.cnt, h.pcs, h.sep, h.box, h.res, h.bel, h.lq, h.lc⟩
theorem cntP_take {P : List Pc} {j : Nat} (hj : j < P.length) (s : Nat) : cntP (P.take (j + 1)) s = if s = P[j].s then cntP (P.take j) s + 1 else cntP (P.take j) s := by
  unfold cntP
  rw [List.take_succ_eq_append_getElem hj, List.map_append, List.count_append]
  by_cases e : s = P[j].s
  · rw [if_pos e, e]; simp
  · rw [if_neg e]
    have : List.count s (List.map (fun x => x.s) [P[j]]) = 0 := by
      rw [List.count_eq_zero]; simp; exact e
    rw [this, Nat.add_zero]
theorem cntP_le (P : List Pc) (s : Nat) : cntP P s ≤ P.length := by
  unfold cntP
  exact Nat.le_trans List.count_le_length (by simp)
theorem lv_one (ls : List Nat) : ∀ u ∈ lv ls, u.oneCell' = true := by
  intro u hu
  unfold lv at hu
  obtain ⟨x, -, rfl⟩ := List.mem_map.1 hu
  rfl
set_option maxRecDepth 100000 in
set_option maxHeartbeats 8000000 in
theorem headerOf_any (B : Nat) (a1 b1 a2 b2 : Option Addr) (k1 c1 d1 k2 c2 d2 : Nat) (L D : List Nat) (w : World) (hL : RowIn w a1 k1 c1 (lv L)) (hD : RowIn w a2 k2 c2 (lv D)) (h1 : 1 ≤ k1) (hk : k1 + k2 ≤ 400) (hs : ∀ x ∈ L ++ D, x ≤ 15) (hB : B ≤ w.heap.size) (hT : Tbls B w) :
    Calls Tryz.prog 38 #[.agg #[.slice a1 k1 c1, .slice b1 k1 d1, .slice a2 k2 c2, .slice b2 k2 d2]] w fun e w' => ∃ pa np pc_ P sa sc sb Sh, e = .returned (.agg #[.int .i64 (k1 : Int), .int .i64 (k2 : Int), .slice pa np pc_, .slice sa 19 sc, .slice (some ⟨sb, 0, none⟩) 19 19]) ∧
      Sp [] P (L ++ D) ∧ np ≤ k1 + k2 ∧ Best ((List.range 19).map (cntP P)) Sh 7 ∧ PcIn w' pa np pc_ P ∧ (∀ k off, pa = some ⟨k, off, none⟩ → w.heap.size ≤ k ∧ k < w'.heap.size) ∧ CodeIn w.heap.size w' sa (some ⟨sb, 0, none⟩) 19 sc 19 Sh ∧ Below w.heap.size w w' ∧ P = InfMath.spl (L ++ D) := by
  obtain ⟨bx, hbx⟩ : ∃ bx : Array Value, bx = #[.slice a1 k1 c1, .slice b1 k1 d1, .slice a2 k2 c2, .slice b2 k2 d2] := ⟨_, rfl⟩
  obtain ⟨X, hX⟩ : ∃ X, X = (w.alloc (.cells #[.slice a1 k1 c1, .slice b1 k1 d1, .slice a2 k2 c2, .slice b2 k2 d2] 75)).alloc (.cells #[.int .i64 0, .int .i64 0, .slice none 0 0, .slice none 0 0, .slice none 0 0] 80) := ⟨_, rfl⟩
  have hXB : Below w.heap.size w X := by rw [hX]; exact ((Below.refl _ _).alloc (Nat.le_refl _) _).alloc (by rw [World.size_alloc]; omega) _
  have HBC : Hid (Blk X w.heap.size 75 bx) := Lib.hid (by rw [hX, hbx]; exact (Blk.new w _ _).alloc _)
  have HBR : Hid (Blk X (w.heap.size + 1) 80 #[.int .i64 0, .int .i64 0, .slice none 0 0, .slice none 0 0, .slice none 0 0]) := Lib.hid (by
    have := Blk.new (w.alloc (.cells #[.slice a1 k1 c1, .slice b1 k1 d1, .slice a2 k2 c2, .slice b2 k2 d2] 75)) 80 #[.int .i64 0, .int .i64 0, .slice none 0 0, .slice none 0 0, .slice none 0 0]
    rw [World.size_alloc] at this
    rw [hX]; exact this)
  have hl1 := PkC.lv_size hL
  have hl2 := PkC.lv_size hD
  obtain ⟨f, hf⟩ : ∃ f : Nat → Value, f = fun i => if i = 0 then .slice a1 k1 c1 else .slice a2 k2 c2 := ⟨_, rfl⟩
  obtain ⟨rows, hrows⟩ : ∃ rows : Nat → List Value, rows = fun i => if i = 0 then lv L else lv D := ⟨_, rfl⟩
  have hcat : SlcC.cat rows 2 = lv (L ++ D) := by rw [hrows]; simp [SlcC.cat, lv]
  obtain ⟨Z, hZ⟩ : ∃ Z, Z = X.alloc (.cells #[.slice a1 k1 c1, .slice a2 k2 c2] 67) := ⟨_, rfl⟩
  have hZB : Below X.heap.size X Z := by rw [hZ]; exact (Below.refl _ _).alloc (Nat.le_refl _) _
  have HRW : Hid (SlcC.Rws Z (some ⟨X.heap.size, 0, none⟩) 2 2 f rows) := Lib.hid (by
    refine ⟨?_, fun i hi => ?_, fun i _ u hu => ?_⟩
    · have := (OwnV.lit 67 X #[.slice a1 k1 c1, .slice a2 k2 c2] (Nat.le_refl _) (by simp)).rowIn rfl
      rw [hf, hZ]
      exact this
    · rw [hf, hrows]
      rcases (by omega : i = 0 ∨ i = 1) with rfl | rfl
      · have e : (lv L).length = k1 := by rw [PkC.lv_len]; exact hl1
        refine ⟨a1, c1, ?_, ?_⟩
        · show _ = Value.slice a1 (lv L).length c1
          rw [e]; rfl
        · show RowIn Z a1 (lv L).length c1 (lv L)
          rw [e]; exact (hL.below (Nat.le_refl _) hXB).below (Nat.le_refl _) hZB
      · have e : (lv D).length = k2 := by rw [PkC.lv_len]; exact hl2
        refine ⟨a2, c2, ?_, ?_⟩
        · show _ = Value.slice a2 (lv D).length c2
          rw [e]; rfl
        · show RowIn Z a2 (lv D).length c2 (lv D)
          rw [e]; exact (hD.below (Nat.le_refl _) hXB).below (Nat.le_refl _) hZB
    · rw [hrows] at hu
      simp only at hu
      split at hu
      · exact lv_one _ u hu
      · exact lv_one _ u hu)
  have hll : (lv (L ++ D)).length = k1 + k2 := by rw [PkC.lv_len, List.length_append, hl1, hl2]
  have HCC := Lib.hid (SlcC.concat_any _ 2 2 f rows Z HRW.out (by omega) (by rw [hcat, hll]; omega) (by rw [hcat, hll]; omega))
  rw [hcat, hll] at HCC
  have HLL : Hid (L.length = k1 ∧ D.length = k2) := Lib.hid ⟨hl1, hl2⟩
  have HS := Lib.hid hs
  have HBH := Lib.hid hB
  have HT := Lib.hid ((hT.below hXB hB).below hZB (by have := hXB.size; omega))
  have HBX := Lib.hid hbx
  have HXB := Lib.hid hXB
  have HZB := Lib.hid (hXB.trans (hZB.mono hXB.size))
  have HBC2 := Lib.hid (Blk.later HBC.out hZB)
  have HBR2 := Lib.hid (Blk.later HBR.out hZB)
  have x0 : X.cell? ⟨w.heap.size, 0, none⟩ = some (.slice a1 k1 c1) := by have := HBC.out.cell 0; rw [hbx] at this; exact this
  have x2 : X.cell? ⟨w.heap.size, 2, none⟩ = some (.slice a2 k2 c2) := by have := HBC.out.cell 2; rw [hbx] at this; exact this
  clear hL hD hs hB hT hXB hl1 hl2 hf hrows hcat hll hbx hZB HRW HBC HBR
  go_enter Tryz.func38, Tryz.ntmps38
  go_upto_region 1 with (fail)
  rw [← hX]
  clear hX
  obtain ⟨q, hq⟩ : ∃ q, q = w.heap.size := ⟨_, rfl⟩
  rw [← hq] at x0 x2 HBC2 HBR2 ⊢
  have HQ := Lib.hid hq
  clear hq
  go_wp2_with fail
  rw [← hZ]
  clear hZ x0 x2
  refine HCC.out.mono ?_
  rintro e w1 ⟨a3, c3, rfl, hown, hb1⟩
  have HB1 := Lib.hid (HZB.out.trans (hb1.mono HZB.out.size))
  have HSPL := Lib.hid (spelled_any a3 (k1 + k2) c3 (L ++ D) w1 (hown.rowIn (by rw [PkC.lv_len, List.length_append, HLL.out.1, HLL.out.2])) (by omega) HS.out (B := B) (Nat.le_trans HBH.out HB1.out.size) (HT.out.below hb1 (Nat.le_trans HBH.out HZB.out.size)))
  have HBC3 := Lib.hid (Blk.later HBC2.out hb1)
  have HBR3 := Lib.hid (Blk.later HBR2.out hb1)
  clear hown hb1 HCC HBC2 HBR2 HT
  go_wp2_with fail
  refine HSPL.out.mono ?_
  rintro e w2 ⟨⟨v, P, rfl, hop, hsp, hpl, hpq⟩, hb2⟩
  obtain ⟨pa, pc_, rfl, hpi, hpa⟩ := hop.pcs
  obtain ⟨np, hnp⟩ : ∃ np, np = P.length := ⟨_, rfl⟩
  rw [← hnp] at hpi hpl ⊢
  have hb2w : Below w.heap.size w w2 := HB1.out.trans (hb2.mono HB1.out.size)
  obtain ⟨Z1, hZ1⟩ : ∃ Z1, Z1 = (cel 19 fun _ => 0).toArray := ⟨_, rfl⟩
  have hm := make_ints 19 (by omega)
  rw [← hZ1] at hm
  have hm' : ∀ W : World, (Instr.makeSlice 67 (.int .i64 19) (.int .i64 19)).run Tryz.prog W = .ok (.slice (some ⟨W.heap.size, 0, none⟩) 19 19) (W.alloc (.cells Z1 3)) := hm
  have hpab : ∀ b off, pa = some ⟨b, off, none⟩ → q + 1 < b ∧ b < w2.heap.size := fun b off e => by
    have h3 := hpa b off e
    refine ⟨by have := HBR3.out.lt; omega, ?_⟩
    rcases hpi.at_ with h0 | ⟨b', off', ha, hs9, -⟩
    · have h9 : P = [] := List.length_eq_zero_iff.1 (by omega)
      subst h9
      have h8 : ([] : List Nat) = L ++ D := hsp
      have h7 := congrArg List.length h8
      rw [List.length_append, HLL.out.1, HLL.out.2] at h7
      simp at h7
      omega
    · rw [e] at ha
      injection ha with ha
      injection ha with e1 _
      omega
  obtain ⟨Y, hY⟩ : ∃ Y, Y = w2.alloc (.cells Z1 3) := ⟨_, rfl⟩
  obtain ⟨cg, hcg⟩ : ∃ cg, cg = w2.heap.size := ⟨_, rfl⟩
  have HR0 : Hid (Ho w q cg bx pa np pc_ P (cntP (P.take 0)) Y) := Lib.hid (by
    have hyb : Below w2.heap.size w2 Y := by rw [hY]; exact (Below.refl _ _).alloc (Nat.le_refl _) _
    have hbr := Blk.later (Blk.later HBR3.out hb2) hyb
    have hlt := (Blk.later HBR3.out hb2).lt
    refine ⟨?_, hpi.below hyb, by rw [hcg]; exact hpab, Blk.later (Blk.later HBC3.out hb2) hyb, hbr, hb2w.trans (hyb.mono hb2w.size), HQ.out.symm, by omega⟩
    rw [hY, hcg, hZ1]
    rw [cel_all (F := cntP (P.take 0)) (G := fun _ => 0) fun j _ => rfl]
    exact Blk.new w2 _ _)
  have HSP : Hid (Sp [] P (L ++ D) ∧ np ≤ k1 + k2 ∧ P.length = np) := Lib.hid ⟨hsp, hpl, hnp.symm⟩
  have HPQ := Lib.hid hpq
  have hpc := hpi.le_cap
  have hpm := hpi.cap_le
  clear hop hsp hpi hpa hb2 hb2w hpab hm hnp hpq HSPL HBC3 HBR3 hZ1
  go_upto_region 3 with (fail)
  rw [← hY, ← hcg]
  clear hY hcg hm'
  go_wp2_with fail
  go_loopw [19] (fun jv wr => ∃ j : Nat, jv = .int .i64 (j : Int) ∧ j ≤ np ∧ Hid (Ho w q cg bx pa np pc_ P (cntP (P.take j)) wr)) (fun jv _ => np - (intOf jv).toNat)
  case atStart => exact ⟨0, rfl, Nat.zero_le _, HR0⟩
  case round =>
    clear HR0
    obtain ⟨j, rfl, hj, HR⟩ := hrel
    by_cases hjt : j < np
    · have hjp : j < P.length := by rw [HSP.out.2.2]; exact hjt
      obtain ⟨b, off, hab, p0, p1, p2⟩ := HR.out.pcs.get hjp
      have hsm := (InfMath.sp_small _ _ _ HSP.out.1 P[j] (List.getElem_mem hjp)).1
      have HTK := Lib.hid (cntP_take hjp)
      have hcl := cntP_le (P.take j) P[j].s
      obtain ⟨pp, hpe⟩ : ∃ pp, pp = P[j] := ⟨_, rfl⟩
      rw [← hpe] at p0 p1 p2 hsm HTK hcl
      clear hpe
      subst hab
      obtain ⟨W, hW⟩ : ∃ W, W = wr.alloc (.cells #[.int .i64 (pp.s : Int), .int .i64 (pp.x : Int), .int .i64 (pp.v : Int)] 111) := ⟨_, rfl⟩
      have HRW : Hid (Ho w q cg bx (some ⟨b, off, none⟩) np pc_ P (cntP (P.take j)) W) := Lib.hid (by rw [hW]; exact HR.out.below ((Below.refl _ _).alloc (Nat.le_refl _) _))
      have HBW : Hid (Blk W wr.heap.size 111 #[.int .i64 (pp.s : Int), .int .i64 (pp.x : Int), .int .i64 (pp.v : Int)]) := Lib.hid (by rw [hW]; exact Blk.new wr _ _)
      have HNQ : Hid (cg ≠ wr.heap.size) := Lib.hid (by have := HR.out.cnt.lt; omega)
      clear HR
      go_upto_region 6 with (fail)
      rw [← hW]
      clear hW p0 p1 p2
      have z0 : W.cell? ⟨wr.heap.size, 0, none⟩ = some (.int .i64 (pp.s : Int)) := HBW.out.cell 0
      obtain ⟨sy, hsy⟩ : ∃ sy, sy = pp.s := ⟨_, rfl⟩
      rw [← hsy] at z0 hsm HTK hcl
      have hs19 : (sy : Int) < 19 := by omega
      have cc : W.cell? ⟨cg, sy, none⟩ = some (.int .i64 ((cntP (P.take j) sy : Nat) : Int)) := cel_cell HRW.out.cnt sy (by omega)
      have fz := HRW.out.cnt.frozen sy
      obtain ⟨N, hN⟩ : ∃ N, N = cntP (P.take j) sy := ⟨_, rfl⟩
      rw [← hN] at cc hcl
      have hNb : N ≤ 400 := by rw [List.length_take] at hcl; have := HSP.out.2.1; omega
      have HN := Lib.hid hN
      clear hsy hN hcl
      go_wp2_with fail
      go_roundw
      case rel =>
        refine ⟨j + 1, by go_num, by omega, Lib.hid ?_⟩
        have h9 := (HRW.out.set sy (N + 1)).congr (D := cntP (P.take (j + 1))) fun i _ => by
          rw [HTK.out i]
          by_cases e : i = sy
          · rw [if_pos e, if_pos e, HN.out, e]
          · rw [if_neg e, if_neg e]
        rw [Int.natCast_add] at h9
        exact h9
      case measure => simp [intOf]; omega
    · obtain rfl : j = np := by omega
      rw [List.take_of_length_le (by rw [HSP.out.2.2]; exact Nat.le_refl _)] at HR
      have HCN : Hid (∀ i, cntP P i ≤ 1000000) := Lib.hid fun i => by have := cntP_le P i; have := HSP.out.2; omega
      have HS0 : Hid (TwoAt q a1 k1 c1 a2 k2 c2 wr.drew) := Lib.hid (by
        have h5 := HR.out.box
        rw [HBX.out] at h5
        exact ⟨h5.cell 0, h5.cell 2⟩)
      rw [HBX.out] at HR
      go_upto_region 8 with (fail)
      obtain ⟨np, hnp9⟩ : ∃ np, np = j := ⟨_, rfl⟩
      subst hnp9
      refine act_named fun A0 hA0 => ?_
      have hz0 : A0.tmps.size = 43 := by rw [hA0]; rfl
      have e1 : A0.eval (.tmp 1) = .pointer (some ⟨q, 0, none⟩) := by rw [hA0]; rfl
      have e2 : A0.eval (.tmp 2) = .pointer (some ⟨q + 1, 0, none⟩) := by rw [hA0]; rfl
      have e3 : A0.eval (.tmp 3) = .slice pa np pc_ := by rw [hA0]; rfl
      have e4 : A0.eval (.tmp 4) = .slice (some ⟨cg, 0, none⟩) 19 19 := by rw [hA0]; rfl
      refine wp_region_held (S := TwoAt q a1 k1 c1 a2 k2 c2) (by kernel_rfl) ?_
      refine ord_step (i := 0) (d := some 31) (.pointer (some ⟨q, 0, none⟩)) rfl (by kernel_rfl) (by kernel_rfl) (by kernel_rfl) (by kernel_rfl) (fun _ _ _ h => h) rfl HS0.out (fun w' h => x_cb (.tmp 1) 0 (by omega) rfl e1) fun A1 hA1 => ?_
      have hz1 := sz_put hA1 hz0
      have f1_1 := ev_ne hA1 e1 (by decide)
      have f2_1 := ev_ne hA1 e2 (by decide)
      have f3_1 := ev_ne hA1 e3 (by decide)
      have f4_1 := ev_ne hA1 e4 (by decide)
      have f31_1 := ev_eq hA1 hz0 (by decide)
      refine ord_step (i := 1) (d := some 32) (.pointer (some ⟨q, 0, none⟩)) rfl (by kernel_rfl) (by kernel_rfl) (by kernel_rfl) (by kernel_rfl) (fun _ _ _ h => h) rfl HS0.out (fun w' h => x_cl (.tmp 31) rfl f31_1) fun A2 hA2 => ?_
      have hz2 := sz_put hA2 hz1
      have f1_2 := ev_ne hA2 f1_1 (by decide)
      have f2_2 := ev_ne hA2 f2_1 (by decide)
      have f3_2 := ev_ne hA2 f3_1 (by decide)
      have f4_2 := ev_ne hA2 f4_1 (by decide)
      have f32_2 := ev_eq hA2 hz1 (by decide)
      refine ord_step (i := 2) (d := some 33) (.slice a1 k1 c1) rfl (by kernel_rfl) (by kernel_rfl) (by kernel_rfl) (by kernel_rfl) (fun _ _ _ h => h) rfl HS0.out (fun w' h => x_ldi (.tmp 32) rfl f32_2 h.1) fun A3 hA3 => ?_
      have hz3 := sz_put hA3 hz2
      have f1_3 := ev_ne hA3 f1_2 (by decide)
      have f2_3 := ev_ne hA3 f2_2 (by decide)
      have f3_3 := ev_ne hA3 f3_2 (by decide)
      have f4_3 := ev_ne hA3 f4_2 (by decide)
      have f33_3 := ev_eq hA3 hz2 (by decide)
      refine ord_step (i := 3) (d := some 34) (.int .i64 (k1 : Int)) rfl (by kernel_rfl) (by kernel_rfl) (by kernel_rfl) (by kernel_rfl) (fun _ _ _ h => h) rfl HS0.out (fun w' h => x_blen (.tmp 33) rfl f33_3) fun A4 hA4 => ?_
      have hz4 := sz_put hA4 hz3
      have f1_4 := ev_ne hA4 f1_3 (by decide)
      have f2_4 := ev_ne hA4 f2_3 (by decide)
      have f3_4 := ev_ne hA4 f3_3 (by decide)
      have f4_4 := ev_ne hA4 f4_3 (by decide)
      have f34_4 := ev_eq hA4 hz3 (by decide)
      refine ord_step (i := 4) (d := some 35) (.pointer (some ⟨q, 2, none⟩)) rfl (by kernel_rfl) (by kernel_rfl) (by kernel_rfl) (by kernel_rfl) (fun _ _ _ h => h) rfl HS0.out (fun w' h => x_cb (.tmp 1) 1 (by omega) rfl f1_4) fun A5 hA5 => ?_
      have hz5 := sz_put hA5 hz4
      have f2_5 := ev_ne hA5 f2_4 (by decide)
      have f3_5 := ev_ne hA5 f3_4 (by decide)
      have f4_5 := ev_ne hA5 f4_4 (by decide)
      have f34_5 := ev_ne hA5 f34_4 (by decide)
      have f35_5 := ev_eq hA5 hz4 (by decide)
      refine ord_step (i := 5) (d := some 36) (.pointer (some ⟨q, 2, none⟩)) rfl (by kernel_rfl) (by kernel_rfl) (by kernel_rfl) (by kernel_rfl) (fun _ _ _ h => h) rfl HS0.out (fun w' h => x_cl (.tmp 35) rfl f35_5) fun A6 hA6 => ?_
      have hz6 := sz_put hA6 hz5
      have f2_6 := ev_ne hA6 f2_5 (by decide)
      have f3_6 := ev_ne hA6 f3_5 (by decide)
      have f4_6 := ev_ne hA6 f4_5 (by decide)
      have f34_6 := ev_ne hA6 f34_5 (by decide)
      have f36_6 := ev_eq hA6 hz5 (by decide)
      refine ord_step (i := 6) (d := some 37) (.slice a2 k2 c2) rfl (by kernel_rfl) (by kernel_rfl) (by kernel_rfl) (by kernel_rfl) (fun _ _ _ h => h) rfl HS0.out (fun w' h => x_ldi (.tmp 36) rfl f36_6 h.2) fun A7 hA7 => ?_
      have hz7 := sz_put hA7 hz6
      have f2_7 := ev_ne hA7 f2_6 (by decide)
      have f3_7 := ev_ne hA7 f3_6 (by decide)
      have f4_7 := ev_ne hA7 f4_6 (by decide)
      have f34_7 := ev_ne hA7 f34_6 (by decide)
      have f37_7 := ev_eq hA7 hz6 (by decide)
      refine ord_step (i := 7) (d := some 38) (.int .i64 (k2 : Int)) rfl (by kernel_rfl) (by kernel_rfl) (by kernel_rfl) (by kernel_rfl) (fun _ _ _ h => h) rfl HS0.out (fun w' h => x_blen (.tmp 37) rfl f37_7) fun A8 hA8 => ?_
      have hz8 := sz_put hA8 hz7
      have f2_8 := ev_ne hA8 f2_7 (by decide)
      have f3_8 := ev_ne hA8 f3_7 (by decide)
      have f4_8 := ev_ne hA8 f4_7 (by decide)
      have f34_8 := ev_ne hA8 f34_7 (by decide)
      have f38_8 := ev_eq hA8 hz7 (by decide)
      refine ord_step (i := 8) (d := some 39) (.slice pa np pc_) rfl (by kernel_rfl) (by kernel_rfl) (by kernel_rfl) (by kernel_rfl) (fun _ _ _ h => h) rfl HS0.out (fun w' h => x_move (.tmp 3) rfl f3_8) fun A9 hA9 => ?_
      have hz9 := sz_put hA9 hz8
      have f2_9 := ev_ne hA9 f2_8 (by decide)
      have f4_9 := ev_ne hA9 f4_8 (by decide)
      have f34_9 := ev_ne hA9 f34_8 (by decide)
      have f38_9 := ev_ne hA9 f38_8 (by decide)
      have f39_9 := ev_eq hA9 hz8 (by decide)
      refine ord_step (i := 9) (d := some 40) (.slice (some ⟨cg, 0, none⟩) 19 19) rfl (by kernel_rfl) (by kernel_rfl) (by kernel_rfl) (by kernel_rfl) (fun _ _ _ h => h) rfl HS0.out (fun w' h => x_move (.tmp 4) rfl f4_9) fun A10 hA10 => ?_
      have hz10 := sz_put hA10 hz9
      have f2_10 := ev_ne hA10 f2_9 (by decide)
      have f34_10 := ev_ne hA10 f34_9 (by decide)
      have f38_10 := ev_ne hA10 f38_9 (by decide)
      have f39_10 := ev_ne hA10 f39_9 (by decide)
      have f40_10 := ev_eq hA10 hz9 (by decide)
      refine ord_lone (i := 10) rfl (by kernel_rfl) rfl (wp_enter (d := some 41) rfl (x_best rfl f40_10 rfl) (best_any 19 7 (InfMath.cntP P) cg wr.drew HR.out.cnt.drew (by omega) (by omega) (by omega) (by omega) HCN.out) ?_)
      rintro e w5 ⟨sa, sc, sb, Sh, rfl, hc5, hbe, hb5⟩
      have HR5 := Lib.hid (HR.out.below ((Below.refl _ wr).drew.trans hb5))
      have HC5 := Lib.hid hc5
      have HBE := Lib.hid hbe
      have HSZ : Hid (wr.drew.heap.size = wr.heap.size) := Lib.hid rfl
      clear hc5 hbe hb5
      have hS5 : TwoAt q a1 k1 c1 a2 k2 c2 w5 := ⟨HR5.out.box.cell 0, HR5.out.box.cell 2⟩
      refine ⟨_, rfl, act_name_and hS5 fun A11 hA11 => ?_⟩
      have hz11 := sz_put hA11 hz10
      have f2_11 := ev_ne hA11 f2_10 (by decide)
      have f34_11 := ev_ne hA11 f34_10 (by decide)
      have f38_11 := ev_ne hA11 f38_10 (by decide)
      have f39_11 := ev_ne hA11 f39_10 (by decide)
      have f41_11 := ev_eq hA11 hz10 (by decide)
      refine ord_step (i := 11) (d := some 42) (.agg #[.int .i64 (k1 : Int), .int .i64 (k2 : Int), .slice pa np pc_, .slice sa 19 sc, .slice (some ⟨sb, 0, none⟩) 19 19]) rfl (by kernel_rfl) (by kernel_rfl) (by kernel_rfl) (by kernel_rfl) (fun _ _ _ h => h) rfl hS5 (fun w' h => x_hdr (.tmp 34) (.tmp 38) (.tmp 39) (.tmp 41) rfl f34_11 f38_11 f39_11 f41_11) fun A12 hA12 => ?_
      have hz12 := sz_put hA12 hz11
      have f2_12 := ev_ne hA12 f2_11 (by decide)
      have f42_12 := ev_eq hA12 hz11 (by decide)
      refine ord_lone (i := 12) rfl (by kernel_rfl) rfl (wp_store_row 80 (.tmp 2) (.tmp 42) rfl (q + 1) #[.int .i64 (k1 : Int), .int .i64 (k2 : Int), .slice pa np pc_, .slice sa 19 sc, .slice (some ⟨sb, 0, none⟩) 19 19] f2_12 f42_12 80 _ HR5.out.res info_hdr rfl (by simp [Value.oneCell']) ?_)
      refine act_name_and ?_ fun A13 hA13 => ?_
      · exact ⟨(Blk.rowfar HR5.out.box (by omega)).cell 0, (Blk.rowfar HR5.out.box (by omega)).cell 2⟩
      refine wpAnyH_done (by kernel_rfl) ?_ _
      have HBB := Lib.hid (HR5.out.res.row #[.int .i64 (k1 : Int), .int .i64 (k2 : Int), .slice pa np pc_, .slice sa 19 sc, .slice (some ⟨sb, 0, none⟩) 19 19])
      have ea := hA13
      rw [hA12, hA11, hA10, hA9, hA8, hA7, hA6, hA5, hA4, hA3, hA2, hA1, hA0] at ea
      simp only [put_lit, List.set_cons_succ, List.set_cons_zero] at ea
      rw [ea]
      go_wp2_with fail
      refine hdr_ret rfl rfl rfl HBB.out info_hdr ⟨pa, np, pc_, P, sa, sc, sb, Sh, rfl, HSP.out.1, HSP.out.2.1, HBE.out, ?_, ?_, ?_, ?_, HPQ.out⟩
      · exact pcs_only HR5.out.pcs (only_row _ _ _) (fun b off e => by have := HR5.out.sep b off e; omega)
      · intro b off e
        have h3 := HR5.out.sep b off e
        have h4 := HR5.out.cnt.lt
        rw [size_setRow]
        have := HQ.out
        omega
      · exact (HC5.out.rowfar (by have := HR.out.cnt.lt; have := HR.out.lc; have := HSZ.out; omega) _).more (by have := HR.out.bel.size; have := HSZ.out; omega)
      · exact below_row HR5.out.bel (by have := HQ.out; omega) _
end Go.Proofs.YtbjjkhlebdaoaaaGreatDoor.BlkC
end

section
/-
  All that the reader asks of a block with codes of its own.
-/
namespace Go.Proofs.YtbjjkhlebdaoaaaGreatDoor.BlkC
open Go.RowKit Go.My BitMath CanMath TabMath
open LzMath (Tok May GoodT)
open PkC (Best)
open InfMath (Pc CodeOk HOk Sp cntP Used litc dstc lite symL lp dp usable kd goodCodes lastD)

theorem best_ln {n most : Nat} {F : Nat → Nat} {ls : List Nat} {k : Nat} (h : Best ((List.range n).map F) ls most) (ht : Trim ls k) {i : Nat} (hi : i < n) (h0 : 0 < F i) : 1 ≤ ln (ls.take k) i ∧ i < k := by
  have h1 := h.pos i (by rw [range_map_len]; exact hi) (by rw [range_map_get n F i hi]; exact h0)
  have h2 : 1 ≤ ln (ls.take k) i := by rw [InfMath.ln_trim ht.zero]; exact h1
  refine ⟨h2, ?_⟩
  have := ln_lt h2
  rw [List.length_take] at this
  omega
theorem best_code {n most : Nat} {F : Nat → Nat} {ls : List Nat} {k : Nat} (h : Best ((List.range n).map F) ls most) (ht : Trim ls k) (hn : n ≤ 288) (hm : most ≤ 15) : CodeOk (ls.take k) := by
  have hs := h.size
  rw [range_map_len] at hs
  refine ⟨by rw [List.length_take]; omega, fun x hx => ?_, by rw [InfMath.kr_trim ht.zero]; exact h.le⟩
  obtain ⟨i, hi, rfl⟩ := List.getElem_of_mem (List.mem_of_mem_take hx)
  have := h.all i
  rw [List.getD_eq_getElem?_getD, List.getElem?_eq_getElem hi] at this
  have h2 : ls[i] ≤ most := this
  omega
theorem share_kr : ∀ (ls : List Nat) (x : Nat), x ∈ ls → share x ≤ kr ls
  | [], _, h => by cases h
  | y :: t, x, h => by
    rw [kr_cons]
    rcases List.mem_cons.1 h with rfl | h
    · omega
    · have := share_kr t x h; omega
theorem hok_of {wide : Bool} {f : Nat → Tok} {len k1 k2 : Nat} {L0 D0 Sh : List Nat} {P : List Pc} (hG : GoodT wide f len) (b1 : Best ((List.range 286).map (lite wide f len)) L0 15) (b2 : Best ((List.range 32).map (dstc f len)) D0 15) (t1 : Trim L0 k1) (t2 : Trim D0 k2)
    (hsp : Sp [] P (L0.take k1 ++ D0.take k2)) (b3 : Best ((List.range 19).map (cntP P)) Sh 7) :
    HOk wide (L0.take k1) (D0.take k2) Sh (hn Sh) P ∧ CodeOk (L0.take k1) ∧ CodeOk (D0.take k2) ∧ (∀ i, i < len → Used (L0.take k1) (D0.take k2) wide (f i)) ∧ 1 ≤ ln (L0.take k1) 256 := by
  have s1 := b1.size
  have s2 := b2.size
  have s3 := b3.size
  rw [range_map_len] at s1 s2 s3
  have l1 : (L0.take k1).length = k1 := by rw [List.length_take]; have := t1.le; omega
  have l2 : (D0.take k2).length = k2 := by rw [List.length_take]; have := t2.le; omega
  have h256 := best_ln b1 t1 (i := 256) (by omega) (InfMath.lite_stop wide f len)
  have c1 := best_code b1 t1 (by omega) (by omega)
  have c2 := best_code b2 t2 (by omega) (by omega)
  have hU : ∀ i, i < len → Used (L0.take k1) (D0.take k2) wide (f i) := by
    intro i hi
    have hm := (hG i hi).1
    have u1 := (best_ln b1 t1 (InfMath.sym_small hm) (InfMath.lite_used wide f len i hi)).1
    unfold Used
    unfold symL at u1
    by_cases h0 : (f i).len = 0
    · rw [if_pos h0] at u1 ⊢; exact u1
    · rw [if_neg h0] at u1 ⊢
      exact ⟨u1, (best_ln b2 t2 (InfMath.dist_small hm h0) (InfMath.dstc_used f len i hi h0)).1⟩
  have hkr : kr L0 ≠ 0 := by
    intro e
    have h3 := InfMath.kr_trim t1.zero
    rw [e] at h3
    have h4 : ∀ x ∈ L0.take k1, x = 0 := by
      intro x hx
      refine Classical.byContradiction fun hne => ?_
      have := share_kr _ x hx
      have := share_pos (n := x) (by omega)
      omega
    have h5 := ln_lt h256.1
    have h6 := h4 _ (List.getElem_mem h5)
    have h7 := h256.1
    rw [ln_eq _ _ h5] at h7
    omega
  have hus : usable (L0.take k1) = true := by
    unfold usable
    rw [InfMath.kd_trim t1.zero]
    exact (InfMath.kd_of b1.one).1 hkr
  have hd2 : k2 ≤ lastD wide + 1 := by
    rcases t2.last with e | e
    · omega
    · have hlt : k2 - 1 < 32 := by have := t2.le; have := t2.one; omega
      have h0 : 0 < dstc f len (k2 - 1) := by
        refine Classical.byContradiction fun hc => ?_
        have := b2.zero (k2 - 1) (by rw [range_map_get 32 _ _ hlt]; omega)
        omega
      obtain ⟨i, hi, hl0, hs⟩ := InfMath.dstc_some f len (k2 - 1) h0
      obtain ⟨-, -, q3, q4, -⟩ := InfMath.mat_of (hG i hi).1 hl0
      obtain ⟨l, -, -, -, b4, -⟩ := InfMath.dp_far (f i).dist.toNat wide q3 q4
      omega
  obtain ⟨i, hi, hne⟩ := InfMath.not_same (L := L0.take k1) (by omega) (by rw [l1]; have := t1.le; omega) hus h256.1
  have hga : ∀ j, j < k1 → (L0.take k1 ++ D0.take k2).getD j 0 = (L0.take k1).getD j 0 := fun j hj => by
    rw [List.getD_eq_getElem?_getD, List.getD_eq_getElem?_getD, List.getElem?_append_left (by omega)]
  obtain ⟨x, y, hxy, hx, hy, px, py⟩ := InfMath.two_syms hsp (i := i) (j := 256) (by rw [List.length_append]; omega) (by rw [List.length_append]; omega) (by rw [hga i (by omega), hga 256 h256.2]; exact hne)
  have hw : kr Sh = 32768 := b3.whole x y hxy (by rw [range_map_len]; omega) (by rw [range_map_len]; omega) (by rw [range_map_get 19 _ _ hx]; exact px) (by rw [range_map_get 19 _ _ hy]; exact py)
  refine ⟨⟨by omega, by rw [l1]; have := t1.le; omega, by rw [l2]; exact t2.one, by rw [l2]; exact hd2, hcl_four Sh 19 (by omega), hcl_le Sh 19, s3, fun z hz => ?_, fun j h1 h2 => hcl_rest Sh 19 j h1 h2, (InfMath.kd_of b3.one).2.2 hw, hsp, fun p hp => ?_, ?_⟩, c1, c2, hU, h256.1⟩
  · obtain ⟨j, hj, rfl⟩ := List.getElem_of_mem hz
    have := b3.all j
    rw [List.getD_eq_getElem?_getD, List.getElem?_eq_getElem hj] at this
    exact this
  · have hps := (InfMath.sp_small _ _ _ hsp p hp).1
    exact b3.pos p.s (by rw [range_map_len]; omega) (by rw [range_map_get 19 _ _ (by omega)]; exact InfMath.cntP_pos hp)
  · unfold goodCodes
    have e1 : ((L0.take k1).getD 256 0 != 0) = true := by
      have h9 := h256.1
      unfold ln at h9
      simp only [bne_iff_ne, ne_eq]; omega
    have e3 : (kd (D0.take k2) == 0 || usable (D0.take k2)) = true := by
      have h9 := (InfMath.kd_of b2.one).2.1
      unfold usable at h9 ⊢
      rw [InfMath.kd_trim t2.zero]
      exact h9
    rw [e1, hus, e3]; rfl
end Go.Proofs.YtbjjkhlebdaoaaaGreatDoor.BlkC
end
