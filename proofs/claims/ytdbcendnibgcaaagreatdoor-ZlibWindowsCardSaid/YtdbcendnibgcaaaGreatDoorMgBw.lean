import Derived.Test.YtdbcendnibgcaaaGreatDoorMgBs
import Derived.Test.YtdbcendnibgcaaaGreatDoorMgBt
import Derived.Test.YtdbcendnibgcaaaGreatDoorMgBu
import Derived.Test.YtdbcendnibgcaaaGreatDoorMgBv

section
/-
  The document's own inflate: token.
-/
namespace Go.Proofs.YtdbcendnibgcaaaGreatDoor.RfC
open Go.RowKit Go.My BitMath CanMath TabMath WinMath CanC RefC
open InfMath (St9 St10 St1 Bad CodeOk sym)

/-- What a token hands back. -/
def TokR (w0 : World) (g : Nat) (a : Option Addr) (len cap : Nat) (l : List UInt8) (wide : Bool) (S most : Nat) (R : List (Nat × TypeId × Array Value)) (ls ds : List Nat) (fin : Bool) (s : InfMath.M) (p : Nat) (e : Ending) (w' : World) : Prop :=
  ∃ (r p' code' : Nat) (ov' : Value) (out' : List UInt8), e = .returned (.int .i64 (r : Int)) ∧ Hid (XAt w0 w' g a len cap l p' ov' out' wide S most code' R) ∧
    Hid ((r = 0 ∧ p < p' ∧ out'.length ≤ most ∧ ∃ s', InfMath.Steps s s' ∧ St9 l p' out' wide S most ls ds fin s') ∨ (r = 1 ∧ p < p' ∧ out'.length ≤ most ∧ ∃ s', InfMath.Steps s s' ∧ St1 l p' out' wide S most fin s') ∨ (r = 2 ∧ code' ≠ 0 ∧ Bad s))
section
variable {w0 w w' : World} {g : Nat} {a : Option Addr} {len cap : Nat} {l : List UInt8} {p : Nat} {ov : Value} {out : List UInt8} {wide : Bool} {S most code : Nat} {R : List (Nat × TypeId × Array Value)}
/-- x.out = append(x.out, c) -/
theorem XAt.app {w1 : World} {o : Obj} {v2 : Value} {out2 : List UInt8} (h : XAt w0 w g a len cap l p ov out wide S most code R) (hown : Own 5 w0.heap.size w1 v2 out2) (hg : (w.alloc o).grownBy w1 ov.ownBlock) :
    XAt w0 (w1.setCell ⟨g, 2, none⟩ v2) g a len cap l p v2 out2 wide S most code R := by
  have hO1 : Only (fun k => ov.ownBlock = some k) w w1 := ((Only.refl _ w).alloc o).grown hg (fun k _ hk => hk)
  have hb1 : Blk w1 g 76 (xc a len cap p ov wide S most code) := hO1.blk h.blk h.far
  have hO2 : Only (fun k => k = g) w1 (w1.setCell ⟨g, 2, none⟩ v2) := (Only.refl (fun k => k = g) w1).setCell (p := ⟨g, 2, none⟩) (fun _ => rfl) v2
  have hfar := own_len_ne hown hb1 (by decide)
  have hb := hb1.set_ 2 v2
  have hB1 : Below w0.heap.size w0 w1 := h.below.trans (hO1.below h.below.size (fun k hk => (World.ownsRow.lt h.own k hk).1))
  refine ⟨hb, hO2.own hown (fun k hk e => hfar (by rw [hk, e])), h.base, h.byt, hB1.trans (hO2.below hB1.size (fun k hk => by rw [hk]; exact h.base)), h.lt, h.short, fun x hx => ?_⟩
  have h1 := h.rows x hx
  have h2 : Blk w1 x.1 x.2.1 x.2.2 := hO1.blk h1.1 (fun e => own_len_ne h.own h1.1 h1.2.2 e)
  exact ⟨hO2.blk h2 (fun e => blk_ne h.blk h1.1 (fun e => h1.2.1 e.symm) e.symm), h1.2⟩

set_option maxRecDepth 100000 in
set_option maxHeartbeats 16000000 in
theorem token_any {gl gd : Nat} {ls ds : List Nat} {fin : Bool} {s : InfMath.M} (hx : Hid (XAt w0 w g a len cap l p ov out wide S most code R)) (h9 : St9 l p out wide S most ls ds fin s) (hrl : (gl, 9, (texts ls).toArray) ∈ R) (hrd : (gd, 9, (texts ds).toArray) ∈ R)
    (okl : CodeOk ls) (okd : CodeOk ds) (hm : most ≤ 1073741824) (hS : S ≤ 65536) (hom : out.length ≤ most) :
    Calls Tryz.prog 46 #[.pointer (some ⟨g, 0, none⟩), .slice (some ⟨gl, 0, none⟩) ls.length ls.length, .slice (some ⟨gd, 0, none⟩) ds.length ds.length] w (TokR w0 g a len cap l wide S most R ls ds fin s p) := by
  obtain ⟨oa, oc, rfl, -⟩ := hx.out.own.bytes
  have hlen := hx.out.byt.len_eq
  have hpl := hx.out.lt
  have hsh := hx.out.short
  have HQ1 := look_any 0 15 hx (by omega) (by omega)
  rw [Nat.add_zero] at HQ1
  obtain ⟨v, n, e0, hsym⟩ : ∃ v n e0, sym ls ((bitsOf l).drop p) = (v, n, e0) := ⟨_, _, _, rfl⟩
  have H9 := Lib.hid h9
  have HSY := Lib.hid hsym
  have HF1 := Lib.hid (fun W (h : CodeRow W gl ls) => find_sym h ((bitsOf l).drop p))
  rw [hsym] at HF1
  have HOK : Hid (e0 = 0 → 1 ≤ n ∧ n ≤ 8 * len - p ∧ n ≤ 15 ∧ v < ls.length) := Lib.hid (fun he => by
    have h2 : (sym ls ((bitsOf l).drop p)).2.2 = 0 := by rw [hsym]; exact he
    obtain ⟨-, -, h5, h6, h7, h8⟩ := InfMath.sym_ok h2
    rw [hsym] at h5 h6 h7 h8
    rw [List.length_drop, bitsOf_len, hlen] at h6
    exact ⟨h5, h6, h7, h8⟩)
  have HLL := Lib.hid okl.len
  have HCD := Lib.hid (And.intro okl okd)
  have HQ1' := Lib.hid HQ1
  have HLE := Lib.hid hlen
  obtain ⟨t1, ht1⟩ : ∃ t1, t1 = txt (((bitsOf l).drop p).take 15) := ⟨_, rfl⟩
  rw [← ht1] at HQ1' HF1
  obtain ⟨nl, hnl⟩ : ∃ nl, nl = ls.length := ⟨_, rfl⟩
  rw [← hnl] at HF1 HLL HOK ⊢
  obtain ⟨nd, hnd⟩ : ∃ nd, nd = ds.length := ⟨_, rfl⟩
  rw [← hnd]
  have HND := Lib.hid hnd
  clear HQ1 ht1 hnl hnd h9 hsym hlen okl okd
  unfold TokR
  go_enter Tryz.func46, Tryz.ntmps46
  go_wp2_with fail
  refine HQ1'.out.mono ?_
  rintro e w1 ⟨rfl, hb⟩
  have HX := Lib.hid (hx.out.later hb)
  have HF := Lib.hid (HF1.out w1 ⟨(HX.out.rows _ hrl).1, HCD.out.1⟩)
  clear hb HQ1' HF1
  go_wp2_with fail
  refine HF.out.mono ?_
  rintro e w2 ⟨rfl, rfl⟩
  clear HF
  by_cases he : e0 = 0
  · subst he
    obtain ⟨hn1, hn2, hn3, hv3⟩ := HOK.out rfl
    by_cases hv : v < 256
    · have x5 : w1.cell? ⟨g, 5, none⟩ = some (.int .i64 (most : Int)) := HX.out.blk.cell 5
      have x2 : w1.cell? ⟨g, 2, none⟩ = some (.slice oa out.length oc) := HX.out.blk.cell 2
      by_cases hfull : most ≤ out.length
      · have hfi : decide ((most : Int) ≤ (out.length : Int)) = true := by simp; omega
        go_wp2_with fail
        go_quiet (fail)
        have HX3 : Hid (XAt w0 (w1.drewN nq) g a len cap l p (.slice oa out.length oc) out wide S most code R) := Lib.hid (HX.out.later (below_drewN (Below.refl _ _) _))
        generalize w1.drewN nq = wd at *
        clear x5 x2
        go_wp2_with fail
        refine (end_any 3 HX3).mono ?_
        rintro e wz ⟨rfl, HXz⟩
        go_wp2_with fail
        go_ret
        exact ⟨2, p, 3, _, _, rfl, HXz, Lib.hid (.inr (.inr ⟨rfl, by decide, InfMath.tk_full H9.out HSY.out hv hfull⟩))⟩
      · have hfi : decide ((most : Int) ≤ (out.length : Int)) = false := by simp; omega
        go_wp2_with fail
        go_quiet (fail)
        have HX3 : Hid (XAt w0 (w1.drewN nq) g a len cap l p (.slice oa out.length oc) out wide S most code R) := Lib.hid (HX.out.later (below_drewN (Below.refl _ _) _))
        generalize w1.drewN nq = wd at *
        clear x5 x2
        have x1 : wd.cell? ⟨g, 1, none⟩ = some (.int .i64 (p : Int)) := HX3.out.blk.cell 1
        have f1 : wd.frozen? ⟨g, 1, none⟩ = false := HX3.out.blk.frozen 1
        go_upto_region 8 with (fail)
        have hpn : p + n ≤ 8 * len := by omega
        have hx4 := HX3.out.at_ (p + n) code hpn rfl
        rw [show ((p + n : Nat) : Int) = (p : Int) + (n : Int) from by omega] at hx4
        generalize wd.setCell ⟨g, 1, none⟩ (.int .i64 ((p : Int) + (n : Int))) = w4 at *
        have HX4 := Lib.hid hx4
        have x2 : w4.cell? ⟨g, 2, none⟩ = some (.slice oa out.length oc) := hx4.blk.cell 2
        have hc : (UInt8.ofNat v).toNat = v := by rw [UInt8.toNat_ofNat']; exact Nat.mod_eq_of_lt hv
        have hb1 : Bytes (w4.alloc (.cells #[.int .u8 (v : Int)] 5)) (some ⟨w4.heap.size, 0, none⟩) 1 1 [UInt8.ofNat v] := by
          have := one_bytes 5 w4 (UInt8.ofNat v)
          rw [hc] at this; exact this
        have HBB := Lib.hid hb1
        have HOA := Lib.hid (hx4.own.below (Nat.le_refl _) ((Below.refl _ w4).alloc (Nat.le_refl _) (.cells #[.int .u8 (v : Int)] 5)))
        clear hx4 hb1 hc x1 f1 hpn
        go_wp2_with (at_builtin; refine wpList_append_bytes (by rfl) (.tmp 58) (.tmp 61) 22 rfl w0.heap.size 5 Tryz.underlying22 RefC.info5 _ _ (by rfl) HOA.out _ 1 1 [UInt8.ofNat v] (by rfl) HBB.out (by omega) (by have := HX4.out.below.size; simp; omega) ?_)
        intro v2 w5 hown hg
        have hb5 := (HX4.out.blk.alloc (.cells #[.int .u8 (v : Int)] 5)).grown hg (Ne.symm HX4.out.far)
        obtain ⟨a2, c2, rfl, -⟩ := hown.bytes
        have HX5 := Lib.hid (HX4.out.app hown hg)
        rw [List.length_append, List.length_singleton] at HX5 ⊢
        have f2 : w5.frozen? ⟨g, 2, none⟩ = false := hb5.frozen 2
        have y2 : w5.cell? ⟨g, 2, none⟩ = some (.slice oa out.length oc) := hb5.cell 2
        clear hown hg hb5 x2 HOA HBB HX4
        go_wp2_with fail
        go_ret
        exact ⟨0, p + n, code, _, _, rfl, HX5, Lib.hid (.inl ⟨rfl, by omega, by rw [List.length_append]; simp; omega, InfMath.tk_lit H9.out HSY.out hv hfull⟩)⟩
    · by_cases hv2 : v = 256
      · subst hv2
        have x1 : w1.cell? ⟨g, 1, none⟩ = some (.int .i64 (p : Int)) := HX.out.blk.cell 1
        have f1 : w1.frozen? ⟨g, 1, none⟩ = false := HX.out.blk.frozen 1
        have hpn : p + n ≤ 8 * len := by omega
        have hx4 := HX.out.at_ (p + n) code hpn rfl
        rw [show ((p + n : Nat) : Int) = (p : Int) + (n : Int) from by omega] at hx4
        have HX4 := Lib.hid hx4
        clear hx4
        go_wp2_with fail
        go_ret
        exact ⟨1, p + n, code, _, _, rfl, HX4, Lib.hid (.inr (.inl ⟨rfl, by omega, hom, InfMath.tk_end H9.out HSY.out⟩))⟩
      · have hv4 : 256 < v := by omega
        have hve : ((v : Int) == 256) = false := by simp; omega
        have x3 : w1.cell? ⟨g, 3, none⟩ = some (.bool wide) := HX.out.blk.cell 3
        have HBa := Lib.hid (InfC.rbase_any (v : Int) wide w1)
        rw [InfC.baseZ_nat] at HBa
        cases hba : InfMath.base v wide with
        | none =>
          rw [hba] at HBa
          unfold InfC.ansB at HBa
          dsimp only at HBa
          have HBN := Lib.hid hba
          clear hba
          go_wp2_with fail
          refine HBa.out.mono ?_
          rintro e w3 ⟨rfl, rfl⟩
          go_wp2_with fail
          refine (end_any 2 HX).mono ?_
          rintro e wz ⟨rfl, HXz⟩
          go_wp2_with fail
          go_ret
          exact ⟨2, p, 2, _, _, rfl, HXz, Lib.hid (.inr (.inr ⟨rfl, by decide, InfMath.tk_nobase H9.out HSY.out hv4 HBN.out⟩))⟩
        | some bx =>
          obtain ⟨b, x⟩ := bx
          rw [hba] at HBa
          unfold InfC.ansB at HBa
          dsimp only at HBa
          obtain ⟨hb3, hbl, hx16⟩ := InfMath.base_le hba
          have HBN := Lib.hid hba
          clear hba
          have HQ2 := Lib.hid (look_any n x HX (by omega) (by omega))
          have hts : (txt (((bitsOf l).drop (p + n)).take x)).size = min x (8 * len - (p + n)) := by rw [txt_len, List.length_take, List.length_drop, bitsOf_len, HLE.out]
          have HNum := Lib.hid (fun W => refnumber_any (((bitsOf l).drop (p + n)).take x) W (by rw [List.length_take]; omega))
          have hub : num (((bitsOf l).drop (p + n)).take x) < 2 ^ x := Nat.lt_of_lt_of_le (num_lt _) (Nat.pow_le_pow_right (by omega) (by rw [List.length_take]; omega))
          obtain ⟨u, hu⟩ : ∃ u, u = num (((bitsOf l).drop (p + n)).take x) := ⟨_, rfl⟩
          rw [← hu] at HNum hub
          obtain ⟨m, hmm⟩ : ∃ m, m = b + u := ⟨_, rfl⟩
          have hm6 : m ≤ 65538 := by omega
          have hmI : (b : Int) + (u : Int) = (m : Int) := by omega
          have hu6 : u ≤ 65538 := by omega
          have HMM := Lib.hid (And.intro hu hmm)
          generalize txt (((bitsOf l).drop (p + n)).take x) = t2 at *
          clear hub hu hmm hb3 hbl
          go_wp2_with fail
          refine HBa.out.mono ?_
          rintro e w3 ⟨rfl, rfl⟩
          clear x3
          go_wp2_with fail
          refine HQ2.out.mono ?_
          rintro e w3 ⟨rfl, hb⟩
          have HX3 := Lib.hid (HX.out.later hb)
          clear hb HQ2 HBa
          by_cases hsh2 : t2.size < x
          · have hts2 := hts
            go_wp2_with fail
            refine (end_any 5 HX3).mono ?_
            rintro e wz ⟨rfl, HXz⟩
            go_wp2_with fail
            go_ret
            exact ⟨2, p, 5, _, _, rfl, HXz, Lib.hid (.inr (.inr ⟨rfl, by decide, InfMath.tk_short H9.out HSY.out hv4 HBN.out (by rw [HLE.out]; omega)⟩))⟩
          · have hlok : ¬ 8 * l.length - p < n + x := by rw [HLE.out]; omega
            have h10 := InfMath.tk_match H9.out HSY.out hv4 HBN.out hlok
            rw [← HMM.out.1, ← HMM.out.2] at h10
            have H10 := Lib.hid h10
            obtain ⟨A2, hA2⟩ : ∃ A2, A2 = n + x := ⟨_, rfl⟩
            have hA2I : (n : Int) + (x : Int) = (A2 : Int) := by omega
            have hA26 : A2 ≤ 31 := by omega
            have hq3 := look_any A2 15 HX3 (by omega) (by omega)
            rw [hA2, ← Nat.add_assoc] at hq3
            obtain ⟨P2, hP2⟩ : ∃ P2, P2 = p + n + x := ⟨_, rfl⟩
            rw [← hP2] at hq3 H10
            rw [← hA2] at hq3
            have hP2b : P2 = p + A2 ∧ P2 ≤ 8 * len := by omega
            obtain ⟨v2, n2, e2, hsym2⟩ : ∃ v2 n2 e2, sym ds ((bitsOf l).drop P2) = (v2, n2, e2) := ⟨_, _, _, rfl⟩
            have HSY2 := Lib.hid hsym2
            have HF2 := Lib.hid (fun W (h : CodeRow W gd ds) => find_sym h ((bitsOf l).drop P2))
            rw [hsym2, ← HND.out] at HF2
            have HOK2 : Hid (e2 = 0 → 1 ≤ n2 ∧ n2 ≤ 8 * len - P2 ∧ n2 ≤ 15) := Lib.hid (fun he => by
              have h2 : (sym ds ((bitsOf l).drop P2)).2.2 = 0 := by rw [hsym2]; exact he
              obtain ⟨-, -, h5, h6, h7, h8⟩ := InfMath.sym_ok h2
              rw [hsym2] at h5 h6 h7
              rw [List.length_drop, bitsOf_len, HLE.out] at h6
              exact ⟨h5, h6, h7⟩)
            obtain ⟨t3, ht3⟩ : ∃ t3, t3 = txt (((bitsOf l).drop P2).take 15) := ⟨_, rfl⟩
            rw [← ht3] at hq3 HF2
            have HQ3 := Lib.hid hq3
            have HP2 := Lib.hid (And.intro hA2 (And.intro hP2 hP2b))
            clear hlok h10 hA2 hq3 hP2 hP2b hsym2 ht3 hts
            go_wp2_with fail
            refine (HNum.out w3).mono ?_
            rintro e w4 ⟨rfl, rfl⟩
            clear HNum
            go_wp2_with fail
            refine HQ3.out.mono ?_
            rintro e w4 ⟨rfl, hb⟩
            have HX4 := Lib.hid (HX3.out.later hb)
            have HF := Lib.hid (HF2.out w4 ⟨(HX4.out.rows _ hrd).1, HCD.out.2⟩)
            clear hb HQ3 HF2
            go_wp2_with fail
            refine HF.out.mono ?_
            rintro e w5 ⟨rfl, rfl⟩
            clear HF
            by_cases he2 : e2 = 0
            · subst he2
              obtain ⟨hn21, hn22, hn23⟩ := HOK2.out rfl
              have x3 : w4.cell? ⟨g, 3, none⟩ = some (.bool wide) := HX4.out.blk.cell 3
              have HFa := Lib.hid (InfC.rfar_any (v2 : Int) wide w4)
              rw [InfC.farZ_nat] at HFa
              cases hfa : InfMath.far v2 wide with
              | none =>
                rw [hfa] at HFa
                unfold InfC.ansB at HFa
                dsimp only at HFa
                have HFN := Lib.hid hfa
                clear hfa
                go_wp2_with fail
                refine HFa.out.mono ?_
                rintro e w5 ⟨rfl, rfl⟩
                go_wp2_with fail
                refine (end_any 2 HX4).mono ?_
                rintro e wz ⟨rfl, HXz⟩
                go_wp2_with fail
                go_ret
                exact ⟨2, p, 2, _, _, rfl, HXz, Lib.hid (.inr (.inr ⟨rfl, by decide, by obtain ⟨s1, hs1, h10⟩ := H10.out; exact .of hs1 (InfMath.td_nofar h10 HSY2.out HFN.out)⟩))⟩
              | some bx =>
                obtain ⟨fb, fx⟩ := bx
                rw [hfa] at HFa
                unfold InfC.ansB at HFa
                dsimp only at HFa
                obtain ⟨hfb1, hfb2, hfx⟩ := InfMath.far_le hfa
                have HFN := Lib.hid hfa
                obtain ⟨A3, hA3⟩ : ∃ A3, A3 = A2 + n2 := ⟨_, rfl⟩
                have hA3I : (A2 : Int) + (n2 : Int) = (A3 : Int) := by omega
                have hA36 : A3 ≤ 46 := by omega
                obtain ⟨P3, hP3⟩ : ∃ P3, P3 = P2 + n2 := ⟨_, rfl⟩
                have hP3b : p + A3 = P3 := by have := HP2.out.2.2.1; omega
                have hP3c : P3 ≤ 8 * len := by have := HP2.out.2.2.2; omega
                have hq4 := look_any A3 fx HX4 (by omega) (by omega)
                rw [hP3b] at hq4
                have hts : (txt (((bitsOf l).drop P3).take fx)).size = min fx (8 * len - P3) := by rw [txt_len, List.length_take, List.length_drop, bitsOf_len, HLE.out]
                have HNum := Lib.hid (fun W => refnumber_any (((bitsOf l).drop P3).take fx) W (by rw [List.length_take]; omega))
                have hub : num (((bitsOf l).drop P3).take fx) < 2 ^ fx := Nat.lt_of_lt_of_le (num_lt _) (Nat.pow_le_pow_right (by omega) (by rw [List.length_take]; omega))
                obtain ⟨u2, hu⟩ : ∃ u2, u2 = num (((bitsOf l).drop P3).take fx) := ⟨_, rfl⟩
                rw [← hu] at HNum hub
                obtain ⟨d, hd⟩ : ∃ d, d = fb + u2 := ⟨_, rfl⟩
                have hd6 : d ≤ 65537 := by omega
                have hd1 : 1 ≤ d := by omega
                have hdI : (fb : Int) + (u2 : Int) = (d : Int) := by omega
                have hu6 : u2 ≤ 65538 := by omega
                have HDD := Lib.hid (And.intro hu hd)
                have HQ4 := Lib.hid hq4
                have HP3 := Lib.hid (And.intro hP3 hP3b)
                generalize txt (((bitsOf l).drop P3).take fx) = t4 at *
                clear hub hu hd hfb1 hfb2 hfa hA3 hP3b hP3 hq4
                go_wp2_with fail
                refine HFa.out.mono ?_
                rintro e w5 ⟨rfl, rfl⟩
                clear x3
                go_wp2_with fail
                refine HQ4.out.mono ?_
                rintro e w5 ⟨rfl, hb⟩
                have HX5 := Lib.hid (HX4.out.later hb)
                clear hb HQ4 HFa
                have x2 : w5.cell? ⟨g, 2, none⟩ = some (.slice oa out.length oc) := HX5.out.blk.cell 2
                have x4 : w5.cell? ⟨g, 4, none⟩ = some (.int .i64 (S : Int)) := HX5.out.blk.cell 4
                have x5 : w5.cell? ⟨g, 5, none⟩ = some (.int .i64 (most : Int)) := HX5.out.blk.cell 5
                by_cases hsh3 : t4.size < fx
                · have hsl : 8 * l.length - P2 < n2 + fx := by rw [HLE.out]; have := HP3.out.1; omega
                  clear hts
                  go_wp2_with fail
                  refine (end_any 5 HX5).mono ?_
                  rintro e wz ⟨rfl, HXz⟩
                  go_wp2_with fail
                  go_ret
                  exact ⟨2, p, 5, _, _, rfl, HXz, Lib.hid (.inr (.inr ⟨rfl, by decide, by obtain ⟨s1, hs1, h10⟩ := H10.out; exact .of hs1 (InfMath.td_short h10 HSY2.out HFN.out hsl)⟩))⟩
                · have hsl : ¬ 8 * l.length - P2 < n2 + fx := by rw [HLE.out]; have := HP3.out.1; omega
                  have HSL := Lib.hid hsl
                  have hPf : P3 + fx ≤ 8 * len := by omega
                  have HPF := Lib.hid hPf
                  have HD2 : Hid (fb + num (((bitsOf l).drop (P2 + n2)).take fx) = d) := Lib.hid (by rw [← HP3.out.1, ← HDD.out.1, ← HDD.out.2])
                  clear hts hsl hPf
                  go_wp2_with fail
                  refine (HNum.out w5).mono ?_
                  rintro e w6 ⟨rfl, rfl⟩
                  clear HNum
                  by_cases hdo : d ≤ out.length
                  · by_cases hds : d ≤ S
                    · have hdoI : ¬ (d : Int) > (out.length : Int) := by omega
                      have hdsI : ¬ (d : Int) > (S : Int) := by omega
                      have HMF := Lib.hid (show ¬ min out.length S < fb + num (((bitsOf l).drop (P2 + n2)).take fx) by rw [HD2.out]; omega)
                      obtain ⟨D, hD⟩ : ∃ D, D = most - out.length := ⟨_, rfl⟩
                      have hDI : (most : Int) - (out.length : Int) = (D : Int) := by omega
                      have hDw : IntKind.i64.wrap ((most : Int) - (out.length : Int)) = (D : Int) := by rw [hDI]; exact IntWalk.i64_in _ (by omega)
                      by_cases hov : D < m
                      · have hovI : decide ((D : Int) < (m : Int)) = true := by simp; omega
                        have hov2 : most < out.length + m := by omega
                        clear hD
                        go_wp2_with fail
                        go_quiet (fail)
                        have HX6 : Hid (XAt w0 (w5.drewN nq) g a len cap l p (.slice oa out.length oc) out wide S most code R) := Lib.hid (HX5.out.later (below_drewN (Below.refl _ _) _))
                        generalize w5.drewN nq = wd at *
                        go_wp2_with fail
                        refine (end_any 3 HX6).mono ?_
                        rintro e wz ⟨rfl, HXz⟩
                        go_wp2_with fail
                        go_ret
                        exact ⟨2, p, 3, _, _, rfl, HXz, Lib.hid (.inr (.inr ⟨rfl, by decide, by obtain ⟨s1, hs1, h10⟩ := H10.out; exact .of hs1 (InfMath.td_over h10 hov2)⟩))⟩
                      · have hovI : decide ((D : Int) < (m : Int)) = false := by simp; omega
                        have hov2 : ¬ most < out.length + m := by omega
                        have HOV := Lib.hid hov2
                        clear hD hov2
                        go_wp2_with fail
                        go_quiet (fail)
                        have HX6 : Hid (XAt w0 (w5.drewN nq) g a len cap l p (.slice oa out.length oc) out wide S most code R) := Lib.hid (HX5.out.later (below_drewN (Below.refl _ _) _))
                        generalize w5.drewN nq = wd at *
                        clear x2 x4 x5 hDI hDw hovI hdoI hdsI hov
                        have x1 : wd.cell? ⟨g, 1, none⟩ = some (.int .i64 (p : Int)) := HX6.out.blk.cell 1
                        have f1 : wd.frozen? ⟨g, 1, none⟩ = false := HX6.out.blk.frozen 1
                        have hP4 : (p : Int) + (A3 : Int) = (P3 : Int) := by have := HP3.out.2; omega
                        go_upto_region 37 with (fail)
                        have hx7 := HX6.out.at_ (P3 + fx) code HPF.out rfl
                        rw [show ((P3 + fx : Nat) : Int) = (P3 : Int) + (fx : Int) from by omega] at hx7
                        generalize wd.setCell ⟨g, 1, none⟩ (.int .i64 ((P3 : Int) + (fx : Int))) = w7 at *
                        have HX7 := Lib.hid hx7
                        clear hx7 x1 f1 hP4
                        go_wp2_with fail
                        go_loopw [17] (fun iv wr => ∃ (i : Nat) (oi : Option Addr) (ci : Nat), i ≤ m ∧ iv = .int .i64 (i : Int) ∧ Hid (XAt w0 wr g a len cap l (P3 + fx) (.slice oi (out.length + i) ci) (grow out d i) wide S most code R)) (fun iv _ => m - (intOf iv).toNat)
                        case atStart => exact ⟨0, oa, oc, Nat.zero_le _, rfl, HX7⟩
                        case round =>
                          obtain ⟨i, oi, ci, hi, rfl, HX8⟩ := hrel
                          by_cases hlt : i < m
                          · obtain ⟨M, hM⟩ : ∃ M, M = out.length + i := ⟨_, rfl⟩
                            have hgl : (grow out d i).length = M := by rw [grow_len, hM]
                            rw [← hM] at HX8
                            obtain ⟨ga, cc, hv, -⟩ := HX8.out.own.some_ (by omega)
                            simp only [Value.slice.injEq] at hv
                            obtain ⟨rfl, -, -⟩ := hv
                            obtain ⟨I, hI⟩ : ∃ I, I = M - d := ⟨_, rfl⟩
                            have hIM : I < M := by omega
                            obtain ⟨c, hc⟩ : ∃ c, c = (grow out d i).getD I 0 := ⟨_, rfl⟩
                            have hxc : wr.cell? ⟨ga, I, none⟩ = some (.int .u8 (c.toNat : Int)) := by
                              have := RefC.own_cell HX8.out.own hgl I (by omega)
                              rw [this, hc, List.getD_eq_getElem?_getD, List.getElem?_eq_getElem (by omega)]
                              rfl
                            have hx2 : wr.cell? ⟨g, 2, none⟩ = some (.slice (some ⟨ga, 0, none⟩) M ci) := HX8.out.blk.cell 2
                            have e1 : IntKind.i64.wrap ((M : Int) - (d : Int)) = (I : Int) := by rw [IntWalk.i64_in _ (by omega)]; omega
                            have HGS : Hid (grow out d (i + 1) = grow out d i ++ [c]) := Lib.hid (by rw [grow_succ, hgl, ← hI, ← hc])
                            have HC := Lib.hid (And.intro hxc (And.intro hx2 e1))
                            have HGL := Lib.hid hgl
                            have HMI := Lib.hid hM
                            clear hc hxc hx2 e1 hgl hI hM
                            go_wp2_with fail
                            obtain ⟨hxc, hx2, e1⟩ := HC.out
                            refine wp_region_till (S := fun w' => w'.cell? ⟨g, 2, none⟩ = some (.slice (some ⟨ga, 0, none⟩) M ci)) (L := 22) (by kernel_rfl) fun A0 hA0 => ?_
                            have hS : wr.drew.cell? ⟨g, 2, none⟩ = some (.slice (some ⟨ga, 0, none⟩) M ci) := hx2
                            change Till _ _ _ _ _ _ 23 _ _ wr.drew
                            have z0 : A0.tmps.size = 223 := by subst hA0; kernel_rfl
                            have u0 : A0.eval (.tmp 0) = .pointer (some ⟨g, 0, none⟩) := by subst hA0; kernel_rfl
                            have u16 : A0.eval (.tmp 16) = .int .i64 (d : Int) := by subst hA0; kernel_rfl
                            have HA0 := Lib.hid hA0
                            clear hA0
                            refine till_step (i := 0) (d := some 201) (.pointer (some ⟨g, 0, none⟩)) rfl (by kernel_rfl) (by kernel_rfl) (by kernel_rfl) (by kernel_rfl) (by kernel_rfl) (fun _ _ _ h => h) rfl hS (fun w' h => x_move (.tmp 0) rfl u0) fun A1 hA1 => ?_
                            have z1 := sz_put hA1 z0
                            replace u0 := ev_ne hA1 u0 (by decide)
                            replace u16 := ev_ne hA1 u16 (by decide)
                            have u201 := ev_eq hA1 z0 (by decide)
                            have HA1 := Lib.hid hA1
                            clear hA1 z0
                            refine till_step (i := 1) (d := some 202) (.pointer (some ⟨g, 0, none⟩)) rfl (by kernel_rfl) (by kernel_rfl) (by kernel_rfl) (by kernel_rfl) (by kernel_rfl) (fun _ _ _ h => h) rfl hS (fun w' h => x_move (.tmp 0) rfl u0) fun A2 hA2 => ?_
                            have z2 := sz_put hA2 z1
                            replace u0 := ev_ne hA2 u0 (by decide)
                            replace u16 := ev_ne hA2 u16 (by decide)
                            replace u201 := ev_ne hA2 u201 (by decide)
                            have u202 := ev_eq hA2 z1 (by decide)
                            have HA2 := Lib.hid hA2
                            clear hA2 z1
                            refine till_step (i := 5) (d := some 206) (.pointer (some ⟨g, 0, none⟩)) rfl (by kernel_rfl) (by kernel_rfl) (by kernel_rfl) (by kernel_rfl) (by kernel_rfl) (fun _ _ _ h => h) rfl hS (fun w' h => x_move (.tmp 0) rfl u0) fun A3 hA3 => ?_
                            have z3 := sz_put hA3 z2
                            replace u0 := ev_ne hA3 u0 (by decide)
                            replace u16 := ev_ne hA3 u16 (by decide)
                            replace u201 := ev_ne hA3 u201 (by decide)
                            replace u202 := ev_ne hA3 u202 (by decide)
                            have u206 := ev_eq hA3 z2 (by decide)
                            have HA3 := Lib.hid hA3
                            clear hA3 z2
                            refine till_step (i := 9) (d := some 210) (.pointer (some ⟨g, 0, none⟩)) rfl (by kernel_rfl) (by kernel_rfl) (by kernel_rfl) (by kernel_rfl) (by kernel_rfl) (fun _ _ _ h => h) rfl hS (fun w' h => x_move (.tmp 0) rfl u0) fun A4 hA4 => ?_
                            have z4 := sz_put hA4 z3
                            clear u0
                            replace u16 := ev_ne hA4 u16 (by decide)
                            replace u201 := ev_ne hA4 u201 (by decide)
                            replace u202 := ev_ne hA4 u202 (by decide)
                            replace u206 := ev_ne hA4 u206 (by decide)
                            have u210 := ev_eq hA4 z3 (by decide)
                            have HA4 := Lib.hid hA4
                            clear hA4 z3
                            refine till_step (i := 14) (d := some 215) (.int .i64 (d : Int)) rfl (by kernel_rfl) (by kernel_rfl) (by kernel_rfl) (by kernel_rfl) (by kernel_rfl) (fun _ _ _ h => h) rfl hS (fun w' h => x_move (.tmp 16) rfl u16) fun A5 hA5 => ?_
                            have z5 := sz_put hA5 z4
                            clear u16
                            replace u201 := ev_ne hA5 u201 (by decide)
                            replace u202 := ev_ne hA5 u202 (by decide)
                            replace u206 := ev_ne hA5 u206 (by decide)
                            replace u210 := ev_ne hA5 u210 (by decide)
                            have u215 := ev_eq hA5 z4 (by decide)
                            have HA5 := Lib.hid hA5
                            clear hA5 z4
                            refine till_step (i := 2) (d := some 203) (.pointer (some ⟨g, 0, none⟩)) rfl (by kernel_rfl) (by kernel_rfl) (by kernel_rfl) (by kernel_rfl) (by kernel_rfl) (fun _ _ _ h => h) rfl hS (fun w' h => x_nil (.tmp 202) rfl u202) fun A6 hA6 => ?_
                            have z6 := sz_put hA6 z5
                            clear u202
                            replace u201 := ev_ne hA6 u201 (by decide)
                            replace u206 := ev_ne hA6 u206 (by decide)
                            replace u210 := ev_ne hA6 u210 (by decide)
                            replace u215 := ev_ne hA6 u215 (by decide)
                            have u203 := ev_eq hA6 z5 (by decide)
                            have HA6 := Lib.hid hA6
                            clear hA6 z5
                            refine till_step (i := 6) (d := some 207) (.pointer (some ⟨g, 0, none⟩)) rfl (by kernel_rfl) (by kernel_rfl) (by kernel_rfl) (by kernel_rfl) (by kernel_rfl) (fun _ _ _ h => h) rfl hS (fun w' h => x_nil (.tmp 206) rfl u206) fun A7 hA7 => ?_
                            have z7 := sz_put hA7 z6
                            clear u206
                            replace u201 := ev_ne hA7 u201 (by decide)
                            replace u203 := ev_ne hA7 u203 (by decide)
                            replace u210 := ev_ne hA7 u210 (by decide)
                            replace u215 := ev_ne hA7 u215 (by decide)
                            have u207 := ev_eq hA7 z6 (by decide)
                            have HA7 := Lib.hid hA7
                            clear hA7 z6
                            refine till_step (i := 10) (d := some 211) (.pointer (some ⟨g, 0, none⟩)) rfl (by kernel_rfl) (by kernel_rfl) (by kernel_rfl) (by kernel_rfl) (by kernel_rfl) (fun _ _ _ h => h) rfl hS (fun w' h => x_nil (.tmp 210) rfl u210) fun A8 hA8 => ?_
                            have z8 := sz_put hA8 z7
                            clear u210
                            replace u201 := ev_ne hA8 u201 (by decide)
                            replace u203 := ev_ne hA8 u203 (by decide)
                            replace u207 := ev_ne hA8 u207 (by decide)
                            replace u215 := ev_ne hA8 u215 (by decide)
                            have u211 := ev_eq hA8 z7 (by decide)
                            have HA8 := Lib.hid hA8
                            clear hA8 z7
                            refine till_step (i := 3) (d := some 204) (.pointer (some ⟨g, 2, none⟩)) rfl (by kernel_rfl) (by kernel_rfl) (by kernel_rfl) (by kernel_rfl) (by kernel_rfl) (fun _ _ _ h => h) rfl hS (fun w' h => x_field2 (.tmp 203) rfl u203) fun A9 hA9 => ?_
                            have z9 := sz_put hA9 z8
                            clear u203
                            replace u201 := ev_ne hA9 u201 (by decide)
                            replace u207 := ev_ne hA9 u207 (by decide)
                            replace u211 := ev_ne hA9 u211 (by decide)
                            replace u215 := ev_ne hA9 u215 (by decide)
                            have u204 := ev_eq hA9 z8 (by decide)
                            have HA9 := Lib.hid hA9
                            clear hA9 z8
                            refine till_step (i := 7) (d := some 208) (.pointer (some ⟨g, 2, none⟩)) rfl (by kernel_rfl) (by kernel_rfl) (by kernel_rfl) (by kernel_rfl) (by kernel_rfl) (fun _ _ _ h => h) rfl hS (fun w' h => x_field2 (.tmp 207) rfl u207) fun A10 hA10 => ?_
                            have z10 := sz_put hA10 z9
                            clear u207
                            replace u201 := ev_ne hA10 u201 (by decide)
                            replace u204 := ev_ne hA10 u204 (by decide)
                            replace u211 := ev_ne hA10 u211 (by decide)
                            replace u215 := ev_ne hA10 u215 (by decide)
                            have u208 := ev_eq hA10 z9 (by decide)
                            have HA10 := Lib.hid hA10
                            clear hA10 z9
                            refine till_step (i := 11) (d := some 212) (.pointer (some ⟨g, 2, none⟩)) rfl (by kernel_rfl) (by kernel_rfl) (by kernel_rfl) (by kernel_rfl) (by kernel_rfl) (fun _ _ _ h => h) rfl hS (fun w' h => x_field2 (.tmp 211) rfl u211) fun A11 hA11 => ?_
                            have z11 := sz_put hA11 z10
                            clear u211
                            replace u201 := ev_ne hA11 u201 (by decide)
                            replace u204 := ev_ne hA11 u204 (by decide)
                            replace u208 := ev_ne hA11 u208 (by decide)
                            replace u215 := ev_ne hA11 u215 (by decide)
                            have u212 := ev_eq hA11 z10 (by decide)
                            have HA11 := Lib.hid hA11
                            clear hA11 z10
                            refine till_step (i := 4) (d := some 205) (.slice (some ⟨ga, 0, none⟩) M ci) rfl (by kernel_rfl) (by kernel_rfl) (by kernel_rfl) (by kernel_rfl) (by kernel_rfl) (fun _ _ _ h => h) rfl hS (fun w' h => x_loads (.tmp 204) rfl u204 h) fun A12 hA12 => ?_
                            have z12 := sz_put hA12 z11
                            clear u204
                            replace u201 := ev_ne hA12 u201 (by decide)
                            replace u208 := ev_ne hA12 u208 (by decide)
                            replace u212 := ev_ne hA12 u212 (by decide)
                            replace u215 := ev_ne hA12 u215 (by decide)
                            have u205 := ev_eq hA12 z11 (by decide)
                            have HA12 := Lib.hid hA12
                            clear hA12 z11
                            refine till_step (i := 8) (d := some 209) (.slice (some ⟨ga, 0, none⟩) M ci) rfl (by kernel_rfl) (by kernel_rfl) (by kernel_rfl) (by kernel_rfl) (by kernel_rfl) (fun _ _ _ h => h) rfl hS (fun w' h => x_loads (.tmp 208) rfl u208 h) fun A13 hA13 => ?_
                            have z13 := sz_put hA13 z12
                            clear u208
                            replace u201 := ev_ne hA13 u201 (by decide)
                            replace u205 := ev_ne hA13 u205 (by decide)
                            replace u212 := ev_ne hA13 u212 (by decide)
                            replace u215 := ev_ne hA13 u215 (by decide)
                            have u209 := ev_eq hA13 z12 (by decide)
                            have HA13 := Lib.hid hA13
                            clear hA13 z12
                            refine till_step (i := 12) (d := some 213) (.slice (some ⟨ga, 0, none⟩) M ci) rfl (by kernel_rfl) (by kernel_rfl) (by kernel_rfl) (by kernel_rfl) (by kernel_rfl) (fun _ _ _ h => h) rfl hS (fun w' h => x_loads (.tmp 212) rfl u212 h) fun A14 hA14 => ?_
                            have z14 := sz_put hA14 z13
                            clear u212
                            replace u201 := ev_ne hA14 u201 (by decide)
                            replace u205 := ev_ne hA14 u205 (by decide)
                            replace u209 := ev_ne hA14 u209 (by decide)
                            replace u215 := ev_ne hA14 u215 (by decide)
                            have u213 := ev_eq hA14 z13 (by decide)
                            have HA14 := Lib.hid hA14
                            clear hA14 z13
                            refine till_step (i := 13) (d := some 214) (.int .i64 (M : Int)) rfl (by kernel_rfl) (by kernel_rfl) (by kernel_rfl) (by kernel_rfl) (by kernel_rfl) (fun _ _ _ h => h) rfl hS (fun w' h => x_len (.tmp 213) rfl u213) fun A15 hA15 => ?_
                            have z15 := sz_put hA15 z14
                            clear u213
                            replace u201 := ev_ne hA15 u201 (by decide)
                            replace u205 := ev_ne hA15 u205 (by decide)
                            replace u209 := ev_ne hA15 u209 (by decide)
                            replace u215 := ev_ne hA15 u215 (by decide)
                            have u214 := ev_eq hA15 z14 (by decide)
                            have HA15 := Lib.hid hA15
                            clear hA15 z14
                            refine till_step (i := 15) (d := some 216) (.int .i64 (I : Int)) rfl (by kernel_rfl) (by kernel_rfl) (by kernel_rfl) (by kernel_rfl) (by kernel_rfl) (fun _ _ _ h => h) rfl hS (fun w' h => x_sub (.tmp 214) (.tmp 215) rfl u214 u215 e1) fun A16 hA16 => ?_
                            have z16 := sz_put hA16 z15
                            clear u214
                            clear u215
                            replace u201 := ev_ne hA16 u201 (by decide)
                            replace u205 := ev_ne hA16 u205 (by decide)
                            replace u209 := ev_ne hA16 u209 (by decide)
                            have u216 := ev_eq hA16 z15 (by decide)
                            have HA16 := Lib.hid hA16
                            clear hA16 z15
                            refine till_step (i := 16) (d := some 217) (.pointer (some ⟨ga, 0 + I, none⟩)) rfl (by kernel_rfl) (by kernel_rfl) (by kernel_rfl) (by kernel_rfl) (by kernel_rfl) (fun _ _ _ h => h) rfl hS (fun w' h => x_idx (.tmp 209) (.tmp 216) rfl u209 u216 hIM) fun A17 hA17 => ?_
                            have z17 := sz_put hA17 z16
                            clear u209
                            clear u216
                            replace u201 := ev_ne hA17 u201 (by decide)
                            replace u205 := ev_ne hA17 u205 (by decide)
                            have u217 := ev_eq hA17 z16 (by decide)
                            have HA17 := Lib.hid hA17
                            clear hA17 z16
                            refine till_lone (i := 17) rfl (by kernel_rfl) rfl ?_
                            refine wp_value (d := some 218) (v := .int .u8 (c.toNat : Int)) (w' := wr.drew) (by kernel_rfl) (x_load (.tmp 217) rfl u217 (by rw [Nat.zero_add]; exact hxc)) ?_
                            refine till_name (fun _ => hS) fun A18 hA18 => ?_
                            have z18 := sz_put hA18 z17
                            clear u217
                            replace u201 := ev_ne hA18 u201 (by decide)
                            replace u205 := ev_ne hA18 u205 (by decide)
                            have u218 := ev_eq hA18 z17 (by decide)
                            have HA18 := Lib.hid hA18
                            clear hA18 z17
                            have HX9 : Hid (XAt w0 wr.drew g a len cap l (P3 + fx) (.slice (some ⟨ga, 0, none⟩) M ci) (grow out d i) wide S most code R) := Lib.hid (HX8.out.later (Below.refl _ _).drew)
                            have hS1 : (wr.drew.alloc (.cells #[.int .u8 (c.toNat : Int)] 5)).cell? ⟨g, 2, none⟩ = some (.slice (some ⟨ga, 0, none⟩) M ci) := (HX9.out.blk.alloc _).cell 2
                            refine till_lone (i := 18) rfl (by kernel_rfl) rfl ?_
                            refine wp_value (d := some 219) (v := .slice (some ⟨wr.drew.heap.size, 0, none⟩) 1 1) (w' := wr.drew.alloc (.cells #[.int .u8 (c.toNat : Int)] 5)) (by kernel_rfl) (x_build (.tmp 218) rfl u218) ?_
                            refine till_name (fun _ => hS1) fun A19 hA19 => ?_
                            have z19 := sz_put hA19 z18
                            clear u218
                            replace u201 := ev_ne hA19 u201 (by decide)
                            replace u205 := ev_ne hA19 u205 (by decide)
                            have u219 := ev_eq hA19 z18 (by decide)
                            have HA19 := Lib.hid hA19
                            clear hA19 z18
                            have HOA := Lib.hid (HX9.out.own.below (Nat.le_refl _) ((Below.refl _ wr.drew).alloc (Nat.le_refl _) (.cells #[.int .u8 (c.toNat : Int)] 5)))
                            refine till_lone (i := 19) rfl (by kernel_rfl) rfl ?_
                            refine wp_append_d (d := some 220) (by kernel_rfl) (.tmp 205) (.tmp 219) 22 rfl w0.heap.size 5 Tryz.underlying22 RefC.info5 (.slice (some ⟨ga, 0, none⟩) M ci) (grow out d i) u205 HOA.out (some ⟨wr.drew.heap.size, 0, none⟩) 1 1 [c] u219 (one_bytes 5 wr.drew c) (by rw [HGL.out]; have := HMI.out; omega) (by have := HX9.out.below.size; simp at this ⊢; omega) ?_
                            intro v9 w9 hown hg
                            rw [← HGS.out] at hown
                            obtain ⟨a9, c9, rfl, -⟩ := hown.bytes
                            have hgl2 : (grow out d (i + 1)).length = out.length + (i + 1) := grow_len _ _ _
                            rw [hgl2] at hown ⊢
                            have hb9 := (HX9.out.blk.alloc (.cells #[.int .u8 (c.toNat : Int)] 5)).grown hg (Ne.symm HX9.out.far)
                            have HXA := Lib.hid (HX9.out.app hown hg)
                            have hS2 : w9.cell? ⟨g, 2, none⟩ = some (.slice (some ⟨ga, 0, none⟩) M ci) := hb9.cell 2
                            have f2 : w9.frozen? ⟨g, 2, none⟩ = false := hb9.frozen 2
                            clear hown hg hb9 HOA hgl2
                            refine till_name (fun _ => hS2) fun A20 hA20 => ?_
                            have z20 := sz_put hA20 z19
                            clear u205
                            clear u219
                            replace u201 := ev_ne hA20 u201 (by decide)
                            have u220 := ev_eq hA20 z19 (by decide)
                            have HA20 := Lib.hid hA20
                            clear hA20 z19
                            refine till_lone (i := 20) rfl (by kernel_rfl) rfl ?_
                            refine wp_value (d := some 221) (v := .pointer (some ⟨g, 0, none⟩)) (w' := w9) (by kernel_rfl) (x_nil (.tmp 201) rfl u201) ?_
                            refine till_name (fun _ => hS2) fun A21 hA21 => ?_
                            have z21 := sz_put hA21 z20
                            clear u201
                            replace u220 := ev_ne hA21 u220 (by decide)
                            have u221 := ev_eq hA21 z20 (by decide)
                            have HA21 := Lib.hid hA21
                            clear hA21 z20
                            refine till_lone (i := 21) rfl (by kernel_rfl) rfl ?_
                            refine wp_value (d := some 222) (v := .pointer (some ⟨g, 2, none⟩)) (w' := w9) (by kernel_rfl) (x_field2 (.tmp 221) rfl u221) ?_
                            refine till_name (fun _ => hS2) fun A22 hA22 => ?_
                            have z22 := sz_put hA22 z21
                            clear u221
                            replace u220 := ev_ne hA22 u220 (by decide)
                            have u222 := ev_eq hA22 z21 (by decide)
                            have HA22 := Lib.hid hA22
                            clear hA22 z21
                            refine till_lone (i := 22) rfl (by kernel_rfl) rfl ?_
                            refine till_skip (by kernel_rfl) (x_store (.tmp 222) (.tmp 220) rfl u222 u220 hS2 f2) ?_
                            refine ⟨fun h => absurd rfl h, ?_⟩
                            clear hS hS1 hS2 f2 u220 u222 z22 hxc hx2 e1
                            have hA22 := HA22.out
                            subst hA22
                            clear HA22
                            have hA21 := HA21.out
                            subst hA21
                            clear HA21
                            have hA20 := HA20.out
                            subst hA20
                            clear HA20
                            have hA19 := HA19.out
                            subst hA19
                            clear HA19
                            have hA18 := HA18.out
                            subst hA18
                            clear HA18
                            have hA17 := HA17.out
                            subst hA17
                            clear HA17
                            have hA16 := HA16.out
                            subst hA16
                            clear HA16
                            have hA15 := HA15.out
                            subst hA15
                            clear HA15
                            have hA14 := HA14.out
                            subst hA14
                            clear HA14
                            have hA13 := HA13.out
                            subst hA13
                            clear HA13
                            have hA12 := HA12.out
                            subst hA12
                            clear HA12
                            have hA11 := HA11.out
                            subst hA11
                            clear HA11
                            have hA10 := HA10.out
                            subst hA10
                            clear HA10
                            have hA9 := HA9.out
                            subst hA9
                            clear HA9
                            have hA8 := HA8.out
                            subst hA8
                            clear HA8
                            have hA7 := HA7.out
                            subst hA7
                            clear HA7
                            have hA6 := HA6.out
                            subst hA6
                            clear HA6
                            have hA5 := HA5.out
                            subst hA5
                            clear HA5
                            have hA4 := HA4.out
                            subst hA4
                            clear HA4
                            have hA3 := HA3.out
                            subst hA3
                            clear HA3
                            have hA2 := HA2.out
                            subst hA2
                            clear HA2
                            have hA1 := HA1.out
                            subst hA1
                            clear HA1
                            have hA0 := HA0.out
                            subst hA0
                            clear HA0
                            refine till_as (by simp only [put_lit, List.set_cons_succ, List.set_cons_zero]; rfl) ?_
                            refine till_done (by kernel_rfl) ?_ _
                            go_wp2_with fail
                            go_roundw
                            case rel => exact ⟨i + 1, a9, c9, by omega, by go_num, HXA⟩
                            case measure => simp [intOf]; omega
                          · obtain rfl : i = m := by omega
                            have h9' := InfMath.td_ok H10.out.choose_spec.2 HSY2.out HFN.out HSL.out HMF.out HOV.out
                            rw [HD2.out] at h9'
                            obtain ⟨s', hs', h9''⟩ := h9'
                            have hP4 : P2 + n2 + fx = P3 + fx := by have := HP3.out.1; omega
                            rw [hP4] at h9''
                            have HS9 := Lib.hid (And.intro hs' h9'')
                            have hpp : p < P3 + fx := by have := HP3.out.2; omega
                            clear hs' h9'' hP4
                            go_wp2_with fail
                            go_ret
                            exact ⟨0, P3 + fx, code, _, _, rfl, HX8, Lib.hid (.inl ⟨rfl, hpp, by rw [grow_len]; have := HOV.out; omega, s', (H10.out.choose_spec.1).trans HS9.out.1, HS9.out.2⟩)⟩
                    · have hdoI : ¬ (d : Int) > (out.length : Int) := by omega
                      have hdsI : (d : Int) > (S : Int) := by omega
                      have HMF := Lib.hid (show min out.length S < fb + num (((bitsOf l).drop (P2 + n2)).take fx) by rw [HD2.out]; omega)
                      go_wp2_with fail
                      refine (end_any 2 HX5).mono ?_
                      rintro e wz ⟨rfl, HXz⟩
                      go_wp2_with fail
                      go_ret
                      exact ⟨2, p, 2, _, _, rfl, HXz, Lib.hid (.inr (.inr ⟨rfl, by decide, by obtain ⟨s1, hs1, h10⟩ := H10.out; exact .of hs1 (InfMath.td_far h10 HSY2.out HFN.out HSL.out HMF.out)⟩))⟩
                  · have hdoI : (d : Int) > (out.length : Int) := by omega
                    have HMF := Lib.hid (show min out.length S < fb + num (((bitsOf l).drop (P2 + n2)).take fx) by rw [HD2.out]; omega)
                    go_wp2_with fail
                    refine (end_any 2 HX5).mono ?_
                    rintro e wz ⟨rfl, HXz⟩
                    go_wp2_with fail
                    go_ret
                    exact ⟨2, p, 2, _, _, rfl, HXz, Lib.hid (.inr (.inr ⟨rfl, by decide, by obtain ⟨s1, hs1, h10⟩ := H10.out; exact .of hs1 (InfMath.td_far h10 HSY2.out HFN.out HSL.out HMF.out)⟩))⟩
            · have hz2 : ((e2 : Int) != 0) = true := by simp; omega
              go_wp2_with fail
              refine (end_any e2 HX4).mono ?_
              rintro e wz ⟨rfl, HXz⟩
              go_wp2_with fail
              go_ret
              exact ⟨2, p, e2, _, _, rfl, HXz, Lib.hid (.inr (.inr ⟨rfl, he2, by obtain ⟨s1, hs1, h10⟩ := H10.out; exact .of hs1 (InfMath.td_err h10 (by rw [HSY2.out]; exact he2))⟩))⟩
  · have hz : ((e0 : Int) != 0) = true := by simp; omega
    go_wp2_with fail
    refine (end_any e0 HX).mono ?_
    rintro e wz ⟨rfl, HXz⟩
    go_wp2_with fail
    go_ret
    exact ⟨2, p, e0, _, _, rfl, HXz, Lib.hid (.inr (.inr ⟨rfl, he, InfMath.tk_err H9.out (by rw [HSY.out]; exact he)⟩))⟩
end
end Go.Proofs.YtdbcendnibgcaaaGreatDoor.RfC
end
