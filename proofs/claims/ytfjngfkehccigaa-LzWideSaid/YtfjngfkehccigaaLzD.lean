/-
  expand: the bytes of tokens that may all stand there.
-/
import Derived.Test.YtfjngfkehccigaaLzC
import Derived.Test.YtfjngfkehccigaaWinK
namespace Go.Proofs.Ytfjngfkehccigaa.LzC
open Go.RowKit Go.My LzMath WinMath WinC

section
variable {w wr w' : World} {g S n ca : Nat} {r : Option Nat} {all L : List UInt8} {aa : Option Addr}
theorem st_app (h : St w wr g S r all L aa n ca) {a2 : Option Addr} {c2 m : Nat} {l2 : List UInt8} (hl : l2.length = m) (hown : Own 5 w.heap.size w' (.slice a2 (n + m) c2) (L ++ l2)) (hg : wr.grownBy w' (Value.ownBlock (.slice aa n ca)))
    (hn : Nxt (Value.ownBlock (.slice aa n ca)) wr.heap.size (Value.ownBlock (.slice a2 (n + m) c2))) : St w w' g S r all (L ++ l2) a2 (n + m) c2 := by
  have hO : Only (fun k => Value.ownBlock (.slice aa n ca) = some k) wr w' := (Only.refl _ wr).grown hg (fun k _ hk => hk)
  refine ⟨⟨h.kept.wn.only hO (fun e => h.sep g e (.inl rfl)) (fun k hk e => h.sep k e (.inr hk)), h.kept.below.trans (hO.below h.kept.below.size (fun k hk => (World.ownsRow.lt h.own k hk).1))⟩, hown, by rw [List.length_append, h.len, hl], fun j hj hk => ?_⟩
  rcases hn with e | ⟨i, e, hi⟩
  · exact h.sep j (by rw [← e]; exact hj) hk
  · rw [e] at hj
    injection hj with hj
    have := h.kept.wn.flt j hk
    omega
end
theorem md_ok (wide : Bool) : 0 < md wide ∧ md wide ≤ 65536 := by cases wide <;> simp [md]
theorem ml_ok (wide : Bool) : ml wide ≤ 65538 := by cases wide <;> simp [ml]
/-- A match's numbers. -/
theorem mat_nums {wide : Bool} {f : Nat → Tok} {k : Nat} (h : Ok wide f k) (h0 : (f k).len ≠ 0) :
    ∃ d n : Nat, f k = ⟨(n : Int), (d : Int), 0⟩ ∧ 3 ≤ n ∧ n ≤ 65538 ∧ 1 ≤ d ∧ d ≤ md wide ∧ d ≤ tot f k ∧ ex f (k + 1) = grow (ex f k) d n ∧ tot f (k + 1) = tot f k + n := by
  obtain ⟨hm, hd⟩ := h
  have hml := ml_ok wide
  rcases hm with hm | ⟨h1, h2, h3, h4, h5⟩
  · exact absurd hm.1 h0
  · have e : ex f (k + 1) = grow (ex f k) (f k).dist.toNat (f k).len.toNat := by show LzMath.step _ _ = _; unfold LzMath.step; rw [if_neg h0]
    have s : tot f (k + 1) = tot f k + (f k).len.toNat := by show tot f k + sz _ = _; unfold sz; rw [if_neg h0]
    generalize f k = t at *
    obtain ⟨l, d, b⟩ := t
    simp only at *
    obtain ⟨n, rfl⟩ := Int.eq_ofNat_of_zero_le (show 0 ≤ l by omega)
    obtain ⟨d, rfl⟩ := Int.eq_ofNat_of_zero_le (show 0 ≤ d by omega)
    subst h1
    simp only [Int.toNat_natCast] at e s
    exact ⟨d, n, rfl, by omega, by omega, by omega, by omega, by omega, e, s⟩
theorem lit_nums {wide : Bool} {f : Nat → Tok} {k : Nat} (h : Ok wide f k) (h0 : (f k).len = 0) : ∃ c : UInt8, f k = ⟨0, 0, c⟩ ∧ ex f (k + 1) = ex f k ++ [c] ∧ tot f (k + 1) = tot f k + 1 := by
  obtain ⟨hm, hd⟩ := h
  have e : ex f (k + 1) = ex f k ++ [(f k).byte] := by show LzMath.step _ _ = _; unfold LzMath.step; rw [if_pos h0]
  have s : tot f (k + 1) = tot f k + 1 := by show tot f k + sz _ = _; unfold sz; rw [if_pos h0]
  rcases hm with hm | hm
  · refine ⟨(f k).byte, ?_, e, s⟩
    obtain ⟨h1, h2⟩ := hm
    generalize f k = t at *
    obtain ⟨l, d, b⟩ := t
    simp only at h1 h2
    subst h1 h2
    rfl
  · have := hm.2.1
    omega

/-- A call that hands back bytes of its own. -/
def Made (w : World) (l : List UInt8) (e : Ending) (w' : World) : Prop :=
  ∃ a c, e = .returned (.slice a l.length c) ∧ Own 5 w.heap.size w' (.slice a l.length c) l ∧ Below w.heap.size w w'

set_option maxRecDepth 100000 in
set_option maxHeartbeats 8000000 in
theorem expand_any (wide : Bool) (a : Option Addr) (len c : Nat) (f : Nat → Tok) (w : World) (h : TokIn w a len c f) (hG : GoodT wide f len) (ht : tot f len ≤ 1000000) :
    Calls Try.prog 18 #[.slice a len c, .bool wide, .int .i64 (tot f len : Int)] w (Made w (ex f len)) := by
  have H := Lib.hid h
  have hlc := h.le_cap
  have hcm := h.cap_le
  have HG := Lib.hid hG
  have HM := Lib.hid (md_ok wide)
  obtain ⟨T, hT⟩ : ∃ T, T = tot f len := ⟨_, rfl⟩
  rw [← hT] at ht ⊢
  have HT := Lib.hid hT
  clear h hG hT
  go_enter Try.func18, Try.ntmps18
  go_wp2_with fail
  refine (bounds_any wide w).mono ?_
  rintro e w' ⟨rfl, rfl⟩
  go_wp2_with fail
  refine (new_k (md wide) w HM.out.1 HM.out.2).mono ?_
  rintro e w1 ⟨rfl, H1⟩
  have hs1 : w.heap.size ≤ w1.heap.size := H1.out.below.size
  go_wp2_with (at_make; refine wpList_make_cap _ rfl (.const (.int .i64 0)) (.tmp 26) 29 rfl w.heap.size 5 Try.underlying29 info5 .i64 .i64 _ T rfl rfl rfl (by omega) hs1 ?_)
  intro w2 hown hg
  have H2 : Hid (St w w2 w.heap.size (md wide) none (ex f 0) (ex f 0) (some ⟨w1.heap.size, 0, none⟩) (tot f 0) T) := Lib.hid (by
    have hb := grown_none_below (Below.refl w1.heap.size w1) hg (Nat.le_refl _)
    refine ⟨H1.out.later hb, hown, rfl, fun j hj hF => ?_⟩
    have := H1.out.wn.flt j hF
    injection hj with hj
    have hj : w1.heap.size = j := hj
    omega)
  clear H1 hown hg hs1
  go_wp2_with fail
  generalize w1.heap.size = g1 at *
  generalize hg : w.heap.size = g at *
  have HGW := Lib.hid hg
  clear hg
  go_loopw [11, 30] (fun bv i wr => ∃ (k : Nat) (r : Option Nat) (aa : Option Addr) (ca : Nat), k ≤ len ∧ i = .int .i64 (k : Int) ∧ bv = .slice aa (tot f k) ca ∧ Hid (St w wr g (md wide) r (ex f k) (ex f k) aa (tot f k) ca)) (fun _ i _ => len - (intOf i).toNat)
  case atStart => exact ⟨0, none, _, T, Nat.zero_le _, rfl, rfl, H2⟩
  case round =>
    clear H2
    obtain ⟨k, r, aa, ca, hk, rfl, rfl, HK⟩ := hrel
    by_cases hlt : k < len
    · obtain ⟨b, off, rfl, ho⟩ := (H.out.below (Nat.le_refl _) HK.out.kept.below).get hlt
      obtain ⟨c0, c1, c2, hbl, wf⟩ := ho
      have hm := tot_mono f (k + 1) len hlt
      have hok := HG.out k hlt
      have hel := ex_len f k
      have hT1 : tot f (k + 1) ≤ 1000000 := by have := HT.out; omega
      by_cases h0 : (f k).len = 0
      · obtain ⟨ch, hfk, hex, htk⟩ := lit_nums hok h0
        rw [hfk] at c0 c1 c2
        simp only at c0 c1 c2
        have HEX := Lib.hid hex
        have HTK := Lib.hid htk
        obtain ⟨N, hN⟩ : ∃ N, N = tot f k := ⟨_, rfl⟩
        rw [← hN] at HTK HK hel ⊢
        have hNb : N ≤ 1000000 := by omega
        have HEL := Lib.hid hel
        obtain ⟨X, hX⟩ : ∃ X, X = wr.alloc (.cells #[.int .i64 0, .int .i64 0, .int .u8 (ch.toNat : Int)] 26) := ⟨_, rfl⟩
        have HBL : Hid (Blk X wr.heap.size 26 #[.int .i64 0, .int .i64 0, .int .u8 (ch.toNat : Int)]) := Lib.hid (by rw [hX]; exact Blk.new wr _ _)
        have HNE : Hid (¬ Fp g r wr.heap.size) := Lib.hid (fun hF => by have := HK.out.kept.wn.flt _ hF; omega)
        have HX : Hid (St w X g (md wide) r (ex f k) (ex f k) aa N ca) := Lib.hid (by rw [hX]; exact HK.out.later ((Below.refl _ _).alloc (Nat.le_refl _) _))
        clear h0 hfk hex htk hm hok hel hN wf HK
        go_upto_region 7 with (fail)
        rw [← hX]
        clear hX c0 c1 c2 hbl
        generalize wr.heap.size = gt at *
        have x0 : X.cell? ⟨gt, 0, none⟩ = some (.int .i64 0) := HBL.out.cell 0
        have x2 : X.cell? ⟨gt, 2, none⟩ = some (.int .u8 (ch.toNat : Int)) := HBL.out.cell 2
        go_wp2_with fail
        refine (put_s ch HX (by rw [HEL.out]; omega)).mono ?_
        rintro e w3 ⟨rfl, r2, H3, HO3⟩
        have HB3 : Hid (Blk w3 gt 26 #[.int .i64 0, .int .i64 0, .int .u8 (ch.toNat : Int)]) := Lib.hid (HO3.out.blk HBL.out HNE.out)
        clear x0 x2 HBL HX HO3 HNE
        have x2 : w3.cell? ⟨gt, 2, none⟩ = some (.int .u8 (ch.toNat : Int)) := HB3.out.cell 2
        have hB : w.heap.size ≤ w3.heap.size := H3.out.kept.below.size
        have ho3 : Own 5 w.heap.size (w3.alloc (.cells #[.int .u8 (ch.toNat : Int)] 5)) (.slice aa (ex f k).length ca) (ex f k) := by rw [HEL.out]; exact (H3.out.later ((Below.refl _ _).alloc (Nat.le_refl _) _)).own
        have hb1 : Bytes (w3.alloc (.cells #[.int .u8 (ch.toNat : Int)] 5)) (some ⟨w3.heap.size, 0, none⟩) 1 1 [ch] := one_bytes 5 w3 ch
        have HO := Lib.hid ho3
        have HB1 := Lib.hid hb1
        clear ho3 hb1
        rw [HEL.out] at HO
        go_wp2_with (at_builtin; refine wpList_append_lie (by rfl) (.tmp 41) (.tmp 44) 29 (by rfl) w.heap.size 5 Try.underlying29 info5 (.slice aa N ca) (ex f k) (by rfl) HO.out (some ⟨w3.heap.size, 0, none⟩) 1 1 [ch] (by rfl) HB1.out (by rw [HEL.out]; omega) (by simp; omega) ?_)
        rw [HEL.out]
        intro a4 c4 w4 hown hgrow hnext
        have H4 : Hid (St w w4 g (md wide) r2 (ex f (k + 1)) (ex f (k + 1)) a4 (tot f (k + 1)) c4) := Lib.hid (by
          rw [HEX.out, HTK.out]
          exact H3.out.app rfl hown hgrow (by simpa using hnext))
        clear H3 HO HB1 HB3 x2 hown hgrow hnext
        go_wp2_with fail
        go_roundw
        case rel => exact ⟨k + 1, r2, a4, c4, by omega, by go_num, by rw [HTK.out], H4⟩
        case measure => simp [intOf]; omega
      · obtain ⟨d, n, hfk, hn3, hn, hd1, hdS, hdN, hex, htk⟩ := mat_nums hok h0
        rw [hfk] at c0 c1 c2
        simp only at c0 c1 c2
        have HEX := Lib.hid hex
        have HTK := Lib.hid htk
        have hgc := grow_copy (ex f k) d n
        have hcl := copy_len (ex f k) d n
        obtain ⟨N, hN⟩ : ∃ N, N = tot f k := ⟨_, rfl⟩
        rw [← hN] at HTK HK hel hdN ⊢
        have hNb : N + n ≤ 1000000 := by omega
        have hdM : d ≤ min (ex f k).length (md wide) := by rw [hel]; omega
        have HEL := Lib.hid hel
        have HGC := Lib.hid hgc
        have HCL := Lib.hid hcl
        have HDM := Lib.hid hdM
        obtain ⟨X, hX⟩ : ∃ X, X = wr.alloc (.cells #[.int .i64 (n : Int), .int .i64 (d : Int), .int .u8 ((0 : UInt8).toNat : Int)] 26) := ⟨_, rfl⟩
        have HBL : Hid (Blk X wr.heap.size 26 #[.int .i64 (n : Int), .int .i64 (d : Int), .int .u8 ((0 : UInt8).toNat : Int)]) := Lib.hid (by rw [hX]; exact Blk.new wr _ _)
        have HX : Hid (St w X g (md wide) r (ex f k) (ex f k) aa N ca) := Lib.hid (by rw [hX]; exact HK.out.later ((Below.refl _ _).alloc (Nat.le_refl _) _))
        have hn0 : ((n : Int) == 0) = false := by simp; omega
        clear h0 hfk hex htk hm hok hel hN wf HK hgc hcl hdM hdS hdN
        generalize ((0 : UInt8).toNat : Int) = zz at *
        go_upto_region 7 with (fail)
        rw [← hX]
        clear hX c0 c1 c2 hbl
        generalize wr.heap.size = gt at *
        have x0 : X.cell? ⟨gt, 0, none⟩ = some (.int .i64 (n : Int)) := HBL.out.cell 0
        have x1 : X.cell? ⟨gt, 1, none⟩ = some (.int .i64 (d : Int)) := HBL.out.cell 1
        go_wp2_with fail
        refine (copy_s d n HX hn hd1 HDM.out (by rw [HEL.out]; omega)).mono ?_
        rintro e w3 ⟨bp, r2, rfl, HP, H3⟩
        clear x0 x1 HBL HX
        have hB : w.heap.size ≤ w3.heap.size := H3.out.kept.below.size
        have ho3 : Own 5 w.heap.size w3 (.slice aa (ex f k).length ca) (ex f k) := by rw [HEL.out]; exact H3.out.own
        have hb1 : Bytes w3 (some ⟨bp, 0, none⟩) n n (copy (ex f k) d n) := by
          obtain ⟨a', c', h1, h2⟩ := HP.out.bytes
          simp only [Value.slice.injEq] at h1
          obtain ⟨rfl, h1, rfl⟩ := h1
          rw [← h1] at h2
          exact h2
        have HO := Lib.hid ho3
        have HB1 := Lib.hid hb1
        clear ho3 hb1
        rw [HEL.out] at HO
        go_wp2_with (at_builtin; refine wpList_append_lie (by rfl) (.tmp 55) (.tmp 56) 29 (by rfl) w.heap.size 5 Try.underlying29 info5 (.slice aa N ca) (ex f k) (by rfl) HO.out (some ⟨bp, 0, none⟩) n n (copy (ex f k) d n) (by rfl) HB1.out (by rw [HEL.out]; omega) hB ?_)
        rw [HEL.out]
        intro a4 c4 w4 hown hgrow hnext
        have H4 : Hid (St w w4 g (md wide) r2 (ex f (k + 1)) (ex f (k + 1)) a4 (tot f (k + 1)) c4) := Lib.hid (by
          rw [HEX.out, HTK.out]
          have := st_app H3.out HCL.out hown hgrow hnext
          rw [← HGC.out] at this
          exact this)
        clear H3 HO HB1 hown hgrow hnext HP
        go_wp2_with fail
        go_roundw
        case rel => exact ⟨k + 1, r2, a4, c4, by omega, by go_num, by rw [HTK.out], H4⟩
        case measure => simp [intOf]; omega
    · obtain rfl : k = len := by omega
      go_wp2_with fail
      go_ret
      refine ⟨aa, ca, by rw [ex_len]; rfl, ?_, HK.out.kept.below⟩
      rw [ex_len]
      exact HK.out.own
end Go.Proofs.Ytfjngfkehccigaa.LzC
