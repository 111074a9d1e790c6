/-
  Writer: Align, Raw, Bytes (XBitX has Code, Len besides).
-/
import Derived.Test.YtaeoedapaiapdaaBitW
import Derived.Deep.RegionLaw
import Derived.Laws.MakeOwn
namespace Go.Proofs.Ytaeoedapaiapdaa.BitC
open Go.RowKit Go.My BitMath

theorem put_no (v n : Int) (g : Nat) (w : World) (h : n < 1 ∨ 32 < n) :
    Calls Try.prog 18 #[.pointer (some ⟨g, 0, none⟩), .int .u32 v, .int .i64 n] w fun e w' => e = .returned (.tuple #[]) ∧ w = w' := by
  go_enter Try.func18, Try.ntmps18
  go_wp2_with fail
  refine (fits_no n w h).mono ?_
  rintro e w' ⟨rfl, rfl⟩
  go_wp2_with fail
  exact bodyPost_ret (results_none rfl _ _ _) rfl ⟨rfl, rfl⟩

theorem align_any (B g : Nat) (r : Option Nat) (bs : List Bool) (w : World) (hw : Wr B w g r bs) (hl : bs.length ≤ 100000000000) :
    Calls Try.prog 39 #[.pointer (some ⟨g, 0, none⟩)] w (Wrote B g r w (pad bs)) := by
  have HW := Lib.hid hw
  obtain ⟨v0, l, rest, c, hat, hr0, hc, hr, hbs⟩ := hw
  have hc2 := hat.blk.cell 2
  simp only [List.getElem?_toArray, List.getElem?_cons_zero, List.getElem?_cons_succ] at hc2
  have hlen : bs.length = 8 * l.length + c := by rw [hbs, List.length_append, bitsOf_len, lows_len]
  clear hat hr0 hr hbs
  by_cases h0 : c = 0
  · subst h0
    have HPD : Hid (pad bs = bs) := Lib.hid (pad_full bs (by omega))
    rw [HPD.out]
    have HL := Lib.hid hlen
    clear hlen hl
    go_enter Try.func39, Try.ntmps39
    go_wp2_with fail
    go_end0
    exact ⟨r, rfl, HW.out, Only.refl _ _, Nxt.refl _ _⟩
  · have HPD : Hid (pad bs = bs ++ lows (8 - c) 0) := Lib.hid (by
      unfold pad; rw [lows_zero, hlen, show (8 - (8 * l.length + c) % 8) % 8 = 8 - c from by omega])
    rw [HPD.out]
    have hc0 : (0 : Int) < (c : Int) := by omega
    have HL := Lib.hid hlen
    clear hlen h0
    have hp := put_any 0 (8 - c) B g r bs w (by omega) (by omega) (by omega) HW.out hl
    rw [show ((8 - c : Nat) : Int) = 8 - (c : Int) from by omega] at hp
    have HP := Lib.hid hp
    clear hp
    go_enter Try.func39, Try.ntmps39
    go_wp2_with fail
    refine HP.out.mono ?_
    rintro e w' hp
    obtain ⟨r', rfl, hp⟩ := hp
    have HP := Lib.hid hp
    clear hp
    go_wp2_with fail
    go_end0
    exact ⟨r', rfl, HP.out⟩

theorem bytes_only {S : Nat → Prop} {w w' : World} {ad : Option Addr} {len cap : Nat} {l : List UInt8} (h : Only S w w') (hb : Bytes w ad len cap l) (hS : 0 < len → ∀ b off, ad = some ⟨b, off, none⟩ → ¬ S b) : Bytes w' ad len cap l := by
  by_cases h0 : 0 < len
  · exact h.bytes hb (hS h0)
  · exact ⟨hb.1, hb.2, hb.3, hb.4, .inl (by omega)⟩
set_option maxRecDepth 100000 in
set_option maxHeartbeats 2000000 in
theorem raw_all (B g : Nat) (r : Option Nat) (bs : List Bool) (w : World) (hw : Wr B w g r bs) (hl : bs.length ≤ 100000000000) (a : Option Addr) (len cap : Nat) (lb : List UInt8) (hb : Bytes w a len cap lb)
    (hsep : 0 < len → ∀ b off, a = some ⟨b, off, none⟩ → ¬ Fp g r b) (hlb : len ≤ 100000000000) :
    Calls Try.prog 40 #[.pointer (some ⟨g, 0, none⟩), .slice a len cap] w (Wrote B g r w (pad bs ++ bitsOf lb)) := by
  have HW := Lib.hid hw
  have HBY := Lib.hid hb
  have HSEP := Lib.hid hsep
  clear hw hb hsep
  go_enter Try.func40, Try.ntmps40
  go_wp2_with fail
  refine (align_any B g r bs w HW.out hl).mono ?_
  rintro e w1 hp
  obtain ⟨r1, rfl, hw1, ho1, hn1⟩ := hp
  have HB1 := Lib.hid (bytes_only ho1 HBY.out HSEP.out)
  have HO1 := Lib.hid ho1
  have HN1 := Lib.hid hn1
  obtain ⟨v0, l, rest, c, hat, hr0, hc, hr, hbs⟩ := hw1
  obtain ⟨a0, c0, rfl, -⟩ := hat.own.bytes
  have hc0 := hat.blk.cell 0
  have hf0 := hat.blk.frozen 0
  simp only [List.getElem?_toArray, List.getElem?_cons_zero] at hc0
  have hlen := congrArg List.length hbs
  rw [pad_len, List.length_append, bitsOf_len, lows_len] at hlen
  obtain rfl : c = 0 := by omega
  have hll : l.length ≤ 200000000000 := by omega
  have HR0 := Lib.hid hr0
  have HBS := Lib.hid hbs
  have HAT := Lib.hid hat
  have HR := Lib.hid hr
  have hown := hat.own
  have hne := hat.far
  have hBs : B ≤ w1.heap.size := by have := hat.base; have := hat.blk.lt; omega
  clear hat hr0 hbs hlen hr hc ho1 hn1
  go_wp2_with (at_builtin; refine wpList_append_lie (by rfl) (.tmp 12) (.tmp 13) 33 rfl B 5 Try.underlying33 info5 (.slice a0 l.length c0) l rfl hown a len cap lb rfl HB1.out (by omega) hBs ?_)
  intro a1 c1 w2 hown1 hgrow hnext
  have hb2 := HAT.out.blk.grown hgrow (Ne.symm hne)
  have e0 : w2.cell? ⟨g, 0, none⟩ = some (.slice a0 l.length c0) := hb2.cell 0
  have f0 := hb2.frozen 0
  have HB2 := Lib.hid hb2
  have HOW := Lib.hid hown1
  have HG := Lib.hid hgrow
  have HX := Lib.hid hnext
  have HNE := Lib.hid hne
  clear hb2 hown1 hgrow hnext hown hne hc0 hf0
  go_wp2_with fail
  go_end0
  have hfar := own_len_ne HOW.out HB2.out (by decide)
  have hO1 : Only (Fp g r) w w2 := HO1.out.next HN1.out (((Only.refl _ w1)).grown HG.out fun k _ hk => .inr (by rw [← HR0.out]; exact hk))
  have hO2 : Only (fun k => g = k) w2 (w2.setCell ⟨g, 0, none⟩ (.slice a1 (l.length + len) c1)) := (Only.refl _ w2).setCell (p := ⟨g, 0, none⟩) (fun _ => rfl) _
  refine ⟨_, rfl, ⟨_, l ++ lb, rest, 0, ⟨HB2.out.set_ 0 _, hO2.own HOW.out (fun k hk e => hfar (by rw [hk, ← e])), HAT.out.base⟩, rfl, by omega, HR.out, ?_⟩, hO1.trans hO2 (fun i _ h => .inl h.symm), ?_⟩
  · rw [HBS.out, bitsOf_append]; simp [lows]
  · have hnx := HX.out
    rw [HR0.out] at hnx
    exact HN1.out.trans hnx HO1.out.size
theorem raw_any (B g : Nat) (r : Option Nat) (bs : List Bool) (w : World) (hw : Wr B w g r bs) (hl : bs.length ≤ 100000000000) (a : Option Addr) (len cap : Nat) (lb : List UInt8) (hb : Bytes w a len cap lb)
    (hsep : ∀ b off, a = some ⟨b, off, none⟩ → ¬ Fp g r b) (hlb : len ≤ 100000000000) :
    Calls Try.prog 40 #[.pointer (some ⟨g, 0, none⟩), .slice a len cap] w (Wrote B g r w (pad bs ++ bitsOf lb)) := raw_all B g r bs w hw hl a len cap lb hb (fun _ => hsep) hlb

theorem make_cap (t e : TypeId) (k : Nat) (ht : Try.prog.underlying t = some (.slice e)) (hi : (Try.prog.info? e).map (fun i => (i.zero, i.size, i.bytes)) = some (some (.int .u8 0), 1, 1)) (hk : k ≤ 281474976710656) :
    ∃ cur : Array Value, cur.size = k * 1 ∧ ∀ W : World, (Instr.makeSlice t (.int .i64 0) (.int .i64 (k : Int))).run Try.prog W = .ok (.slice (some ⟨W.heap.size, 0, none⟩) 0 k) (W.alloc (.cells cur e)) := by
  obtain ⟨i, hi, hz0, hz1, hz2⟩ := info_parts hi
  refine ⟨madeCells (Value.cells (.int .u8 0)) (k * 1), ?_, fun W => ?_⟩
  · have h := congrArg List.length (made_bytes k)
    simpa using h
  · have hr := run_make (P := Try.prog) W t e i (.int .u8 0) ht hi hz0 .i64 .i64 (0 : Int) (k : Int) (by omega) (by omega) (by rw [hz2]; omega) (by omega)
    simp only [Int.toNat_natCast, Int.toNat_zero, hz1] at hr
    exact hr

set_option maxRecDepth 100000 in
set_option maxHeartbeats 4000000 in
theorem bytes_any (B g : Nat) (r : Option Nat) (bs : List Bool) (w : World) (hw : Wr B w g r bs) (hl : bs.length ≤ 100000000000) :
    Calls Try.prog 20 #[.pointer (some ⟨g, 0, none⟩)] w (OwnRet 5 w (pack bs)) := by
  obtain ⟨v0, l, rest, c, hat, hr0, hc, hr, hbs⟩ := hw
  obtain ⟨a0, c0, rfl, hby⟩ := hat.own.bytes
  have hc0 := hat.blk.cell 0
  have hc1 := hat.blk.cell 1
  have hc2 := hat.blk.cell 2
  simp only [List.getElem?_toArray, List.getElem?_cons_zero, List.getElem?_cons_succ] at hc0 hc1 hc2
  have hlen : bs.length = 8 * l.length + c := by rw [hbs, List.length_append, bitsOf_len, lows_len]
  have HP : Hid (pack bs = l ++ (if c = 0 then [] else [UInt8.ofNat rest])) := Lib.hid (by
    rw [hbs, pack_bytes l _ (by rw [lows_len]; exact hc), lows_len, num_lows, Nat.mod_eq_of_lt hr])
  have hll : l.length ≤ 100000000000 := by omega
  have HBY := Lib.hid hby
  have HBL := Lib.hid hat.blk
  obtain ⟨cur, hcur, hmk⟩ := make_cap 33 5 (l.length + 1) Try.underlying33 info5 (by omega)
  have hmk1 := hmk w.drew
  rw [show ((l.length + 1 : Nat) : Int) = (l.length : Int) + 1 from by omega] at hmk1
  have HCUR := Lib.hid hcur
  have hx0 : (w.alloc (.cells cur 5)).cell? ⟨g, 0, none⟩ = some (.slice a0 l.length c0) := (hat.blk.alloc _).cell 0
  have hw1 : IntKind.i64.wrap ((l.length : Int) + 1) = (l.length : Int) + 1 := IntWalk.i64_in _ (by omega)
  clear hat hr0 hbs hlen hr hby hcur hmk
  go_enter Try.func20, Try.ntmps20
  go_wp2_with fail
  go_region_law
    ((refine step_append_lie (by rfl) _ _ _ (by rfl) w.heap.size 5 Try.underlying33 info5 (.slice (some ⟨w.heap.size, 0, none⟩) 0 (l.length + 1)) [] (by rfl) (World.ownsRow_made w.drew cur (l.length + 1) (Nat.le_refl _) (by unfold maxLen; omega) HCUR.out) a0 l.length c0 l (by rfl) (HBY.out.below (Nat.le_refl _) (((Below.refl _ w).drew).alloc (Nat.le_refl _) _)) (by simp; omega) (by simp) ?_; intro a1 c1 w2 hown1 hgrow hnext))
  all_goals
    have hb2 : Blk w2 g 62 #[.slice a0 l.length c0, .int .u64 (rest : Int), .int .i64 (c : Int)] :=
      (hgrow.block g (by have := HBL.out.lt; simp; omega) (by have := HBL.out.lt; simp [Value.ownBlock]; omega)).trans (HBL.out.alloc (.cells cur 5))
    have hbel : Below w.heap.size w w2 := (((Below.refl w.heap.size w).alloc (Nat.le_refl _) (.cells cur 5)).drew).trans ((Below.refl _ _).grown hgrow (by simp) (fun k hk => by simp [Value.ownBlock] at hk; omega))
    have hown2 : Own 5 w.heap.size w2 (.slice a1 l.length c1) l := by simpa using hown1
    have e1 : w2.cell? ⟨g, 1, none⟩ = some (.int .u64 (rest : Int)) := hb2.cell 1
    have e2 : w2.cell? ⟨g, 2, none⟩ = some (.int .i64 (c : Int)) := hb2.cell 2
    have HB := Lib.hid hbel
    have HO := Lib.hid hown2
    have hbs2 : w.heap.size ≤ w2.heap.size := hbel.size
    clear hb2 hown1 hgrow hnext hbel
  all_goals
    by_cases h0 : c = 0
    · subst h0
      have HP1 : Hid (pack bs = l) := Lib.hid (by rw [HP.out]; simp)
      go_wp2_with fail
      go_ret
      exact ⟨.slice a1 l.length c1, rfl, by rw [HP1.out]; exact HO.out, HB.out⟩
    · have HP1 : Hid (pack bs = l ++ [UInt8.ofNat rest]) := Lib.hid (by rw [HP.out, if_neg h0])
      have hc0 : (0 : Int) < (c : Int) := by omega
      have hnb : Bytes (w2.alloc (.cells #[.int .u8 ((rest : Int) % 256)] 5)) (some ⟨w2.heap.size, 0, none⟩) 1 1 [UInt8.ofNat rest] := by
        have := one_bytes 5 w2 (UInt8.ofNat rest)
        rwa [UInt8.toNat_ofNat', show ((rest % 2 ^ 8 : Nat) : Int) = (rest : Int) % 256 from by omega] at this
      clear h0
      go_wp2_with (at_builtin; refine wpList_append_lie (by rfl) (.tmp 23) (.tmp 29) 33 rfl w.heap.size 5 Try.underlying33 info5 (.slice a1 l.length c1) l rfl (HO.out.below (Nat.le_refl _) ((Below.refl _ w2).alloc (Nat.le_refl _) _)) (some ⟨w2.heap.size, 0, none⟩) 1 1 [UInt8.ofNat rest] rfl hnb (by omega) (by simp; omega) ?_)
      intro a3 c3 w3 hown3 hgrow3 hnext3
      have HO3 := Lib.hid hown3
      have HB3 : Hid (Below w.heap.size w w3) := Lib.hid ((HB.out.alloc hbs2 _).grown hgrow3 (by simp; omega) (fun k hk => (World.ownsRow.lt HO.out k hk).1))
      clear hown3 hgrow3 hnext3
      go_wp2_with fail
      go_ret
      exact ⟨.slice a3 (l.length + 1) c3, rfl, by rw [HP1.out]; exact HO3.out, HB3.out⟩
end Go.Proofs.Ytaeoedapaiapdaa.BitC
