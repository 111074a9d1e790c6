import Derived.Test.YtkaagenmkjkaeaaDoorMgV

section
/-
  InflateBounds' law.
-/
namespace Go.Proofs.YtkaagenmkjkaeaaDoor.InfC
open Go.RowKit Go.My BitMath CanMath TabMath WinMath FeedC TabC CanC
open InfMath (M Ok CodeOk mu lack fixL fixD bare shut)

theorem un_mod (a : Int) : ∃ f : Nat, f ≤ 70000 ∧ wrap64 ((IntKind.u64.wrap a).tmod 70001) = (f : Int) := by
  have h0 : 0 ≤ IntKind.u64.wrap a := by rw [IntKind.wrap_u64]; omega
  rw [Int.tmod_eq_emod_of_nonneg h0]
  refine ⟨((IntKind.u64.wrap a) % 70001).toNat, by omega, ?_⟩
  rw [IntWalk.wrap64_in _ (by omega)]
  omega
/-- What is right in a little room is right in more. -/
theorem more_room {wide : Bool} {p q : Nat} {l : List UInt8} {t : M} (hpq : p ≤ q) (hp : p ≤ 1073741824) (hl : l.length ≤ 100000000) (h : InfMath.Ends (began wide 32768 p l) t 0) : InfMath.Ends (began wide 32768 q l) (InfMath.up q t) 0 :=
  InfMath.up_ends (ok_open (bs := bitsOf l) (p := l.length) (by omega) (by omega) hp hl (by rw [bitsOf_len]; exact Nat.le_refl _)) hpq h
theorem most_steps {s t : M} (h : InfMath.Steps s t) : t.most = s.most := by
  induction h with
  | refl => rfl
  | cons h _ ih => rw [ih]; exact (InfMath.up_step (Nat.le_refl _) h).2
/-- End behind the first piece. -/
theorem end_bounds {x : Nat} {w1 w2 : World} {d : Ad} {s s0 t : M} {c : Nat} {w : World} {oa : Option Addr} {oc : Nat} (hO : Ordr w.heap.size w) (hA : At w.heap.size w1 x s d) (hb : Below w.heap.size w w1) (hlow : ∀ k, d.c k ≠ 0 → w.heap.size ≤ k) (hends : InfMath.Ends s0 t c) (hok : Ok t)
    (hown : Own 5 w.heap.size w2 (.slice oa t.out.length oc) t.out)
    (h5 : c = 5 → ∃ d', At w.heap.size w2 x { t with out := [] } d' ∧ Mv d.c d'.c w1 w2 ∧ (∀ k, d'.c k ≠ 4) ∧ ∀ k, (Value.slice oa t.out.length oc).ownBlock = some k → d'.c k = 0)
    (hn : c ≠ 5 → Blk w2 x 72 (overCells t.total c (if c = 0 then t.pushed - t.bits.length / 8 else 0)) ∧ Only (fun k => d.c k ≠ 0) w1 w2) :
    Hid (Below w.heap.size w w2 ∧ Calls Tryd.prog 25 #[.pointer (some ⟨x, 0, none⟩)] w2 fun e w3 => ∃ (oa3 : Option Addr) (oc3 c3 u : Nat), e = .returned (.tuple #[.slice oa3 0 oc3, .int .i64 (c3 : Int)]) ∧ Blk w3 x 72 (overCells t.total c3 u) ∧ (c = 0 → u = t.pushed - t.bits.length / 8) ∧ Own 5 w.heap.size w3 (.slice oa t.out.length oc) t.out ∧ Below w.heap.size w w3) := by
  by_cases hc : c = 5
  · subst hc
    obtain ⟨d2, hA2, hM2, hc42, hcol2⟩ := h5 rfl
    have hB2 : Below w.heap.size w w2 := hb.trans (hM2.only.below hb.size hlow)
    have hne : t.next ≠ 11 := fun e => by
      have := InfMath.over_halts e
      rw [hends.2] at this
      cases this
    have hlow2 : ∀ k, d2.c k ≠ 0 → w.heap.size ≤ k := fun k hk => by
      by_cases hlt : k < w.heap.size
      · exact absurd (hA2.rs.low k hlt) hk
      · omega
    refine Lib.hid ⟨hB2, (end_ (Lib.hid hA2) (ok_bare hok t.ended) (ok_bare hok true) (fun e => rm_end (InfMath.step_bare hends.2) rfl e) ((hO.below (Nat.le_refl _) hb).mv hA.rs.low hA.rs.lt hM2) hne hc42 (fun W hW => FeedC.end_any _ d2.f _ d2.F _ _ W (hA2.rs.feed.1.below hW))).mono ?_⟩
    rintro e w3 ⟨t3, c3, hends3, oa3, oc3, rfl, hown3, h53, hn3⟩
    have hsh : InfMath.step { t with out := [], ended := true } = .halt 2 := InfMath.step_bare (InfMath.shut_step hends.2)
    obtain ⟨rfl, rfl⟩ := hends3.det ⟨.refl _, hsh⟩
    obtain ⟨hk, hO3⟩ := hn3 (by decide)
    exact ⟨oa3, oc3, 2, _, rfl, hk, fun h => absurd h (by decide), hO3.own hown (fun k hk hs => hs (hcol2 k hk)), hB2.trans (hO3.below hB2.size hlow2)⟩
  · obtain ⟨hk, hO2⟩ := hn hc
    have hB2 : Below w.heap.size w w2 := hb.trans (hO2.below hb.size hlow)
    refine Lib.hid ⟨hB2, (end_over (Lib.hid hk)).mono ?_⟩
    rintro e w3 ⟨rfl, hb3⟩
    exact ⟨none, 0, c, (if c = 0 then t.pushed - t.bits.length / 8 else 0), rfl, hk.same (hb3.block x hk.lt), fun h => by rw [if_pos h], (Only.of_below hb3 (fun _ => False)).own hown (fun _ _ h => h), hB2.trans (hb3.mono hB2.size)⟩
theorem out_total1 {s t : M} (h : InfMath.step s = .more t) (h0 : s.out.length = s.total) : t.out.length = t.total := by
  unfold InfMath.step at h
  split at h
  · unfold InfMath.opening at h
    repeat' split at h
    all_goals cases h
    all_goals exact h0
  · unfold InfMath.readSize at h
    repeat' split at h
    all_goals cases h
    all_goals exact h0
  · unfold InfMath.readBytes at h
    repeat' split at h
    all_goals cases h
    · exact h0
    · simp only [InfMath.put, List.length_append, List.length_singleton]; omega
  · unfold InfMath.readHlit at h
    repeat' split at h
    all_goals cases h
    all_goals exact h0
  · unfold InfMath.readHdist at h
    repeat' split at h
    all_goals cases h
    all_goals exact h0
  · unfold InfMath.readHclen at h
    repeat' split at h
    all_goals cases h
    all_goals exact h0
  · unfold InfMath.readCodeLengths at h
    repeat' split at h
    all_goals cases h
    all_goals exact h0
  · unfold InfMath.readLengths InfMath.readLength InfMath.readLen at h
    repeat' split at h
    all_goals cases h
    all_goals exact h0
  · unfold InfMath.readLiteral InfMath.readLit at h
    repeat' split at h
    all_goals cases h
    all_goals first | exact h0 | (simp only [InfMath.put, List.length_append, List.length_singleton]; omega)
  · unfold InfMath.readDistance InfMath.readDist InfMath.copied at h
    repeat' split at h
    all_goals cases h
    all_goals (simp only [List.length_append, WinMath.copy_len]; omega)
  · cases h
/-- All that has come out is counted. -/
theorem out_total {s t : M} (h : InfMath.Steps s t) (h0 : s.out.length = s.total) : t.out.length = t.total := by
  induction h with
  | refl s => exact h0
  | cons h _ ih => exact ih (out_total1 h h0)

set_option maxRecDepth 100000 in
set_option maxHeartbeats 8000000 in
theorem bounds_law (a : Option Addr) (len cap : Nat) (l : List UInt8) (wide : Bool) (m n : Int) (w : World) (hb : Bytes w a len cap l) (hO : Ordr w.heap.size w) :
    Calls Tryd.prog 6 #[.slice a len cap, .bool wide, .int .i64 m, .int .i64 n] w fun e w' => e = .returned (.bool true) ∧ Below w.heap.size w w' := by
  have HO := Lib.hid hO
  have HBy := Lib.hid hb
  have HT := Lib.hid (told_any w hO)
  obtain ⟨P, hP, eP⟩ := un_mod m
  obtain ⟨Q, hQ, eQ⟩ := un_mod n
  clear hO hb
  go_enter Tryd.func6, Tryd.ntmps6
  by_cases h4 : 400 < len
  · go_wp2_with fail
    refine HT.out.mono ?_
    rintro e w1 ⟨rfl, hb⟩
    have HB := Lib.hid hb
    clear hb
    go_wp2_with fail
    go_ret
    exact ⟨rfl, HB.out⟩
  · clear HT
    have HL := Lib.hid h4
    go_upto_region 4 with (fail)
    clear h4
    simp only [eP, eQ]
    clear eP eQ
    by_cases hPQ : Q < P
    · have HPQ : Hid (Q ≤ P ∧ P ≤ 70000) := Lib.hid (by omega)
      clear hP hQ
      go_upto_region 6 with (fail)
      clear hPQ
      have HQ := Lib.hid (inf_new_ok wide 32768 Q w (by omega) (by omega) (by have := HPQ.out; omega))
      go_wp2_with fail
      refine HQ.out.mono ?_
      rintro e w1 ⟨x, d, rfl, hA, hbl, hc4⟩
      have HA := Lib.hid (And.intro hA (And.intro hbl hc4))
      clear hA hbl hc4 HQ
      go_wp2_with fail
      refine (first_push a len cap l HBy.out (by have := HL.out; omega) (by omega) (by omega) (by have := HPQ.out; omega) (Nat.le_refl _) HA.out.2.1 HA.out.1 HA.out.2.2 (HO.out.below (Nat.le_refl _) HA.out.2.1)).mono ?_
      rintro e w2 ⟨t, c, hends, oa, oc, rfl, hown, h5, hn⟩
      have HE := Lib.hid hends
      have HOw := Lib.hid hown
      have hlow : ∀ k, d.c k ≠ 0 → w.heap.size ≤ k := fun k hk => by
        by_cases hlt : k < w.heap.size
        · exact absurd (HA.out.1.rs.low k hlt) hk
        · omega
      have hokt : Ok t := (ok_open (wide := wide) (S := 32768) (most := Q) (p := l.length) (bs := bitsOf l) (by omega) (by omega) (by have := HPQ.out; omega) (by have := HL.out; have := HBy.out.len_eq; omega) (by rw [bitsOf_len]; exact Nat.le_refl _)).steps hends.1
      have htot : t.out.length = t.total := out_total hends.1 rfl
      have hmost : t.total ≤ Q := by have := hokt.room; rw [most_steps hends.1] at this; exact this
      have HEnd : Hid (Below w.heap.size w w2 ∧ Calls Tryd.prog 25 #[.pointer (some ⟨x, 0, none⟩)] w2 fun e w3 => ∃ (oa3 : Option Addr) (oc3 c3 u : Nat), e = .returned (.tuple #[.slice oa3 0 oc3, .int .i64 (c3 : Int)]) ∧ Blk w3 x 72 (overCells t.total c3 u) ∧ (c = 0 → u = t.pushed - t.bits.length / 8) ∧ Own 5 w.heap.size w3 (.slice oa t.out.length oc) t.out ∧ Below w.heap.size w w3) := end_bounds HO.out HA.out.1 HA.out.2.1 hlow hends hokt hown h5 hn
      have HX := Lib.hid (And.intro htot hmost)
      have HK := Lib.hid hokt
      clear hends hown h5 hn hlow hokt htot hmost
      go_wp2_with fail
      refine HEnd.out.2.mono ?_
      rintro e w3 ⟨oa3, oc3, c3, u, rfl, hk3, hu3, ho3, hb3⟩
      have H3 := Lib.hid (And.intro hk3 (And.intro hu3 (And.intro ho3 hb3)))
      clear hk3 hu3 ho3 hb3
      have HTo := Lib.hid (inf_total (Lib.hid H3.out.1) t.total rfl)
      have hlt1 : ¬ ((t.out.length : Int) > (Q : Int)) := by have := HX.out; omega
      have hlt2 : ((t.total : Int) != (t.out.length : Int)) = false := by have := HX.out; simp; omega
      go_wp2_with fail
      refine HTo.out.mono ?_
      rintro e w4 ⟨rfl, rfl⟩
      have HA5 := Lib.hid (all_any wide 32768 P a len cap l w3 (HBy.out.below (Nat.le_refl _) H3.out.2.2.2) (by have := HL.out; omega) (by omega) (by omega) (by have := HPQ.out; omega) (HO.out.up H3.out.2.2.2))
      clear HTo
      go_wp2_with fail
      clear hlt1 hlt2
      refine HA5.out.mono ?_
      rintro e w5 ⟨hb5, t5, c5, he5, hans⟩
      have HB5 := Lib.hid (H3.out.2.2.2.trans (hb5.mono H3.out.2.2.2.size))
      have HT := Lib.hid (told_any w5 (HO.out.up HB5.out))
      have HO5 := Lib.hid ((Only.of_below hb5 (fun _ => False)).own H3.out.2.2.1 (fun _ _ h => h))
      have HK5 := Lib.hid (H3.out.1.same (hb5.block x H3.out.1.lt))
      by_cases h0 : c = 0
      · subst h0
        have hmr := more_room HPQ.out.1 (by have := HPQ.out; omega) (by have := HL.out; have := HBy.out.len_eq; omega) HE.out
        obtain ⟨rfl, rfl⟩ := he5.det hmr
        rcases hans with ⟨-, oa5, oc5, rfl, hown5⟩ | ⟨hne, -⟩
        · have HY := Lib.hid hown5
          have HU := Lib.hid (And.intro (H3.out.2.1 rfl) HK5.out)
          have hU := HU.out.1
          subst hU
          clear hb5 he5 hmr hown5 HA5
          go_wp2_with fail
          refine HT.out.mono ?_
          rintro e w6 ⟨rfl, hb6⟩
          have HB6 := Lib.hid (HB5.out.trans (hb6.mono HB5.out.size))
          have hcv1 := conv_own ((Only.of_below hb6 (fun _ => False)).own HY.out (fun _ _ h => h))
          have hcv2 := conv_own ((Only.of_below hb6 (fun _ => False)).own HO5.out (fun _ _ h => h))
          have HUs := Lib.hid (inf_used (Lib.hid (HU.out.2.same (hb6.block x HU.out.2.lt))) (t.pushed - t.bits.length / 8) rfl)
          obtain ⟨u9, hu9⟩ : ∃ u9, u9 = t.pushed - t.bits.length / 8 := ⟨_, rfl⟩
          rw [← hu9] at HUs ⊢
          clear hb6 hu9
          go_wp2_with fail
          refine HUs.out.mono ?_
          rintro e w7 ⟨rfl, rfl⟩
          go_wp2_with fail
          go_ret
          exact ⟨rfl, HB6.out⟩
        · exact absurd rfl hne
      · have hz : ((c : Int) != 0) = true := by simp; omega
        obtain ⟨av, ai, ac, hav⟩ : ∃ (av : Value) (ai ac : Int), e = .returned (.tuple #[av, .int .i64 ai, .int .i64 ac]) := by
          rcases hans with ⟨-, oa5, oc5, rfl, -⟩ | ⟨-, rfl⟩
          · exact ⟨_, _, _, rfl⟩
          · exact ⟨_, _, _, rfl⟩
        subst hav
        clear hb5 he5 hans h0 HA5
        go_wp2_with fail
        refine HT.out.mono ?_
        rintro e w6 ⟨rfl, hb6⟩
        have HB6 := Lib.hid (HB5.out.trans (hb6.mono HB5.out.size))
        clear hb6
        go_wp2_with fail
        go_ret
        exact ⟨rfl, HB6.out⟩
    · have HPQ : Hid (P ≤ Q ∧ Q ≤ 70000) := Lib.hid (by omega)
      clear hP hQ
      go_upto_region 6 with (fail)
      clear hPQ
      have HQ := Lib.hid (inf_new_ok wide 32768 P w (by omega) (by omega) (by have := HPQ.out; omega))
      go_wp2_with fail
      refine HQ.out.mono ?_
      rintro e w1 ⟨x, d, rfl, hA, hbl, hc4⟩
      have HA := Lib.hid (And.intro hA (And.intro hbl hc4))
      clear hA hbl hc4 HQ
      go_wp2_with fail
      refine (first_push a len cap l HBy.out (by have := HL.out; omega) (by omega) (by omega) (by have := HPQ.out; omega) (Nat.le_refl _) HA.out.2.1 HA.out.1 HA.out.2.2 (HO.out.below (Nat.le_refl _) HA.out.2.1)).mono ?_
      rintro e w2 ⟨t, c, hends, oa, oc, rfl, hown, h5, hn⟩
      have HE := Lib.hid hends
      have HOw := Lib.hid hown
      have hlow : ∀ k, d.c k ≠ 0 → w.heap.size ≤ k := fun k hk => by
        by_cases hlt : k < w.heap.size
        · exact absurd (HA.out.1.rs.low k hlt) hk
        · omega
      have hokt : Ok t := (ok_open (wide := wide) (S := 32768) (most := P) (p := l.length) (bs := bitsOf l) (by omega) (by omega) (by have := HPQ.out; omega) (by have := HL.out; have := HBy.out.len_eq; omega) (by rw [bitsOf_len]; exact Nat.le_refl _)).steps hends.1
      have htot : t.out.length = t.total := out_total hends.1 rfl
      have hmost : t.total ≤ P := by have := hokt.room; rw [most_steps hends.1] at this; exact this
      have HEnd : Hid (Below w.heap.size w w2 ∧ Calls Tryd.prog 25 #[.pointer (some ⟨x, 0, none⟩)] w2 fun e w3 => ∃ (oa3 : Option Addr) (oc3 c3 u : Nat), e = .returned (.tuple #[.slice oa3 0 oc3, .int .i64 (c3 : Int)]) ∧ Blk w3 x 72 (overCells t.total c3 u) ∧ (c = 0 → u = t.pushed - t.bits.length / 8) ∧ Own 5 w.heap.size w3 (.slice oa t.out.length oc) t.out ∧ Below w.heap.size w w3) := end_bounds HO.out HA.out.1 HA.out.2.1 hlow hends hokt hown h5 hn
      have HX := Lib.hid (And.intro htot hmost)
      have HK := Lib.hid hokt
      clear hends hown h5 hn hlow hokt htot hmost
      go_wp2_with fail
      refine HEnd.out.2.mono ?_
      rintro e w3 ⟨oa3, oc3, c3, u, rfl, hk3, hu3, ho3, hb3⟩
      have H3 := Lib.hid (And.intro hk3 (And.intro hu3 (And.intro ho3 hb3)))
      clear hk3 hu3 ho3 hb3
      have HTo := Lib.hid (inf_total (Lib.hid H3.out.1) t.total rfl)
      have hlt1 : ¬ ((t.out.length : Int) > (P : Int)) := by have := HX.out; omega
      have hlt2 : ((t.total : Int) != (t.out.length : Int)) = false := by have := HX.out; simp; omega
      go_wp2_with fail
      refine HTo.out.mono ?_
      rintro e w4 ⟨rfl, rfl⟩
      have HA5 := Lib.hid (all_any wide 32768 Q a len cap l w3 (HBy.out.below (Nat.le_refl _) H3.out.2.2.2) (by have := HL.out; omega) (by omega) (by omega) (by have := HPQ.out; omega) (HO.out.up H3.out.2.2.2))
      clear HTo
      go_wp2_with fail
      clear hlt1 hlt2
      refine HA5.out.mono ?_
      rintro e w5 ⟨hb5, t5, c5, he5, hans⟩
      have HB5 := Lib.hid (H3.out.2.2.2.trans (hb5.mono H3.out.2.2.2.size))
      have HT := Lib.hid (told_any w5 (HO.out.up HB5.out))
      have HO5 := Lib.hid ((Only.of_below hb5 (fun _ => False)).own H3.out.2.2.1 (fun _ _ h => h))
      have HK5 := Lib.hid (H3.out.1.same (hb5.block x H3.out.1.lt))
      by_cases h0 : c = 0
      · subst h0
        have hmr := more_room HPQ.out.1 (by have := HPQ.out; omega) (by have := HL.out; have := HBy.out.len_eq; omega) HE.out
        obtain ⟨rfl, rfl⟩ := he5.det hmr
        rcases hans with ⟨-, oa5, oc5, rfl, hown5⟩ | ⟨hne, -⟩
        · have HY := Lib.hid hown5
          have HU := Lib.hid (And.intro (H3.out.2.1 rfl) HK5.out)
          have hU := HU.out.1
          subst hU
          clear hb5 he5 hmr hown5 HA5
          go_wp2_with fail
          refine HT.out.mono ?_
          rintro e w6 ⟨rfl, hb6⟩
          have HB6 := Lib.hid (HB5.out.trans (hb6.mono HB5.out.size))
          have hcv1 := conv_own ((Only.of_below hb6 (fun _ => False)).own HY.out (fun _ _ h => h))
          have hcv2 := conv_own ((Only.of_below hb6 (fun _ => False)).own HO5.out (fun _ _ h => h))
          have HUs := Lib.hid (inf_used (Lib.hid (HU.out.2.same (hb6.block x HU.out.2.lt))) (t.pushed - t.bits.length / 8) rfl)
          obtain ⟨u9, hu9⟩ : ∃ u9, u9 = t.pushed - t.bits.length / 8 := ⟨_, rfl⟩
          rw [← hu9] at HUs ⊢
          clear hb6 hu9
          go_wp2_with fail
          refine HUs.out.mono ?_
          rintro e w7 ⟨rfl, rfl⟩
          go_wp2_with fail
          go_ret
          exact ⟨rfl, HB6.out⟩
        · exact absurd rfl hne
      · have hz : ((c : Int) != 0) = true := by simp; omega
        obtain ⟨av, ai, ac, hav⟩ : ∃ (av : Value) (ai ac : Int), e = .returned (.tuple #[av, .int .i64 ai, .int .i64 ac]) := by
          rcases hans with ⟨-, oa5, oc5, rfl, -⟩ | ⟨-, rfl⟩
          · exact ⟨_, _, _, rfl⟩
          · exact ⟨_, _, _, rfl⟩
        subst hav
        clear hb5 he5 hans h0 HA5
        go_wp2_with fail
        refine HT.out.mono ?_
        rintro e w6 ⟨rfl, hb6⟩
        have HB6 := Lib.hid (HB5.out.trans (hb6.mono HB5.out.size))
        clear hb6
        go_wp2_with fail
        go_ret
        exact ⟨rfl, HB6.out⟩
end Go.Proofs.YtkaagenmkjkaeaaDoor.InfC
end
