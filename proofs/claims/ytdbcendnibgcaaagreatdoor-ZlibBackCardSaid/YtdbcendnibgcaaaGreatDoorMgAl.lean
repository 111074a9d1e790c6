import Derived.Test.YtdbcendnibgcaaaGreatDoorMgAk
import Derived.Laws.MakeOwn
import Derived.Test.YtdbcendnibgcaaaGreatDoorMgAj
import Derived.Deep.RegionLaw

section
namespace Go.Proofs.YtdbcendnibgcaaaGreatDoor.FeedC
open Go.RowKit Go.My BitMath RefC

theorem bitsOf_take (l : List UInt8) (k : Nat) : (bitsOf l).take (8 * k) = bitsOf (l.take k) := by
  by_cases h : k ≤ l.length
  · conv => lhs; rw [← List.take_append_drop k l, bitsOf_append]
    rw [List.take_append_of_le_length (by rw [bitsOf_len, List.length_take]; omega)]
    exact List.take_of_length_le (by rw [bitsOf_len, List.length_take]; omega)
  · rw [List.take_of_length_le (l := l) (by omega)]
    exact List.take_of_length_le (by rw [bitsOf_len]; omega)

/-- The first bytes of a word. -/
def wb (word j : Nat) : List UInt8 := (List.range j).map fun i => UInt8.ofNat (word / 2 ^ (8 * i))
theorem wb_len (word j : Nat) : (wb word j).length = j := by simp [wb]
theorem wb_succ (word j : Nat) : wb word (j + 1) = wb word j ++ [UInt8.ofNat (word / 2 ^ (8 * j))] := by simp [wb, List.range_succ]
theorem wb_bits (word j : Nat) : bitsOf (wb word j) = lows (8 * j) word := by
  induction j with
  | zero => rfl
  | succ j ih =>
    rw [wb_succ, bitsOf_append, ih, bitsOf_one, Nat.mul_add, lows_add]
    congr 1
    rw [UInt8.toNat_ofNat']
    exact lows_mod 8 _

set_option maxRecDepth 100000 in
set_option maxHeartbeats 4000000 in
theorem next_any (B f q : Nat) (ps : List Pc) (word count pushed n : Nat) (ended : Bool) (w : World) (h : FAt B w f q ps word count pushed ended) (h8 : count % 8 = 0) (hn : 8 * n ≤ count + 8 * (cat ps).length) (hl : (cat ps).length ≤ 10000000000) :
    Calls Tryz.prog 109 #[.pointer (some ⟨f, 0, none⟩), .int .i64 (n : Int)] w fun e w' => ∃ v l, e = .returned v ∧ Own 5 w.heap.size w' v l ∧ Below w.heap.size w w' ∧ bitsOf l = (bits' word count ps).take (8 * n) := by
  have HA := Lib.hid h
  have hmo := h.most
  have hwl := h.word_lt
  obtain ⟨K, hK1, hK2, hK3, hmin⟩ : ∃ K : Nat, K ≤ n ∧ 8 * K ≤ count ∧ (n = K ∨ 8 * K = count) ∧ (if (count : Int) / 8 < (n : Int) then (count : Int) / 8 else (n : Int)) = (K : Int) := by
    by_cases hm : (count : Int) / 8 < (n : Int)
    · exact ⟨count / 8, by omega, by omega, by omega, by rw [if_pos hm]; omega⟩
    · exact ⟨n, by omega, by omega, by omega, by rw [if_neg hm]⟩
  have HK := Lib.hid hK3
  have hn2 : n ≤ 10000000008 := by omega
  have hc1 : ∀ w', Below w.heap.size w w' → w'.cell? ⟨f, 1, none⟩ = some (.int .i64 (count : Int)) := fun w' hb => by
    rw [hb.cell (p := ⟨f, 1, none⟩) h.blk.lt]; exact h.blk.cell 1
  have hc0 : ∀ w', Below w.heap.size w w' → w'.cell? ⟨f, 0, none⟩ = some (.int .u64 (word : Int)) := fun w' hb => by
    rw [hb.cell (p := ⟨f, 0, none⟩) h.blk.lt]; exact h.blk.cell 0
  have hc2 : ∀ w', Below w.heap.size w w' → w'.cell? ⟨f, 2, none⟩ = some (.pointer (some ⟨q, 0, none⟩)) := fun w' hb => by
    rw [hb.cell (p := ⟨f, 2, none⟩) h.blk.lt]; exact h.blk.cell 2
  have HC0 := Lib.hid hc0
  have HC1 := Lib.hid hc1
  have HC2 := Lib.hid hc2
  clear h hc0 hc1 hc2 hK3
  go_enter Tryz.func109, Tryz.ntmps109
  go_wp2_with (at_make; refine wpList_make_cap _ rfl _ _ 22 rfl w.heap.size 5 Tryz.underlying22 info5 .i64 .i64 _ n rfl rfl rfl (by omega) (Nat.le_refl _) ?_)
  intro w1 hown hg
  have hb1 := grown_none_below (Below.refl w.heap.size w) hg (Nat.le_refl _)
  have hc1 := HC1.out w1 hb1
  have HO1 : Hid (Own 5 w.heap.size w1 (.slice (some ⟨w.heap.size, 0, none⟩) 0 n) (wb word 0)) := Lib.hid hown
  have HB1 := Lib.hid hb1
  clear hown hg hb1
  go_wp2_with fail
  clear hc1
  generalize hG : w.heap.size = G at *
  go_loopw [5, 16] (fun sb iv wr => ∃ (j : Nat) (a : Option Addr) (cap : Nat), j ≤ K ∧ iv = .int .i64 (j : Int) ∧ sb = .slice a j cap ∧ Hid (Own 5 G wr (.slice a j cap) (wb word j)) ∧ Hid (Below G w wr)) (fun _ iv _ => K - (intOf iv).toNat)
  case atStart => exact ⟨0, _, _, by omega, rfl, rfl, HO1, HB1⟩
  case round =>
    clear HO1 HB1
    obtain ⟨j, a, cap, hj, rfl, rfl, HO, HB⟩ := hrel
    by_cases hlt : j < K
    · have hc0 := HC0.out wr HB.out
      have hcb : (wr.alloc (.cells #[.int .u8 ((word : Int) / 2 ^ (8 * j) % 256)] 5)) = wr.alloc (.cells #[.int .u8 ((UInt8.ofNat (word / 2 ^ (8 * j))).toNat : Int)] 5) := by
        have e : ((word / 2 ^ (8 * j) : Nat) : Int) = (word : Int) / 2 ^ (8 * j) := by push_cast; rfl
        rw [UInt8.toNat_ofNat', ← e]; rfl
      have hnb : Bytes (wr.alloc (.cells #[.int .u8 ((word : Int) / 2 ^ (8 * j) % 256)] 5)) (some ⟨wr.heap.size, 0, none⟩) 1 1 [UInt8.ofNat (word / 2 ^ (8 * j))] := by
        rw [hcb]; exact one_bytes 5 wr _
      have HNB := Lib.hid hnb
      have hGs : G ≤ wr.heap.size := by have := HB.out.size; omega
      have hwl2 := wb_len word j
      clear hcb hnb
      go_wp2_with (at_builtin; refine wpList_append_lie (by rfl) (.tmp 19) (.tmp 28) 22 rfl G 5 Tryz.underlying22 info5 (.slice a j cap) (wb word j) rfl (HO.out.below (Nat.le_refl _) ((Below.refl _ wr).alloc (Nat.le_refl _) _)) (some ⟨wr.heap.size, 0, none⟩) 1 1 [UInt8.ofNat (word / 2 ^ (8 * j))] rfl HNB.out (by omega) (by simp; omega) ?_)
      intro a3 c3 w3 hown hgrow hnext
      have HO3 : Hid (Own 5 G w3 (.slice a3 (j + 1) c3) (wb word (j + 1))) := Lib.hid (by rw [wb_succ]; exact hown)
      have HB3 : Hid (Below G w w3) := Lib.hid ((HB.out.alloc hGs _).grown hgrow (by simp; omega) (fun k hk => (World.ownsRow.lt HO.out k hk).1))
      clear hown hgrow hnext
      clear hwl2 hc0
      go_wp2_with fail
      go_roundw
      case rel => exact ⟨j + 1, a3, c3, by omega, by go_num, rfl, HO3, HB3⟩
      case measure => simp [intOf]; omega
    · obtain rfl : j = K := by omega
      have hc2 := HC2.out wr HB.out
      go_wp2_with fail
      subst hG
      have hq := HA.out.que.below HB.out
      refine (complete_any B q _ w.heap.size n ps wr hq (fun k hk => (HA.out.que.lt k hk).2) HB.out.size a j cap (wb word j) HO.out (wb_len _ _) hK1 (by have := HK.out; omega) (by omega)).mono ?_
      rintro e w5 ⟨v, rfl, hv, hb⟩
      have HV := Lib.hid hv
      have HB5 := Lib.hid (HB.out.trans hb)
      clear hv hb hq
      go_wp2_with fail
      go_ret
      refine ⟨v, _, rfl, HV.out, HB5.out, ?_⟩
      rw [bitsOf_append, wb_bits]
      unfold bits'
      rcases HK.out with e | e
      · subst e
        rw [Nat.sub_self, List.take_zero, bitsOf_nil, List.append_nil, List.take_append_of_le_length (by rw [lows_len]; omega)]
        have e := lows_add (8 * n) (count - 8 * n) word
        rw [show 8 * n + (count - 8 * n) = count from by omega] at e
        rw [e, List.take_append_of_le_length (by rw [lows_len]; omega), List.take_of_length_le (by rw [lows_len]; omega)]
      · rw [e, List.take_append (l₁ := lows count word), lows_len, List.take_of_length_le (l := lows count word) (by rw [lows_len]; omega)]
        congr 1
        rw [show 8 * n - count = 8 * (n - j) from by omega]
        exact (bitsOf_take _ _).symm
end Go.Proofs.YtdbcendnibgcaaaGreatDoor.FeedC
end

section
namespace Go.Proofs.YtdbcendnibgcaaaGreatDoor.FeedC
open Go.RowKit Go.My BitMath RefC

/-- What the loop of push keeps. -/
structure Pushes (B q n : Nat) (ps0 : List Pc) (w : World) (l : List UInt8) (k : Nat) (wr : World) (ps : List Pc) (a : Option Addr) (len cap : Nat) : Prop where
  at_ : QAt B wr q ps n
  cat_ : cat ps = cat ps0 ++ l.take k
  only : Only (QFoot q ps0) w wr
  next : ∀ j, QFoot q ps j → QFoot q ps0 j ∨ w.heap.size ≤ j
  bytes : Bytes w a len cap (l.drop k)
  far : ∀ b off, a = some ⟨b, off, none⟩ → ¬ QFoot q ps0 b

/-- The state behind 'if q.last == nil || len(q.last.data) == room': there is a last piece, with room. -/
structure Roomy (B q n : Nat) (ps0 : List Pc) (w : World) (l : List UInt8) (k : Nat) (wr : World) (xs : List Pc) (z : Pc) (a : Option Addr) (len cap : Nat) : Prop where
  p : Pushes B q n ps0 w l k wr (xs ++ [z]) a len cap
  room : z.l.length < 64

theorem Pushes.bytesAt {B q n : Nat} {ps0 : List Pc} {w : World} {l : List UInt8} {k : Nat} {wr : World} {ps : List Pc} {a : Option Addr} {len cap : Nat} (h : Pushes B q n ps0 w l k wr ps a len cap) : Bytes wr a len cap (l.drop k) :=
  h.only.bytes h.bytes h.far

theorem Pushes.extended {B q n : Nat} {ps0 : List Pc} {w : World} {l : List UInt8} {k : Nat} {wr w2 : World} {ps : List Pc} {a : Option Addr} {len cap : Nat} (h : Pushes B q n ps0 w l k wr ps a len cap) {e : Ending} (he : Extended B q n ps wr e w2) :
    e = .returned (.tuple #[]) ∧ ∃ xs z, Roomy B q n ps0 w l k w2 xs z a len cap := by
  obtain ⟨rfl, p, hp, hq, ho, hg, hd⟩ := he
  refine ⟨rfl, ps, p, ⟨hq, ?_, ?_, ?_, h.bytes, h.far⟩, by rw [hp]; simp⟩
  · rw [cat_append, cat_one, hp, List.append_nil, h.cat_]
  · refine h.only.trans ho (fun i hi hT => ?_)
    rcases h.next i hT with h | h
    · exact h
    · omega
  · intro j hj
    rcases hj with rfl | ⟨r, hr, hj⟩
    · exact h.next _ (.inl rfl)
    · rcases List.mem_append.1 hr with hr | hr
      · exact h.next _ (.inr ⟨r, hr, hj⟩)
      · simp at hr; subst hr
        have := h.only.size
        rcases hj with rfl | rfl <;> right <;> omega

theorem push_step {B q n : Nat} {ps0 : List Pc} {w : World} {l : List UInt8} {k : Nat} {w2 w3 : World} {xs : List Pc} {z : Pc} {a a1 : Option Addr} {len cap c1 M : Nat} (h : Roomy B q n ps0 w l k w2 xs z a len cap) (h0 : 0 < M) (_h1 : M ≤ len) (h2 : z.l.length + M ≤ 64)
    (hown : Own 5 B w3 (.slice a1 (z.l.length + M) c1) (z.l ++ (l.drop k).take M)) (hgrow : w2.drew.grownBy w3 (Value.ownBlock (.slice (some ⟨z.d, 0, none⟩) z.l.length z.c)))
    (hnext : Nxt (Value.ownBlock (.slice (some ⟨z.d, 0, none⟩) z.l.length z.c)) w2.drew.heap.size (Value.ownBlock (.slice a1 (z.l.length + M) c1))) :
    ∀ a2 len2 cap2, Bytes w a2 len2 cap2 (l.drop (k + M)) → (∀ b off, a2 = some ⟨b, off, none⟩ → ¬ QFoot q ps0 b) →
      ∃ ps2, Pushes B q n ps0 w l (k + M) (w3.setCell ⟨z.g, 0, none⟩ (.slice a1 (z.l.length + M) c1)) ps2 a2 len2 cap2 := by
  intro a2 len2 cap2 hb hf
  have hlen : (z.l ++ (l.drop k).take M).length = z.l.length + M := by have := h.p.bytes.len_eq; simp at this ⊢; omega
  obtain ⟨d', c', heq, _, _, _⟩ := hown.some_ (by rw [hlen]; omega)
  simp only [Value.slice.injEq] at heq
  obtain ⟨rfl, -, rfl⟩ := heq
  have hq := h.p.at_
  have hpc := (Chain.append.1 hq.chain).2.1
  have hqz : z.g ≠ q := Blk.ne hpc.blk hq.blk (by decide)
  have hO1 : Only (fun k => some z.d = some k) w2 w3 := ((Only.refl _ w2).drew.grown hgrow fun k _ hk => hk)
  have hT1 : Only (Turns q z) w2 w3 := hO1.mono (fun k _ e => .inr (.inr (Option.some.inj e).symm))
  have hO2 : Only (Turns q z) w2 (w3.setCell ⟨z.g, 0, none⟩ (.slice (some ⟨d', 0, none⟩) (z.l.length + M) c1)) := hT1.setCell (p := ⟨z.g, 0, none⟩) (fun _ => .inr (.inl rfl)) _
  have hzd : some z.d ≠ some z.g := fun e => hpc.far hpc.blk (by decide) (Option.some.inj e)
  have hdg : d' ≠ z.g := by
    have h3 := hO1.blk hpc.blk (fun e => hzd e)
    intro e
    exact own_len_ne hown h3 (by decide) (by simp [Value.ownBlock, e])
  have hdn : d' = z.d ∨ w2.heap.size ≤ d' := by
    rcases hnext with e | ⟨j, e, hj⟩
    · simp [Value.ownBlock] at e; exact .inl e
    · simp [Value.ownBlock] at e; subst e; exact .inr hj
  have hqd : some z.d ≠ some q := fun e => hpc.far hq.blk (by decide) (Option.some.inj e)
  have hbq := (hO1.blk hq.blk (fun e => hqd e)).set_far hqz 0 (.slice (some ⟨d', 0, none⟩) (z.l.length + M) c1)
  have hbz := (hO1.blk hpc.blk (fun e => hzd e)).set_ 0 (.slice (some ⟨d', 0, none⟩) (z.l.length + M) c1)
  have hown' := (Only.own (S := fun k => k = z.g) ((Only.refl (fun k => k = z.g) w3).setCell (p := ⟨z.g, 0, none⟩) (fun _ => rfl) (.slice (some ⟨d', 0, none⟩) (z.l.length + M) c1)) hown (fun k e => by simp [Value.ownBlock] at e; subst e; exact hdg))
  have hp2 : PcAt B (w3.setCell ⟨z.g, 0, none⟩ (.slice (some ⟨d', 0, none⟩) (z.l.length + M) c1)) ⟨z.g, d', c1, z.l ++ (l.drop k).take M⟩ (hd [] none) := by
    refine ⟨?_, ?_, hpc.base, ?_⟩
    · simp only [hlen]; exact hbz
    · simp only [hlen]; exact hown'
    · simp only [hlen]; omega
  have hQ := hq.turned hO2 hp2 rfl hdn hbq (fun e => absurd rfl e)
  have hTF : ∀ k, Turns q z k → QFoot q (xs ++ [z]) k := by
    rintro k (e | e | e)
    · exact .inl e
    · exact .inr ⟨z, by simp, .inl e⟩
    · exact .inr ⟨z, by simp, .inr e⟩
  refine ⟨_, hQ, ?_, h.p.only.trans hO2 (fun i hi e => ?_), ?_, hb, hf⟩
  · have hc := h.p.cat_
    rw [cat_append, cat_one] at hc ⊢
    rw [← List.append_assoc, hc, List.append_assoc, List.take_add]
  · rcases h.p.next i (hTF i e) with h | h
    · exact h
    · omega
  · intro j hj
    have hsz := h.p.only.size
    have hold : QFoot q (xs ++ [z]) j ∨ w.heap.size ≤ j := by
      rcases hj with hj | ⟨r, hr, hj⟩
      · exact .inl (.inl hj)
      · rcases List.mem_append.1 hr with hr | hr
        · exact .inl (.inr ⟨r, by simp [hr], hj⟩)
        · simp at hr; subst hr
          rcases hj with hj | hj
          · exact .inl (.inr ⟨z, by simp, .inl hj⟩)
          · rcases hdn with e | e
            · exact .inl (.inr ⟨z, by simp, .inr (by rw [hj]; exact e)⟩)
            · right; rw [hj]; simp only; omega
    rcases hold with h1 | h1
    · exact h.p.next j h1
    · exact .inr h1

theorem Bytes.dropIf {w : World} {b off len cap : Nat} {l : List UInt8} (h : Bytes w (some ⟨b, off, none⟩) len cap l) (k : Nat) (hk : k ≤ len) : Bytes w (if cap = k then some ⟨b, off, none⟩ else some ⟨b, off + k, none⟩) (len - k) (cap - k) (l.drop k) := by
  split
  · have := h.le_cap
    have h2 := h.drop k hk
    exact ⟨h2.1, h2.2, h2.3, (fun e => by cases e), .inl (by omega)⟩
  · exact h.drop k hk
theorem farIf {b off k cap : Nat} {P : Nat → Prop} (h : ¬ P b) : ∀ b1 off1, (if cap = k then some (⟨b, off, none⟩ : Addr) else some ⟨b, off + k, none⟩) = some ⟨b1, off1, none⟩ → ¬ P b1 := by
  intro b1 off1 e
  split at e <;> (simp at e; obtain ⟨rfl, _⟩ := e; exact h)

set_option maxRecDepth 100000 in
set_option maxHeartbeats 4000000 in
theorem push_any (B q n : Nat) (ps : List Pc) (w : World) (h : QAt B w q ps n) (a : Option Addr) (len cap : Nat) (l : List UInt8) (hb : Bytes w a len cap l) (hfar : ∀ b off, a = some ⟨b, off, none⟩ → ¬ QFoot q ps b) (hn : n ≤ 100000000000) (hl : len ≤ 100000000000) :
    Calls Tryz.prog 71 #[.pointer (some ⟨q, 0, none⟩), .slice a len cap] w fun e w' => e = .returned (.tuple #[]) ∧ ∃ ps', QAt B w' q ps' (n + len) ∧ cat ps' = cat ps ++ l ∧ Only (QFoot q ps) w w' ∧ ∀ j, QFoot q ps' j → QFoot q ps j ∨ w.heap.size ≤ j := by
  have hq2 := h.blk.cell 2
  have hf2 := h.blk.frozen 2
  simp only [List.getElem?_toArray, List.getElem?_cons_zero, List.getElem?_cons_succ] at hq2
  have hP0 : Pushes B q (n + len) ps w l 0 (w.setCell ⟨q, 2, none⟩ (.int .i64 ((n : Int) + (len : Int)))) ps a len cap := by
    have hO : Only (fun k => k = q) w (w.setCell ⟨q, 2, none⟩ (.int .i64 ((n : Int) + (len : Int)))) := (Only.refl (fun k => k = q) w).setCell (p := ⟨q, 2, none⟩) (fun _ => rfl) _
    refine ⟨⟨h.blk.set_ 2 _, Chain.only hO h.chain (fun k hk e => h.far (e ▸ hk)), h.apart, h.full, h.base⟩, by simp, hO.mono (fun k _ e => .inl e), fun j hj => .inl hj, hb, hfar⟩
  have HP0 := Lib.hid hP0
  have HL := Lib.hid hb.len_eq
  clear h hb hfar hP0
  go_enter Tryz.func71, Tryz.ntmps71
  go_wp2_with fail
  generalize w.setCell ⟨q, 2, none⟩ (.int .i64 ((n : Int) + (len : Int))) = w1 at *
  clear hq2 hf2
  go_loopw [1] (fun sb wr => ∃ (k : Nat) (ps' : List Pc) (a' : Option Addr) (len' cap' : Nat), sb = .slice a' len' cap' ∧ len' ≤ 100000000000 ∧ Hid (Pushes B q (n + len) ps w l k wr ps' a' len' cap')) (fun sb _ => match sb with | .slice _ n _ => n | _ => 0)
  case atStart => exact ⟨0, ps, a, len, cap, rfl, hl, HP0⟩
  case round =>
    clear HP0
    obtain ⟨k, ps', a', len', cap', rfl, hl', HP⟩ := hrel
    by_cases h0 : 0 < len'
    · have h0i : (0 : Int) < (len' : Int) := by omega
      obtain ⟨b', off', rfl⟩ := HP.out.bytes.some_ h0
      have hways : ps' = [] ∨ (∃ xs z, ps' = xs ++ [z] ∧ z.l.length = 64) ∨ (∃ xs z, ps' = xs ++ [z] ∧ z.l.length < 64) := by
        rcases List.eq_nil_or_concat ps' with h | ⟨xs, z, h⟩
        · exact .inl h
        · rw [List.concat_eq_append] at h
          subst h
          have := (Chain.append.1 HP.out.at_.chain).2.1.most
          by_cases h : z.l.length = 64
          · exact .inr (.inl ⟨xs, z, rfl, h⟩)
          · exact .inr (.inr ⟨xs, z, rfl, by omega⟩)
      rcases hways with rfl | ⟨xs, z, rfl, hz⟩ | ⟨ys, y, rfl, hz⟩
      case' inl =>
        have hq1 := HP.out.at_.blk.cell 1
        simp only [List.getElem?_toArray, List.getElem?_cons_zero, List.getElem?_cons_succ, List.getLast?_nil, Option.map_none] at hq1
        go_wp2_with fail
        refine (extend_any B q (n + len) _ wr HP.out.at_ (by simp)).mono ?_
        intro e w2 he
        obtain ⟨rfl, ys, y, hr⟩ := HP.out.extended he
        have HR := Lib.hid hr
        clear he hr hq1 HP
        have hroom := HR.out.room
        have hq1 := HR.out.p.at_.blk.cell 1
        have hz0 := (Chain.append.1 HR.out.p.at_.chain).2.1.blk.cell 0
        simp only [List.getElem?_toArray, List.getElem?_cons_zero, List.getElem?_cons_succ, (hd_getLast ys y y).2.1, Option.map_some] at hq1 hz0
        go_wp2_with fail
      case' inr.inl =>
        have hq1 := HP.out.at_.blk.cell 1
        have hz0 := (Chain.append.1 HP.out.at_.chain).2.1.blk.cell 0
        simp only [List.getElem?_toArray, List.getElem?_cons_zero, List.getElem?_cons_succ, (hd_getLast xs z z).2.1, Option.map_some, hz] at hq1 hz0
        have HZ := Lib.hid hz
        clear hz
        go_wp2_with fail
        refine (extend_any B q (n + len) _ wr HP.out.at_ (fun p hp => by have := HZ.out; simp at hp; subst hp; intro e; rw [e] at this; simp at this)).mono ?_
        intro e w2 he
        obtain ⟨rfl, ys, y, hr⟩ := HP.out.extended he
        have HR := Lib.hid hr
        clear he hr hq1 hz0 HP HZ
        have hroom := HR.out.room
        have hq1 := HR.out.p.at_.blk.cell 1
        have hz0 := (Chain.append.1 HR.out.p.at_.chain).2.1.blk.cell 0
        simp only [List.getElem?_toArray, List.getElem?_cons_zero, List.getElem?_cons_succ, (hd_getLast ys y y).2.1, Option.map_some] at hq1 hz0
        go_wp2_with fail
      case' inr.inr =>
        obtain ⟨w2, rfl⟩ : ∃ w2, w2 = wr := ⟨_, rfl⟩
        have HR : Hid (Roomy B q (n + len) ps w l k w2 ys y (some ⟨b', off', none⟩) len' cap') := Lib.hid ⟨HP.out, hz⟩
        have hzi : ((y.l.length : Int) == 64) = false := by simp; omega
        clear HP hz
        have hroom := HR.out.room
        have hq1 := HR.out.p.at_.blk.cell 1
        have hz0 := (Chain.append.1 HR.out.p.at_.chain).2.1.blk.cell 0
        simp only [List.getElem?_toArray, List.getElem?_cons_zero, List.getElem?_cons_succ, (hd_getLast ys y y).2.1, Option.map_some] at hq1 hz0
        go_wp2_with fail
        clear hzi
      all_goals
        have hzf := (Chain.append.1 HR.out.p.at_.chain).2.1.blk.frozen 0
        have hM : ∃ M : Nat, 0 < M ∧ M ≤ len' ∧ y.l.length + M ≤ 64 ∧ ((M : Int) = (len' : Int) ∧ (len' : Int) ≤ 64 - (y.l.length : Int) ∨ (M : Int) = 64 - (y.l.length : Int) ∧ 64 - (y.l.length : Int) < (len' : Int)) := by
          first
            | exact ⟨len', by omega, by omega, by omega, .inl ⟨rfl, by omega⟩⟩
            | exact ⟨64 - y.l.length, by omega, by omega, by omega, .inr ⟨by omega, by omega⟩⟩
        obtain ⟨M, hM0, hM1, hM2, hM3⟩ := hM
        first
          | (have e : (M : Int) = 64 - (y.l.length : Int) := by omega
             rw [← e]
             clear e)
          | (have e : (M : Int) = (len' : Int) := by omega
             rw [← e]
             clear e)
        clear hM3 h
        have hMc : M ≤ cap' := by have := HR.out.p.bytes.le_cap; omega
        have hpc := (Chain.append.1 HR.out.p.at_.chain).2.1
        have hown := hpc.own
        have hbq := HR.out.p.at_.blk
        rw [(hd_getLast ys y y).2.1, Option.map_some] at hbq
        have hbg := hpc.blk
        have hnq : some q ≠ some y.d := fun e => hpc.far hbq (by decide) (Option.some.inj e).symm
        have hng : some y.g ≠ some y.d := fun e => hpc.far hbg (by decide) (Option.some.inj e).symm
        have hsrc := HR.out.p.bytesAt.take M hM1
        have hBs : B ≤ w2.heap.size := by have := hpc.base; have := hpc.blk.lt; omega
        clear hpc
        obtain ⟨lm, hlm⟩ : ∃ lm, lm = (l.drop k).take M := ⟨_, rfl⟩
        rw [← hlm] at hsrc
        have HLM := Lib.hid hlm
        clear hlm
        go_region_law
          ((refine step_append_lie (by rfl) _ _ _ (by rfl) B 5 Tryz.underlying22 info5 (.slice (some ⟨y.d, 0, none⟩) y.l.length y.c) y.l (by rfl) (hown.below (Nat.le_refl _) (Below.refl _ w2).drew) (some ⟨b', off', none⟩) M cap' lm (by rfl) (hsrc.below (Nat.le_refl _) (Below.refl _ w2).drew) (by omega) hBs ?_; intro a1 c1 w3 hown1 hgrow hnext; have hb2 := hbq.drew.grown hgrow hnq; have hb3 := hbg.drew.grown hgrow hng; have e0 : w3.cell? ⟨q, 1, none⟩ = some (.pointer (some ⟨y.g, 0, none⟩)) := hb2.cell 1; have e1 : w3.cell? ⟨y.g, 0, none⟩ = some (.slice (some ⟨y.d, 0, none⟩) y.l.length y.c) := hb3.cell 0; have f1 := hb3.frozen 0))
        all_goals
          have HX := Lib.hid (push_step HR.out hM0 hM1 hM2 (by rw [← HLM.out]; exact hown1) hgrow hnext)
          have HXX := HX.out _ _ _ (by rw [← List.drop_drop]; exact Bytes.dropIf HR.out.p.bytes M hM1) (farIf (HR.out.p.far b' off' rfl))
          obtain ⟨ps2, hp2⟩ := HXX
          have HP2 := Lib.hid hp2
          generalize w3.setCell ⟨y.g, 0, none⟩ (.slice a1 (y.l.length + M) c1) = w4 at *
          clear HX hp2 hown1 hgrow hnext hb2 hb3 e0 e1 f1 hown hbq hbg hnq hng hsrc hq1 hz0 hzf
          go_wp2_with fail
          go_roundw
          case rel => exact ⟨k + M, ps2, _, _, _, rfl, by omega, HP2⟩
          case measure => simp; omega
    · obtain rfl : len' = 0 := by omega
      go_wp2_with fail
      go_end0
      have hcat := HP.out.cat_
      have hbl := HP.out.bytes.len_eq
      rw [List.take_of_length_le (by simp at hbl; omega)] at hcat
      exact ⟨rfl, ps', HP.out.at_, hcat, HP.out.only, HP.out.next⟩
end Go.Proofs.YtdbcendnibgcaaaGreatDoor.FeedC
end
