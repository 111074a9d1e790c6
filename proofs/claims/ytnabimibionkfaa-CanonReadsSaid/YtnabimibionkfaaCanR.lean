/-
  CanonReads' law.
-/
import Derived.Test.YtnabimibionkfaaCanL
namespace Go.Proofs.Ytnabimibionkfaa.CanC
open Go.RowKit Go.My BitMath CanMath RefC

theorem txt_inj {a b : List Bool} (h : txt a = txt b) : a = b := by
  unfold txt at h
  injection h with h
  have h2 := congrArg Array.toList h
  simp only at h2
  induction a generalizing b with
  | nil =>
    cases b with
    | nil => rfl
    | cons y t => simp at h2
  | cons x s ih =>
    cases b with
    | nil => simp at h2
    | cons y t =>
      simp only [List.map_cons, List.cons.injEq] at h2
      rw [chB_inj x y h2.1, ih (congrArg List.toArray h2.2) h2.2]
theorem txt_take (l : List Bool) (n : Nat) : (txt l).extract 0 n = txt (l.take n) := by
  apply ByteArray.ext
  rw [ByteArray.data_extract]
  unfold txt
  apply Array.ext'
  simp [List.extract_eq_take_drop, List.map_take]
theorem txt_drop (l : List Bool) (n m : Nat) (h : l.length ≤ m) : (txt l).extract n m = txt (l.drop n) := by
  apply ByteArray.ext
  rw [ByteArray.data_extract]
  unfold txt
  apply Array.ext'
  simp [List.extract_eq_take_drop, List.map_drop]
  rw [List.take_of_length_le (by simp; omega)]
theorem list_inj {a b : ByteArray} (h : a.toList = b.toList) : a = b := by
  rw [Go.ByteArray.toList_eq, Go.ByteArray.toList_eq] at h
  exact ByteArray.ext (Array.toList_inj.1 h)
theorem str_no {a b : ByteArray} (h : a ≠ b) : (a.toList == b.toList) = false := by
  simp only [beq_eq_false_iff_ne, ne_eq]
  exact fun e => h (list_inj e)
theorem str_yes {a b : ByteArray} (h : a = b) : (a.toList == b.toList) = true := by subst h; simp
/-- The codes of symbols, one behind the other. -/
def row (ls : List Nat) (W : List Nat) : List Bool := W.flatMap (bitsAt ls)
theorem row_snoc (ls W : List Nat) (k : Nat) : row ls (W ++ [k]) = row ls W ++ bitsAt ls k := by simp [row]
theorem row_cons (ls W : List Nat) (k : Nat) : row ls (k :: W) = bitsAt ls k ++ row ls W := by simp [row]
/-- Symbols that have codes. -/
def Syms (ls W : List Nat) : Prop := ∀ k ∈ W, ∃ h : k < ls.length, 0 < ls[k]
theorem row_len (ls W : List Nat) (hall : ∀ x ∈ ls, x ≤ 15) (h : Syms ls W) : (row ls W).length ≤ 15 * W.length := by
  induction W with
  | nil => simp [row]
  | cons k t ih =>
    obtain ⟨hk, _⟩ := h k (List.mem_cons_self ..)
    have := ih (fun j hj => h j (List.mem_cons_of_mem _ hj))
    have h2 := hall _ (List.getElem_mem hk)
    rw [row_cons, List.length_append, bitsAt_len ls k hk, List.length_cons]
    omega
theorem Syms.snoc {ls W : List Nat} (h : Syms ls W) (k : Nat) (hk : k < ls.length) (h0 : 0 < ls[k]) : Syms ls (W ++ [k]) := by
  intro j hj
  rcases List.mem_append.1 hj with hj | hj
  · exact h j hj
  · obtain rfl := List.mem_singleton.1 hj
    exact ⟨hk, h0⟩

section
variable {a : Option Addr} {len cap : Nat} {zs : List Int} {w : World} {a1 : Option Addr} {len1 cap1 : Nat} {ys : List Int}
set_option maxRecDepth 100000 in
set_option maxHeartbeats 2000000 in
theorem reads_law_big (hlen : 60 < len ∨ len = 0) (hl : len ≤ 9223372036854775807) :
    Calls Try.prog 6 #[.slice a len cap, .slice a1 len1 cap1] w fun e w' => e = .returned (.bool true) ∧ Below w.heap.size w w' := by
  rcases hlen with hlen | rfl
  · go_enter Try.func6, Try.ntmps6
    go_wp2_with fail
    refine (told_any w).mono ?_
    rintro e w' ⟨rfl, hb⟩
    have HB := Lib.hid hb
    clear hb
    go_wp2_with fail
    go_ret
    exact ⟨rfl, HB.out⟩
  · go_enter Try.func6, Try.ntmps6
    go_wp2_with fail
    refine (told_any w).mono ?_
    rintro e w' ⟨rfl, hb⟩
    have HB := Lib.hid hb
    clear hb
    go_wp2_with fail
    go_ret
    exact ⟨rfl, HB.out⟩
set_option maxRecDepth 100000 in
set_option maxHeartbeats 2000000 in
theorem reads_law_err (q K X : Int) (h : RowIn w a len cap (zs.map iv)) (hE : Errs zs q K X) (hlen : len ≤ 60) (h0 : 0 < len) :
    Calls Try.prog 6 #[.slice a len cap, .slice a1 len1 cap1] w fun e w' => e = .returned (.bool true) ∧ Below w.heap.size w w' := by
  have HR := Lib.hid h
  have HE := Lib.hid hE
  have hq := hE.ne
  have hq2 : (q != 0) = true := by simp at hq ⊢; exact hq
  have hl0 : ((len : Int) == 0) = false := by simp; omega
  clear h hE
  go_enter Try.func6, Try.ntmps6
  go_wp2_with fail
  refine (HE.out.codes _ _ _ _ HR.out).mono ?_
  rintro e w3 ⟨rfl, hb3⟩
  have HB3 := Lib.hid hb3
  clear hb3
  go_wp2_with fail
  refine (told_any w3).mono ?_
  rintro e w' ⟨rfl, hb⟩
  have HB := Lib.hid (HB3.out.trans (hb.mono HB3.out.size))
  clear hb
  go_wp2_with fail
  go_ret
  exact ⟨rfl, HB.out⟩

def nv (k : Nat) : Value := iv (k : Int)
theorem nv_one (l : List Nat) : ∀ u ∈ l.map nv, u.oneCell' = true := by
  intro u hu
  obtain ⟨z, _, rfl⟩ := List.mem_map.1 hu
  rfl
/-- What the first loop keeps. -/
structure Want (ls : List Nat) (w wr : World) (v : Value) (W : List Nat) : Prop where
  own : OwnV 3 w.heap.size wr v (W.map nv)
  syms : Syms ls W
  below : Below w.heap.size w wr

set_option maxRecDepth 100000 in
set_option maxHeartbeats 16000000 in
theorem reads_law_ok (h : RowIn w a len cap (zs.map iv)) (h1 : RowIn w a1 len1 cap1 (ys.map iv)) (hg : Good zs) (hk : kr (nat zs) ≤ 32768) (hlen : len ≤ 60) (h0 : 0 < len) :
    Calls Try.prog 6 #[.slice a len cap, .slice a1 len1 cap1] w fun e w' => e = .returned (.bool true) ∧ Below w.heap.size w w' := by
  have hzl : zs.length = len := by have := h.len_eq; simpa using this
  have hyl : ys.length = len1 := by have := h1.len_eq; simpa using this
  have hlc := h.le_cap
  have hcl := h.cap_le
  have hlc1 := h1.le_cap
  have hcl1 := h1.cap_le
  obtain ⟨b, off, rfl⟩ := h.some_ h0
  have hl0 : ((len : Int) == 0) = false := by simp; omega
  have HZ := Lib.hid hzl
  have HYL := Lib.hid hyl
  have HR := Lib.hid h
  have HR1 := Lib.hid h1
  have HG := Lib.hid hg
  have HKR := Lib.hid hk
  have HLS : Hid ((nat zs).length = len) := Lib.hid (by rw [nat_len]; exact hzl)
  clear h h1 hzl hyl hg hk
  go_enter Try.func6, Try.ntmps6
  go_wp2_with fail
  refine (codes_ok _ _ _ zs _ HR.out HG.out HKR.out).mono ?_
  rintro e w3 ⟨gc, rfl, _, hown3, hb3⟩
  rw [HZ.out] at hown3 ⊢
  have HC3 : Hid (RowIn w3 (some ⟨gc, 0, none⟩) len len (allWords (nat zs))) := Lib.hid (hown3.rowIn (by rw [allWords_len, HLS.out]))
  have HB3 := Lib.hid hb3
  have HR3 := Lib.hid (HR.out.below (Nat.le_refl _) HB3.out)
  have HR13 := Lib.hid (HR1.out.below (Nat.le_refl _) HB3.out)
  clear hb3 hown3
  go_wp2_with fail
  go_loopw [7, 8, 9, 10] (fun s v i _ wr => ∃ (k : Nat) (W : List Nat) (a' : Option Addr) (m c' : Nat) (t : ByteArray), k ≤ len1 ∧ k ≤ 60 ∧ m ≤ k ∧ i = .int .i64 (k : Int) ∧ s = .string t ∧ v = .slice a' m c' ∧ t.size ≤ 900 ∧ Hid (t = txt (row (nat zs) W)) ∧ Hid (W.length = m) ∧ Hid (Want (nat zs) w3 wr (.slice a' m c') W)) (fun _ _ i _ _ => 60 - (intOf i).toNat)
  case atStart => exact ⟨0, [], none, 0, 0, ⟨#[]⟩, by omega, by omega, by omega, rfl, rfl, rfl, by decide, Lib.hid rfl, Lib.hid rfl, Lib.hid ⟨OwnV.nil _ _ _, fun k hk => by simp at hk, Below.refl _ _⟩⟩
  case round =>
    obtain ⟨k, W, a', m, c', t, hk, hk60, hmk, rfl, rfl, rfl, ht, HT, HW, HL⟩ := hrel
    by_cases hlt : k < len1 ∧ k < 60
    · obtain ⟨hlt, hlt60⟩ := hlt
      obtain ⟨b1, off1, rfl⟩ := HR1.out.some_ (by omega)
      have hky : k < ys.length := by rw [HYL.out]; exact hlt
      have hcy : wr.cell? ⟨b1, off1 + k, none⟩ = some (.int .i64 ys[k]) := by
        rw [(HR13.out.below (Nat.le_refl _) HL.out.below).get k (by simpa using hky), List.getElem_map]; rfl
      generalize ys[k] = y at *
      obtain ⟨j, hj, hje⟩ : ∃ j : Nat, j < len ∧ (IntKind.u64.wrap y).tmod (len : Int) = (j : Int) := by
        have hu : 0 ≤ IntKind.u64.wrap y := by rw [IntKind.wrap_u64]; omega
        have h1 := Int.emod_nonneg (IntKind.u64.wrap y) (show (len : Int) ≠ 0 by omega)
        have h2 := Int.emod_lt_of_pos (IntKind.u64.wrap y) (show (0 : Int) < (len : Int) by omega)
        refine ⟨((IntKind.u64.wrap y) % (len : Int)).toNat, by omega, ?_⟩
        rw [Int.tmod_eq_emod_of_nonneg hu]
        omega
      have hjz : j < zs.length := by rw [HZ.out]; exact hj
      have hjn : j < (nat zs).length := by rw [HLS.out]; exact hj
      obtain ⟨n, hn⟩ : ∃ n : Nat, zs[j] = (n : Int) := ⟨zs[j].toNat, by have := HG.out.2 _ (List.getElem_mem hjz); omega⟩
      have hn2 : (nat zs)[j] = n := by rw [nat_get zs j hjz, hn]; rfl
      have hn15 : n ≤ 15 := by rw [← hn2]; exact HG.out.all _ (List.getElem_mem hjn)
      have hc1 : wr.cell? ⟨b, off + j, none⟩ = some (.int .i64 (n : Int)) := by
        rw [(HR3.out.below (Nat.le_refl _) HL.out.below).get j (by simpa using hjz), List.getElem_map, hn]; rfl
      have hc3 : wr.cell? ⟨gc, j, none⟩ = some (uv (codeW (nat zs) j)) := by
        have := (HC3.out.below (Nat.le_refl _) HL.out.below).get j (by rw [allWords_len]; exact hjn)
        rw [Nat.zero_add, allWords_get _ j hjn] at this
        exact this
      have HN2 := Lib.hid hn2
      clear hn hn2
      by_cases hn0 : 0 < n
      · have HCW : Hid (codeW (nat zs) j = codeN (nat zs) n j) := Lib.hid (by rw [codeW_eq _ j hjn, HN2.out, if_neg (by omega)])
        have hx : codeW (nat zs) j ≤ 98304 := by rw [HCW.out]; exact codeN_le _ HG.out.all HKR.out (by rw [HLS.out]; omega) j n hn0 hn15
        have HBI : Hid (bitsAt (nat zs) j = (lows n (codeW (nat zs) j)).reverse) := Lib.hid (by rw [bitsAt_eq _ j hjn, HN2.out, HCW.out])
        unfold uv at hc3
        generalize codeW (nat zs) j = x at *
        obtain ⟨u, hu⟩ : ∃ u, u = txt (lows n x).reverse := ⟨_, rfl⟩
        have hus : u.size = n := by rw [hu, txt_len, List.length_reverse, lows_len]
        have HUS := Lib.hid hus
        have hus2 : u.size ≤ 15 := by omega
        have hsum : ¬ 9223372036854775807 < t.size + u.size := by omega
        have hq := fun nq => code_quiet x n nq wr hn0 (by omega) (by omega)
        rw [← hu] at hq
        have HQ := Lib.hid hq
        have HU : Hid (u = txt (bitsAt (nat zs) j)) := Lib.hid (by rw [hu, HBI.out])
        clear hq hu hus HBI HCW
        go_upto_region 15 with (fail)
        go_quiet ((go_at_call 14; exact HQ.out _))
        have HL2 : Hid (Want (nat zs) w3 (wr.drewN nq) (.slice a' m c') W) := Lib.hid ⟨HL.out.own.below (Nat.le_refl _) (quiet_below wr nq), HL.out.syms, HL.out.below.trans ((quiet_below wr nq).mono HL.out.below.size)⟩
        clear HL hc1 hc3 HQ hcy
        generalize wr.drewN nq = w4 at *
        have HML : Hid ((W.map nv).length = m) := Lib.hid (by rw [List.length_map, HW.out])
        have HO4 : Hid (OwnV 3 w3.heap.size (w4.alloc (.cells #[.int .i64 (j : Int)] 3)) (.slice a' m c') (W.map nv)) := Lib.hid (HL2.out.own.below (Nat.le_refl _) ((Below.refl _ w4).alloc (Nat.le_refl _) _))
        have HR4 : Hid (RowIn (w4.alloc (.cells #[.int .i64 (j : Int)] 3)) (some ⟨w4.heap.size, 0, none⟩) 1 1 (([j] : List Nat).map nv)) := Lib.hid (row_new w4 3 #[.int .i64 (j : Int)] (by simp))
        have HB4 : Hid (Below w3.heap.size w3 (w4.alloc (.cells #[.int .i64 (j : Int)] 3))) := Lib.hid (HL2.out.below.alloc HL2.out.below.size _)
        go_wp2_with (at_builtin; refine wpList_append_row (by rfl) (.tmp 73) (.tmp 75) 22 rfl w3.heap.size 3 (.int .i64 0) 8 Try.underlying22 info_int rfl (.slice a' m c') (W.map nv) rfl HO4.out (some ⟨w4.heap.size, 0, none⟩) 1 1 (([j] : List Nat).map nv) rfl HR4.out (nv_one _) (by rw [HML.out]; omega) (by rw [HML.out]; omega) HB4.out.size ?_)
        rw [HW.out]
        intro a5 c5 w5 hown5 hg5 _
        have HL5 : Hid (Want (nat zs) w3 w5 (.slice a5 (m + 1) c5) (W ++ [j])) := Lib.hid ⟨by rw [List.map_append]; exact hown5, HL2.out.syms.snoc j hjn (by rw [HN2.out]; exact hn0), OwnV.grown HO4.out HB4.out hg5 HB4.out.size⟩
        have HT5 : Hid (t ++ u = txt (row (nat zs) (W ++ [j]))) := Lib.hid (by rw [row_snoc, ← txt_append, HT.out, HU.out])
        have HS5 : Hid ((W ++ [j]).length = m + 1) := Lib.hid (by simp [HW.out])
        have hts : (t ++ u).size ≤ 900 := by
          have h1 := row_len (nat zs) (W ++ [j]) HG.out.all HL5.out.syms
          rw [HT5.out, txt_len]
          rw [HS5.out] at h1
          omega
        clear hown5 hg5 HL2 HO4 HR4 HB4
        go_wp2_with fail
        go_roundw
        case rel => exact ⟨k + 1, W ++ [j], a5, m + 1, c5, _, by omega, by omega, by omega, by go_num, rfl, rfl, hts, HT5, HS5, HL5⟩
        case measure => simp [intOf]; omega
      · obtain rfl : n = 0 := by omega
        clear hc3
        go_wp2_with fail
        go_roundw
        case rel => exact ⟨k + 1, W, a', m, c', t, by omega, by omega, by omega, by go_num, rfl, rfl, ht, HT, HW, HL⟩
        case measure => simp [intOf]; omega
    · go_upto_region 11 with (fail)
      go_cut [44] (fun v wc => v = .bool false ∧ wc = wr)
      case first =>
        by_cases hkl : k < len1
        · have hd : decide ((k : Int) < 60) = false := by simp; omega
          go_wp2_with fail
          go_meet
          case rel => exact ⟨rfl, rfl⟩
        · have hd : decide (k < len1) = false := by simp; omega
          go_wp2_with fail
          go_meet
          case rel => exact ⟨rfl, rfl⟩
      obtain ⟨rfl, rfl⟩ := hcut
      have HWT : Hid (RowIn wc a' m c' (W.map nv)) := Lib.hid (HL.out.own.rowIn (by rw [List.length_map, HW.out]))
      have HSY := Lib.hid HL.out.syms
      have HB4 := Lib.hid HL.out.below
      have HR4 := Lib.hid (HR3.out.below (Nat.le_refl _) HL.out.below)
      have HC4 := Lib.hid (HC3.out.below (Nat.le_refl _) HL.out.below)
      clear HL HR3 HC3 HR13 HR1 HYL hlt
      go_wp2_with fail
      generalize wc = w4 at *
      go_loopw [7, 11, 12, 13, 14] (fun s iv_ _ _ _ wr => ∃ (i : Nat) (t : ByteArray), i ≤ m ∧ iv_ = .int .i64 (i : Int) ∧ s = .string t ∧ t.size ≤ 900 ∧ Hid (t = txt (row (nat zs) (W.drop i))) ∧ Hid (Below w4.heap.size w4 wr)) (fun _ iv_ _ _ _ _ => m - (intOf iv_).toNat)
      case atStart => exact ⟨0, t, Nat.zero_le _, rfl, rfl, ht, HT, Lib.hid (Below.refl _ _)⟩
      case round =>
        clear HT ht
        obtain ⟨i, t, hi, rfl, rfl, ht, HT, HB⟩ := hrel
        by_cases him : i < m
        · have hiW : i < W.length := by rw [HW.out]; exact him
          obtain ⟨v, hv⟩ : ∃ v, v = W[i] := ⟨_, rfl⟩
          obtain ⟨hvl, hv0⟩ := HSY.out v (by rw [hv]; exact List.getElem_mem hiW)
          have HT2 : Hid (t = txt (bitsAt (nat zs) v ++ row (nat zs) (W.drop (i + 1)))) := Lib.hid (by rw [HT.out, List.drop_eq_getElem_cons hiW, row_cons, ← hv])
          have HV := Lib.hid hv
          clear hv HT
          go_wp2_with fail
          go_loopw [12, 13, 14] (fun f kk _ wr => ∃ q : Nat, q ≤ len ∧ kk = .int .i64 (q : Int) ∧ f = .int .i64 (if v < q then (v : Int) else -1) ∧ Hid (Below w4.heap.size w4 wr)) (fun _ kk _ _ => len - (intOf kk).toNat)
          case atStart => exact ⟨0, Nat.zero_le _, rfl, by rw [if_neg (by omega)], HB⟩
          case round =>
            clear HB
            obtain ⟨q, hq, rfl, rfl, HB⟩ := hrel
            by_cases hql : q < len
            · have hqz : q < zs.length := by rw [HZ.out]; exact hql
              have hqn : q < (nat zs).length := by rw [HLS.out]; exact hql
              obtain ⟨n, hn⟩ : ∃ n : Nat, zs[q] = (n : Int) := ⟨zs[q].toNat, by have := HG.out.2 _ (List.getElem_mem hqz); omega⟩
              have hn2 : (nat zs)[q] = n := by rw [nat_get zs q hqz, hn]; rfl
              have hn15 : n ≤ 15 := by rw [← hn2]; exact HG.out.all _ (List.getElem_mem hqn)
              have hc1 : wr.cell? ⟨b, off + q, none⟩ = some (.int .i64 (n : Int)) := by
                rw [(HR4.out.below (Nat.le_refl _) HB.out).get q (by simpa using hqz), List.getElem_map, hn]; rfl
              have hc3 : wr.cell? ⟨gc, q, none⟩ = some (uv (codeW (nat zs) q)) := by
                have := (HC4.out.below (Nat.le_refl _) HB.out).get q (by rw [allWords_len]; exact hqn)
                rw [Nat.zero_add, allWords_get _ q hqn] at this
                exact this
              have HN2 := Lib.hid hn2
              clear hn hn2
              have HVT : Hid ((nat zs)[v] ≤ t.size) := Lib.hid (by rw [HT2.out, txt_len, List.length_append, bitsAt_len _ v hvl]; omega)
              have HNX : Hid (q ≠ v → (if v < q + 1 then (v : Int) else -1) = (if v < q then (v : Int) else -1)) := Lib.hid (fun h => by
                by_cases hlt : v < q
                · rw [if_pos hlt, if_pos (by omega)]
                · rw [if_neg hlt, if_neg (by omega)])
              by_cases hn0 : 0 < n
              · by_cases hnt : n ≤ t.size
                · have HCW : Hid (codeW (nat zs) q = codeN (nat zs) n q) := Lib.hid (by rw [codeW_eq _ q hqn, HN2.out, if_neg (by omega)])
                  have hx : codeW (nat zs) q ≤ 98304 := by rw [HCW.out]; exact codeN_le _ HG.out.all HKR.out (by rw [HLS.out]; omega) q n hn0 hn15
                  have HBI : Hid (bitsAt (nat zs) q = (lows n (codeW (nat zs) q)).reverse) := Lib.hid (by rw [bitsAt_eq _ q hqn, HN2.out, HCW.out])
                  unfold uv at hc3
                  generalize codeW (nat zs) q = x at *
                  obtain ⟨u, hu⟩ : ∃ u, u = txt (lows n x).reverse := ⟨_, rfl⟩
                  have hqq := fun nq => code_quiet x n nq wr hn0 (by omega) (by omega)
                  rw [← hu] at hqq
                  have HQ := Lib.hid hqq
                  have HU : Hid (u = txt (bitsAt (nat zs) q)) := Lib.hid (by rw [hu, HBI.out])
                  clear hqq hu HBI HCW
                  have HPQ : Hid (t.extract 0 n = u ↔ q = v) := Lib.hid (by
                    rw [HT2.out, txt_take, HU.out]
                    constructor
                    · intro h
                      have h2 := txt_inj h
                      exact (bits_only (nat zs) HG.out.all HKR.out v q hvl hqn hv0 (by rw [HN2.out]; exact hn0) _ (by rw [← h2]; exact List.take_prefix _ _)).symm
                    · rintro rfl
                      rw [List.take_append_of_le_length (by rw [bitsAt_len _ q hqn, HN2.out]; exact Nat.le_refl _), List.take_of_length_le (by rw [bitsAt_len _ q hqn, HN2.out]; exact Nat.le_refl _)])
                  have hdl : decide (n ≤ t.size) = true := by simp; omega
                  by_cases hqv : q = v
                  · have e1 := str_yes (HPQ.out.2 hqv)
                    have HF : Hid ((if v < q + 1 then (v : Int) else -1) = (q : Int)) := Lib.hid (by rw [if_pos (by omega), hqv])
                    have hF0 : (if v < q then (v : Int) else -1) = -1 := by rw [if_neg (by omega)]
                    rw [hF0]
                    clear hF0 hqv
                    go_upto_region 25 with (fail)
                    go_quiet ((go_at_call 14; exact HQ.out _))
                    have HB2 : Hid (Below w4.heap.size w4 (wr.drewN nq)) := Lib.hid (HB.out.trans ((quiet_below wr nq).mono HB.out.size))
                    clear HB hc1 hc3 HQ e1 hdl
                    generalize wr.drewN nq = w5 at *
                    go_wp2_with fail
                    go_roundw
                    case rel => exact ⟨q + 1, by omega, by go_num, by rw [HF.out], HB2⟩
                    case measure => simp [intOf]; omega
                  · have e1 := str_no (fun e => hqv (HPQ.out.1 e))
                    have HF := Lib.hid (HNX.out hqv)
                    generalize (if v < q then (v : Int) else -1) = F at *
                    clear hqv HNX
                    go_upto_region 25 with (fail)
                    go_quiet ((go_at_call 14; exact HQ.out _))
                    have HB2 : Hid (Below w4.heap.size w4 (wr.drewN nq)) := Lib.hid (HB.out.trans ((quiet_below wr nq).mono HB.out.size))
                    clear HB hc1 hc3 HQ e1 hdl
                    generalize wr.drewN nq = w5 at *
                    go_wp2_with fail
                    go_roundw
                    case rel => exact ⟨q + 1, by omega, by go_num, by rw [HF.out], HB2⟩
                    case measure => simp [intOf]; omega
                · have hqv : q ≠ v := fun e => by subst e; have := HVT.out; rw [HN2.out] at this; omega
                  have hdl : decide (n ≤ t.size) = false := by simp; omega
                  have HF := Lib.hid (HNX.out hqv)
                  generalize (if v < q then (v : Int) else -1) = F at *
                  clear hqv HNX hc3
                  go_upto_region 25 with (fail)
                  go_quiet (fail)
                  have HB2 : Hid (Below w4.heap.size w4 (wr.drewN nq)) := Lib.hid (HB.out.trans ((quiet_below wr nq).mono HB.out.size))
                  clear HB hc1 hdl
                  generalize wr.drewN nq = w5 at *
                  go_wp2_with fail
                  go_roundw
                  case rel => exact ⟨q + 1, by omega, by go_num, by rw [HF.out], HB2⟩
                  case measure => simp [intOf]; omega
              · obtain rfl : n = 0 := by omega
                have hqv : q ≠ v := fun e => by subst e; rw [HN2.out] at hv0; omega
                have HF := Lib.hid (HNX.out hqv)
                generalize (if v < q then (v : Int) else -1) = F at *
                clear hqv HNX hc3
                go_upto_region 25 with (fail)
                go_quiet (fail)
                have HB2 : Hid (Below w4.heap.size w4 (wr.drewN nq)) := Lib.hid (HB.out.trans ((quiet_below wr nq).mono HB.out.size))
                clear HB hc1
                generalize wr.drewN nq = w5 at *
                go_wp2_with fail
                go_roundw
                case rel => exact ⟨q + 1, by omega, by go_num, by rw [HF.out], HB2⟩
                case measure => simp [intOf]; omega
            · obtain rfl : q = len := by omega
              have hvq : v < q := by rw [← HLS.out]; exact hvl
              rw [if_pos hvq]
              have hcw : ∃ b2 off2, a' = some ⟨b2, off2, none⟩ ∧ wr.cell? ⟨b2, off2 + i, none⟩ = some (.int .i64 (v : Int)) := by
                obtain ⟨b2, off2, rfl⟩ := HWT.out.some_ (by omega)
                refine ⟨b2, off2, rfl, ?_⟩
                rw [(HWT.out.below (Nat.le_refl _) HB.out).get i (by simpa using hiW), List.getElem_map, ← HV.out]; rfl
              obtain ⟨b2, off2, rfl, hcw⟩ := hcw
              have hvz : v < zs.length := by rw [HZ.out]; exact hvq
              obtain ⟨n, hn⟩ : ∃ n : Nat, zs[v] = (n : Int) := ⟨zs[v].toNat, by have := HG.out.2 _ (List.getElem_mem hvz); omega⟩
              have hn2 : (nat zs)[v] = n := by rw [nat_get zs v hvz, hn]; rfl
              have hc1 : wr.cell? ⟨b, off + v, none⟩ = some (.int .i64 (n : Int)) := by
                rw [(HR4.out.below (Nat.le_refl _) HB.out).get v (by simpa using hvz), List.getElem_map, hn]; rfl
              have hnt : n ≤ t.size := by rw [HT2.out, txt_len, List.length_append, bitsAt_len _ v hvl, hn2]; omega
              have HT3 : Hid (t.extract n t.size = txt (row (nat zs) (W.drop (i + 1)))) := Lib.hid (by
                have hlen : (bitsAt (nat zs) v).length = n := by rw [bitsAt_len _ v hvl, hn2]
                have hsz : t.size = (bitsAt (nat zs) v ++ row (nat zs) (W.drop (i + 1))).length := by rw [HT2.out, txt_len]
                rw [hsz, HT2.out, txt_drop _ _ _ (Nat.le_refl _), List.drop_append_of_le_length (by omega), List.drop_of_length_le (by omega), List.nil_append])
              have hts : (t.extract n t.size).size ≤ 900 := by rw [ByteArray.size_extract]; omega
              clear hn hn2
              go_wp2_with fail
              go_roundw
              case rel => exact ⟨i + 1, _, by omega, by go_num, rfl, hts, HT3, HB⟩
              case measure => simp [intOf]; omega
        · obtain rfl : i = m := by omega
          have he : t = ⟨#[]⟩ := by rw [HT.out, List.drop_of_length_le (by rw [HW.out]; exact Nat.le_refl _)]; rfl
          subst he
          clear HT
          go_wp2_with fail
          refine (told_any wr).mono ?_
          rintro e w7 ⟨rfl, hb⟩
          have HB5 := Lib.hid (HB3.out.trans (HB4.out.mono HB3.out.size))
          have HB6 := Lib.hid (HB5.out.trans (HB.out.mono HB5.out.size))
          have HB7 := Lib.hid (HB6.out.trans (hb.mono HB6.out.size))
          clear hb
          go_wp2_with fail
          go_ret
          exact ⟨by first | rfl | (simp; done) | (simp; omega), HB7.out⟩

theorem reads_law (h : RowIn w a len cap (zs.map iv)) (h1 : RowIn w a1 len1 cap1 (ys.map iv)) :
    Calls Try.prog 6 #[.slice a len cap, .slice a1 len1 cap1] w fun e w' => e = .returned (.bool true) ∧ Below w.heap.size w w' := by
  by_cases hb : 60 < len ∨ len = 0
  · exact reads_law_big hb (Nat.le_trans h.le_cap h.cap_le)
  · by_cases hg : Good zs
    · by_cases hk : kr (nat zs) ≤ 32768
      · exact reads_law_ok h h1 hg hk (by omega) (by omega)
      · exact reads_law_err _ _ _ h (errs_over hg (by omega)) (by omega) (by omega)
    · exact reads_law_err _ _ _ h (errs_bad hg) (by omega) (by omega)
end
end Go.Proofs.Ytnabimibionkfaa.CanC
