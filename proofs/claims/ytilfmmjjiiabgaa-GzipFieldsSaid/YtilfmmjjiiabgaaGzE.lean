/-
  The document's own reading of a header: text, Read.
-/
import Derived.Test.YtilfmmjjiiabgaaGzC
import Derived.Test.YtilfmmjjiiabgaaNumR
import Derived.Test.YtilfmmjjiiabgaaClkEd
namespace Go.Proofs.Ytilfmmjjiiabgaa.GzC
open Go.RowKit Go.My GzMath CrcMath
open Go.My.NumMath (num_lt)

theorem ret_tx {s t : ByteArray} {p q c d : Int} (h1 : s = t) (h2 : p = q) (h3 : c = d) : Ending.returned (.tuple #[.string s, .int .i64 p, .int .i64 c]) = .returned (.tuple #[.string t, .int .i64 q, .int .i64 d]) := by rw [h1, h2, h3]
/-- What text answers. -/
def txV (L : List UInt8) (at_ : Nat) : Value := if tx L = 0 then .tuple #[.string ⟨(L.take (zer L)).toArray⟩, .int .i64 ((at_ + zer L + 1 : Nat) : Int), .int .i64 0] else .tuple #[.string ⟨#[]⟩, .int .i64 0, .int .i64 ((tx L : Nat) : Int)]
set_option maxRecDepth 100000 in
set_option maxHeartbeats 2000000 in
theorem rtext_any (a : Option Addr) (len cap at_ : Nat) (l : List UInt8) (w : World) (hb : Bytes w a len cap l) (ht : len ≤ 1099511627776) (hat : at_ ≤ len) :
    Calls Try.prog 21 #[.slice a len cap, .int .i64 (at_ : Int)] w fun e w' => e = .returned (txV (l.drop at_) at_) ∧ w = w' := by
  obtain ⟨P0, hp0, _, hB, hP⟩ := cut_from hb at_ hat
  have hlen := hb.len_eq
  obtain ⟨L, hL⟩ : ∃ L, L = l.drop at_ := ⟨_, rfl⟩
  have hLR : L.length = len - at_ := by rw [hL]; simp; omega
  have HC : Hid (∀ k, k < L.length → ∃ b off, a = some ⟨b, off, none⟩ ∧ w.cell? ⟨b, off + (at_ + k), none⟩ = some (.int .u8 ((L.getD k 0).toNat : Int))) := Lib.hid fun k hk => by
    rcases hb.at_ with h0 | ⟨b, off, he, -, hc⟩
    · omega
    · refine ⟨b, off, he, ?_⟩
      rw [hc (at_ + k) (by omega)]
      have e : L.getD k 0 = l[at_ + k]'(by omega) := by subst hL; simp [List.getD, List.getElem?_drop, List.getElem?_eq_getElem (show at_ + k < l.length by omega)]
      rw [e]
  rw [← hL] at hB ⊢
  have hcap := hb.le_cap
  have hcapt := hb.cap_le
  have HBL := Lib.hid hB
  have HLR := Lib.hid hLR
  clear hL hlen hLR hP hb hB
  go_enter Try.func21, Try.ntmps21
  go_wp2_with fail
  go_loop [7] (fun i => ∃ k I : Nat, k ≤ zer L ∧ k ≤ 65536 ∧ i = .int .i64 (I : Int) ∧ Hid (I = at_ + k)) (fun i => at_ + 65537 - (intOf i).toNat)
  case atStart => exact ⟨0, at_, by omega, by omega, rfl, Lib.hid rfl⟩
  case round =>
    obtain ⟨k, I, hkz, hk6, rfl, HI⟩ := hrel
    have hI := HI.out
    have hzl := zer_le L
    have hl' := HLR.out
    have w1 : IntKind.i64.wrap ((I : Int) - (at_ : Int)) = (k : Int) := by rw [IntWalk.i64_in _ (by omega)]; omega
    by_cases hk : 65535 < k
    · have hd : decide ((k : Int) > 65535) = true := by simp; omega
      have HT : Hid (tx L = 2) := Lib.hid (by rcases tx_cases L with ⟨h, h1, h2⟩ | ⟨h, h1, h2⟩ | ⟨h, h1, h2⟩ <;> first | exact h | omega)
      clear hl' hI
      go_wp2_with fail
      go_ret3
      exact ⟨by unfold txV; rw [HT.out]; rfl, rfl⟩
    have hd : decide ((k : Int) > 65535) = false := by simp; omega
    by_cases hke : L.length ≤ k
    · have hge : len ≤ I := by omega
      have HT : Hid (tx L = 5) := Lib.hid (by rcases tx_cases L with ⟨h, h1, h2⟩ | ⟨h, h1, h2⟩ | ⟨h, h1, h2⟩ <;> first | exact h | omega)
      clear hl' hI
      go_wp2_with fail
      go_ret3
      exact ⟨by unfold txV; rw [HT.out]; rfl, rfl⟩
    have hge : ¬ len ≤ I := by omega
    obtain ⟨b, off, rfl, hc⟩ := HC.out k (by omega)
    obtain ⟨c, hcc⟩ : ∃ c, c = (L.getD k 0).toNat := ⟨_, rfl⟩
    rw [← hcc] at hc
    have hlt : I < len := by omega
    rw [← hI] at hc
    have HCC := Lib.hid hcc
    clear hcc
    by_cases hz : c = 0
    · have hzk : zer L = k := by
        by_cases h : k < zer L
        · exact absurd (UInt8.toNat_inj.1 (by rw [← HCC.out, hz]; rfl)) (zer_at L k h)
        · omega
      have HT : Hid (tx L = 0) := Lib.hid (by rcases tx_cases L with ⟨h, h1, h2⟩ | ⟨h, h1, h2⟩ | ⟨h, h1, h2⟩ <;> first | exact h | omega)
      have HZ := Lib.hid hzk
      subst hz
      have hcv : (convert 22 9 (.slice P0 k (cap - at_))).run Try.prog w = .ok (.string ⟨(L.take k).toArray⟩) w :=
        run_string_bytes _ 22 9 5 Try.underlying22 Try.underlying5 Try.underlying9 (HBL.out.take k (by omega))
      rw [show P0 = some ⟨b, off + at_, none⟩ by rw [← hp0, if_neg (by omega)]; simp [addr_add]] at hcv
      have hkk : I - at_ = k := by omega
      have hle2 : I ≤ cap := by omega
      have hle3 : at_ ≤ I := by omega
      have w2 : IntKind.i64.wrap ((I : Int) + 1) = ((at_ + k + 1 : Nat) : Int) := by rw [IntWalk.i64_in _ (by omega)]; omega
      clear hzk hl' hkz hzl hI
      go_wp2_with fail
      go_ret3
      exact ⟨by unfold txV; rw [HT.out, HZ.out]; rfl, rfl⟩
    · have hzk : ¬ zer L = k := fun h => by
        have := zer_zero L (by omega)
        rw [h] at this
        rw [this] at HCC
        exact hz (by rw [HCC.out]; rfl)
      have e1 : ((c : Int) == 0) = false := by simp; omega
      clear hl' hI
      go_wp2_with fail
      go_round
      case rel => exact ⟨k + 1, I + 1, by omega, by omega, by go_num, Lib.hid (by rw [HI.out]; omega)⟩
      case measure => have := HI.out; simp [intOf]; omega

theorem flag8_224 (f : Nat) (h : f < 256) : bits .and .u8 (f : Int) 224 = ((f / 32 * 32 : Nat) : Int) := (by decide +kernel : ∀ f : Fin 256, bits .and .u8 ((f.val : Nat) : Int) 224 = ((f.val / 32 * 32 : Nat) : Int)) ⟨f, h⟩
theorem flag8_4 (f : Nat) (h : f < 256) : bits .and .u8 (f : Int) 4 = ((f / 4 % 2 * 4 : Nat) : Int) := (by decide +kernel : ∀ f : Fin 256, bits .and .u8 ((f.val : Nat) : Int) 4 = ((f.val / 4 % 2 * 4 : Nat) : Int)) ⟨f, h⟩
theorem flag8_8 (f : Nat) (h : f < 256) : bits .and .u8 (f : Int) 8 = ((f / 8 % 2 * 8 : Nat) : Int) := (by decide +kernel : ∀ f : Fin 256, bits .and .u8 ((f.val : Nat) : Int) 8 = ((f.val / 8 % 2 * 8 : Nat) : Int)) ⟨f, h⟩
theorem flag8_16 (f : Nat) (h : f < 256) : bits .and .u8 (f : Int) 16 = ((f / 16 % 2 * 16 : Nat) : Int) := (by decide +kernel : ∀ f : Fin 256, bits .and .u8 ((f.val : Nat) : Int) 16 = ((f.val / 16 % 2 * 16 : Nat) : Int)) ⟨f, h⟩
theorem flag8_2 (f : Nat) (h : f < 256) : bits .and .u8 (f : Int) 2 = ((f / 2 % 2 * 2 : Nat) : Int) := (by decide +kernel : ∀ f : Fin 256, bits .and .u8 ((f.val : Nat) : Int) 2 = ((f.val / 2 % 2 * 2 : Nat) : Int)) ⟨f, h⟩

theorem info_rhead : (Try.prog.info? 31).map (·.size) = some 3 := by kernel_rfl
/-- The zero header's cells. -/
def zeroC : Array Value := #[.bool false, .string ⟨#[]⟩, .float .f64 0]
theorem rread_ret {a : Act} {w : World} {g : Nat} {C : Array Value} {u v : Value} {R : Ending → World → Prop} (hd : a.defers = []) (hp : a.tmps.getD 2 undef = .pointer (some ⟨g, 0, none⟩)) (hu : a.tmps.getD 3 undef = u) (hv : a.tmps.getD 4 undef = v)
    (hg : Blk w g 31 C) (hs : C.size = 3) (h : R (.returned (.tuple #[.agg C, u, v])) w) : bodyPost Try.prog Try.f7 R .ret a w := by
  refine bodyPost_ret (v := .tuple #[.agg C, u, v]) ?_ hd h
  have hp' : a.tmps[2]?.getD undef = .pointer (some ⟨g, 0, none⟩) := by simpa using hp
  have hu' : a.tmps[3]?.getD undef = u := by simpa using hu
  have hv' : a.tmps[4]?.getD undef = v := by simpa using hv
  simp [results, hp', hu', hv', asAddr, run_loadVar_row (P := Try.prog) w g 31 31 C (0, 0) _ hg Try.underlying31 rfl (by rw [hs]; exact info_rhead)]
/-- ref.Number of two bytes, whether they are there or not. -/
theorem rnum_all (b off len cap k n : Nat) (l : List UInt8) (w : World) (hb : Bytes w (some ⟨b, off, none⟩) len cap l) (hk : k ≤ 2199023255552) (h1 : 1 ≤ n) (h2 : n ≤ 8) :
    Calls Try.prog 19 #[.slice (some ⟨b, off, none⟩) len cap, .int .i64 (k : Int), .int .i64 (n : Int), .bool false] w fun e w' => e = .returned (.tuple #[.int .u64 ((if len < k + n then 0 else Go.My.NumMath.num false ((l.drop k).take n) : Nat) : Int), .int .i64 ((if len < k + n then 5 else 0 : Nat) : Int)]) ∧ w = w' := by
  by_cases h : len < k + n
  · rw [if_pos h, if_pos h]
    exact NumC.number_short _ len cap k n false w (by have := hb.le_cap; have := hb.cap_le; omega) (by omega) (by omega) (.inr (by omega))
  · rw [if_neg h, if_neg h]
    exact NumC.number_ok b off len cap k n l false w hb h1 h2 (by omega)
theorem two_lt {l : List UInt8} {k : Nat} (h : k + 2 ≤ l.length) : Go.My.NumMath.num false ((l.drop k).take 2) < 65536 := by
  have := num_lt false ((l.drop k).take 2)
  have hl2 : ((l.drop k).take 2).length = 2 := by simp; omega
  rw [hl2] at this; exact this
theorem and_low (n : Nat) (h : n < 4294967296) : bits .and .u32 (n : Int) 65535 = ((n % 65536 : Nat) : Int) := by
  show IntKind.u32.wrap ((BitVec.ofInt 32 n &&& BitVec.ofInt 32 65535).toNat : Int) = _
  rw [BitVec.toNat_and, BitVec.toNat_ofInt, BitVec.toNat_ofInt]
  have e1 : ((n : Int) % ((2 ^ 32 : Nat) : Int)).toNat = n := by omega
  have e2 : ((65535 : Int) % ((2 ^ 32 : Nat) : Int)).toNat = 2 ^ 16 - 1 := by decide
  rw [e1, e2, Nat.and_two_pow_sub_one_eq_mod, IntKind.wrap_u32]
  omega
/-- What the document's own Read answers. -/
def RRead (B : Nat) (w : World) (l : List UInt8) (e : Ending) (w' : World) : Prop :=
  Below B w w' ∧ ((∃ c, rd l = .bad c ∧ c ≠ 0 ∧ e = .returned (.tuple #[.agg zeroC, .int .i64 0, .int .i64 (c : Int)])) ∨
    (∃ h r, rd l = .ok h ∧ ClkC.Like (ClkC.fromU (h.time : Int)) r ∧ e = .returned (.tuple #[.agg #[.bool h.named, .string ⟨h.name.toArray⟩, .float .f64 r], .int .i64 (h.n : Int), .int .i64 0])))
theorem RRead.no {B : Nat} {w w' : World} {l : List UInt8} {c : Nat} {e : Ending} (hB : Hid (B = w.heap.size)) (hb : Below w.heap.size w w') (hr : rd l = .bad c) (hc : c ≠ 0) (he : e = .returned (.tuple #[.agg zeroC, .int .i64 0, .int .i64 (c : Int)])) : RRead B w l e w' :=
  ⟨by rw [hB.out]; exact hb, .inl ⟨c, hr, hc, he⟩⟩
/-- The walk's world: what came in, the result's block. -/
structure Rr (w : World) (a : Option Addr) (len cap : Nat) (l : List UInt8) (g2 : Nat) (W : World) : Prop where
  below : Below g2 w W
  z : Blk W g2 31 zeroC
  row : Bytes W a len cap l
section
variable {w W W' : World} {a : Option Addr} {len cap : Nat} {l : List UInt8} {g2 : Nat}
theorem Rr.later (h : Rr w a len cap l g2 W) (hb : Below W.heap.size W W') : Rr w a len cap l g2 W' :=
  ⟨h.below.trans (hb.mono (Nat.le_of_lt h.z.lt)), h.z.same (hb.block g2 h.z.lt), h.row.below (Nat.le_refl _) hb⟩
theorem Rr.row_ (h : Rr w a len cap l g2 W) (C : Array Value) : Below g2 w (W.setRow g2 C) :=
  h.below.trans ((only_row W g2 C).below (Nat.le_of_lt h.z.lt) (fun k e => by rw [e]; exact Nat.le_refl _))
theorem Rr.zero (h : Rr w a len cap l g2 W) : Blk (W.setRow g2 zeroC) g2 31 zeroC ∧ Below g2 w (W.setRow g2 zeroC) :=
  ⟨setRow_heap _ _ _ _ _ _ h.z, h.row_ zeroC⟩
theorem Rr.row2 (h : Rr w a len cap l g2 W) (hg : g2 = w.heap.size) (C : Array Value) : Below w.heap.size w (W.setRow g2 C) := by
  have := h.row_ C
  rw [← hg]; exact this
theorem Rr.zero2 (h : Rr w a len cap l g2 W) (hg : g2 = w.heap.size) : Below w.heap.size w (W.setRow g2 zeroC) := h.row2 hg zeroC
/-- Behind the first ten bytes: the header's own block, too. -/
structure Rm (w : World) (a : Option Addr) (len cap : Nat) (l : List UInt8) (g2 g6 : Nat) (named : Bool) (name : List UInt8) (t : Nat) (W : World) : Prop where
  rr : Rr w a len cap l g2 W
  blk : Blk W g6 31 #[.bool named, .string ⟨name.toArray⟩, .float .f64 t]
  ne : g6 ≠ g2
  low : w.heap.size ≤ g6
  na : ∀ b off, a = some ⟨b, off, none⟩ → b ≠ g6
theorem Rm.later {g6 : Nat} {named : Bool} {name : List UInt8} {t : Nat} (h : Rm w a len cap l g2 g6 named name t W) (hb : Below W.heap.size W W') : Rm w a len cap l g2 g6 named name t W' :=
  ⟨h.rr.later hb, h.blk.same (hb.block g6 h.blk.lt), h.ne, h.low, h.na⟩
end
set_option maxRecDepth 100000 in
set_option maxHeartbeats 8000000 in
theorem rread_at (B : Nat) (a : Option Addr) (len cap : Nat) (l : List UInt8) (w : World) (hB0 : B = w.heap.size) (hb : Bytes w a len cap l) (hl : len ≤ 1099511627776) :
    Calls Try.prog 7 #[.slice a len cap] w (RRead B w l) := by
  have HB0 := Lib.hid hB0
  obtain ⟨g2, hg2⟩ : ∃ g2, g2 = w.heap.size := ⟨_, rfl⟩
  obtain ⟨w1, hw1⟩ : ∃ w1, w1 = (w.alloc (.cells #[.bool false, .string ⟨#[]⟩, .float .f64 0] 31)).alloc (.cells #[.int .u8 31, .int .u8 139, .int .u8 8] 5) := ⟨_, rfl⟩
  have hb1 : Below w.heap.size w w1 := by rw [hw1]; exact ((Below.refl _ w).alloc (Nat.le_refl _) _).alloc (by simp) _
  have R1 : Hid (Rr w a len cap l g2 w1) := Lib.hid ⟨by rw [hg2]; exact hb1, by rw [hw1, hg2]; exact (Blk.new w _ _).alloc _, hb.below (Nat.le_refl _) hb1⟩
  have hrow : Blk w1 (g2 + 1) 5 #[.int .u8 31, .int .u8 139, .int .u8 8] := by
    have := Blk.new (w.alloc (.cells #[.bool false, .string ⟨#[]⟩, .float .f64 0] 31)) 5 #[.int .u8 31, .int .u8 139, .int .u8 8]
    rw [World.size_alloc, ← hg2] at this
    rw [hw1]; exact this
  have HG1 : Hid (∀ k, k < 3 → w1.cell? ⟨g2 + 1, k, none⟩ = some (.int .u8 ((mg k : Nat) : Int))) := Lib.hid fun k hk => by rw [hrow.cell k]; exact mg_cell k hk
  have HLE : Hid (l.length = len) := Lib.hid hb.len_eq
  clear hb hb1 hrow hB0
  go_enter Try.func7, Try.ntmps7
  go_upto_region 3 with (fail)
  rw [← hg2, ← hw1]
  obtain ⟨g1, hg1⟩ : ∃ g1, g1 = g2 + 1 := ⟨_, rfl⟩
  rw [← hg1] at HG1 ⊢
  have HW := Lib.hid hg2
  clear hg1 hw1 hg2
  go_loopw [6] (fun i wr => ∃ k : Nat, k ≤ 3 ∧ i = .int .i64 (k : Int) ∧ Hid (Mag l k) ∧ Hid (Rr w a len cap l g2 wr) ∧ Hid (∀ k, k < 3 → wr.cell? ⟨g1, k, none⟩ = some (.int .u8 ((mg k : Nat) : Int)))) (fun i _ => 3 - (intOf i).toNat)
  case atStart => exact ⟨0, by omega, rfl, Lib.hid (Mag.zero l), R1, HG1⟩
  case round =>
    clear R1 HG1
    obtain ⟨k, hk3, rfl, HM, R1, HG1⟩ := hrel
    have hlen := HLE.out
    by_cases hlt : k < 3
    · have hm := HM.out.1
      by_cases hsh : len ≤ k
      · have hge : len ≤ k := hsh
        have HRD := Lib.hid (rd_short HM.out (by omega) (by omega))
        clear hlen hm
        go_wp2_with (first | (refine wpList_store_row rfl _ _ _ rfl g2 _ rfl rfl 31 zeroC R1.out.z (by kernel_rfl) rfl (by simp [Value.oneCell']) ?_))
        exact rread_ret rfl rfl rfl rfl R1.out.zero.1 rfl (RRead.no (c := 5) HB0 (R1.out.zero2 HW.out) HRD.out (by decide) rfl)
      · have hkl : k < len := by omega
        obtain ⟨b, off, rfl⟩ := R1.out.row.some_ (by omega)
        have hc1 : wr.cell? ⟨g1, k, none⟩ = some (.int .u8 ((mg k : Nat) : Int)) := HG1.out k hlt
        have hc0 : wr.cell? ⟨b, off + k, none⟩ = some (.int .u8 ((l.getD k 0).toNat : Int)) := by
          rcases R1.out.row.at_ with h0 | ⟨b', off', he, -, hc⟩
          · omega
          · cases he
            rw [hc k (by omega)]
            simp [List.getD, List.getElem?_eq_getElem (show k < l.length by omega)]
        obtain ⟨mk, hmk⟩ : ∃ mk, mk = mg k := ⟨_, rfl⟩
        obtain ⟨c, hcc⟩ : ∃ c, c = (l.getD k 0).toNat := ⟨_, rfl⟩
        rw [← hmk] at hc1
        rw [← hcc] at hc0
        have hc1' : wr.drew.cell? ⟨g1, k, none⟩ = some (.int .u8 (mk : Int)) := hc1
        have hc0' : wr.drew.cell? ⟨b, off + k, none⟩ = some (.int .u8 (c : Int)) := hc0
        have R2 : Hid (Rr w (some ⟨b, off, none⟩) len cap l g2 wr.drew) := Lib.hid (R1.out.later (Below.refl _ _).drew)
        have HG2 : Hid (∀ k, k < 3 → wr.drew.cell? ⟨g1, k, none⟩ = some (.int .u8 ((mg k : Nat) : Int))) := Lib.hid HG1.out
        have HMK := Lib.hid hmk
        have HCC := Lib.hid hcc
        by_cases he : c = mk
        · have e1 : ((c : Int) != (mk : Int)) = false := by simp [he]
          have HM1 : Hid (Mag l (k + 1)) := Lib.hid (HM.out.succ (by omega) (by rw [← HCC.out, he, HMK.out]))
          clear hmk hcc hlen hm hsh he
          go_wp2_with fail
          go_region
          all_goals
            go_wp2_with fail
            go_roundw
            case rel => exact ⟨k + 1, by omega, by go_num, HM1, R2, HG2⟩
            case measure => simp [intOf]; omega
        · have e1 : ((c : Int) != (mk : Int)) = true := by simp; omega
          have HRD := Lib.hid (rd_wrong HM.out (by omega) (by omega) (by rw [← HCC.out, ← HMK.out]; exact he))
          clear hmk hcc hlen hm hsh he
          go_wp2_with fail
          go_region
          all_goals
            go_wp2_with (first | (refine wpList_store_row rfl _ _ _ rfl g2 _ rfl rfl 31 zeroC R2.out.z (by kernel_rfl) rfl (by simp [Value.oneCell']) ?_))
            exact rread_ret rfl rfl rfl rfl R2.out.zero.1 rfl (RRead.no (c := 2) HB0 (R2.out.zero2 HW.out) HRD.out (by decide) rfl)
    · obtain rfl : k = 3 := by omega
      have HGo := Lib.hid (rd_goes HM.out)
      have hm := HM.out.1
      clear HG1 HM hlt hk3
      by_cases h4 : len < 4
      · have HRD : Hid (rd l = .bad 5) := Lib.hid (by rw [HGo.out, if_pos (by omega)])
        clear hlen hm
        go_wp2_with (first | (refine wpList_store_row rfl _ _ _ rfl g2 _ rfl rfl 31 zeroC R1.out.z (by kernel_rfl) rfl (by simp [Value.oneCell']) ?_))
        exact rread_ret rfl rfl rfl rfl R1.out.zero.1 rfl (RRead.no (c := 5) HB0 (R1.out.zero2 HW.out) HRD.out (by decide) rfl)
      obtain ⟨b, off, rfl⟩ := R1.out.row.some_ (by omega)
      have hc3 : wr.cell? ⟨b, off + 3, none⟩ = some (.int .u8 ((l.getD 3 0).toNat : Int)) := by
        rcases R1.out.row.at_ with h0 | ⟨b', off', he, -, hc⟩
        · omega
        · cases he
          rw [hc 3 (by omega)]
          simp [List.getD, List.getElem?_eq_getElem (show 3 < l.length by omega)]
      have HGo2 : Hid (rd l = if 32 ≤ (l.getD 3 0).toNat then .bad 2 else if l.length < 8 then .bad 5 else if l.length < 10 then .bad 5 else gext l (l.getD 3 0).toNat 10 ⟨false, [], Go.My.NumMath.num false ((l.drop 4).take 4), 0⟩) := Lib.hid (by rw [HGo.out, if_neg (by omega)])
      obtain ⟨f, hf⟩ : ∃ f, f = (l.getD 3 0).toNat := ⟨_, rfl⟩
      have hf256 : f < 256 := by rw [hf]; exact UInt8.toNat_lt _
      rw [← hf] at HGo2 hc3
      clear HGo hf hm
      have b224 := flag8_224 f hf256
      obtain ⟨z, hz⟩ : ∃ z, z = f / 32 * 32 := ⟨_, rfl⟩
      rw [← hz] at b224
      have hge4 : ¬ len < 4 := h4
      by_cases hf32 : 32 ≤ f
      · have e1 : (((z : Nat) : Int) != 0) = true := by simp; omega
        have HRD : Hid (rd l = .bad 2) := Lib.hid (by rw [HGo2.out, if_pos hf32])
        clear hz hlen
        go_wp2_with (first | (refine wpList_store_row rfl _ _ _ rfl g2 _ rfl rfl 31 zeroC R1.out.z (by kernel_rfl) rfl (by simp [Value.oneCell']) ?_))
        exact rread_ret rfl rfl rfl rfl R1.out.zero.1 rfl (RRead.no (c := 2) HB0 (R1.out.zero2 HW.out) HRD.out (by decide) rfl)
      have e1 : z = 0 := by omega
      subst e1
      clear hz
      have HGo3 : Hid (rd l = if l.length < 8 then .bad 5 else if l.length < 10 then .bad 5 else gext l f 10 ⟨false, [], Go.My.NumMath.num false ((l.drop 4).take 4), 0⟩) := Lib.hid (by rw [HGo2.out, if_neg hf32])
      clear HGo2 hf32
      by_cases h10 : len < 10
      · have HRD : Hid (rd l = .bad 5) := Lib.hid (by rw [HGo3.out]; split; rfl; rw [if_pos (by omega)])
        clear hlen
        go_wp2_with (first | (refine wpList_store_row rfl _ _ _ rfl g2 _ rfl rfl 31 zeroC R1.out.z (by kernel_rfl) rfl (by simp [Value.oneCell']) ?_))
        exact rread_ret rfl rfl rfl rfl R1.out.zero.1 rfl (RRead.no (c := 5) HB0 (R1.out.zero2 HW.out) HRD.out (by decide) rfl)
      have HGo4 : Hid (rd l = gext l f 10 ⟨false, [], Go.My.NumMath.num false ((l.drop 4).take 4), 0⟩) := Lib.hid (by rw [HGo3.out, if_neg (by omega), if_neg (by omega)])
      clear HGo3
      have HNM := Lib.hid (NumC.number_ok b off len cap 4 4 l false wr R1.out.row (by omega) (by omega) (by omega))
      have htlt : Go.My.NumMath.num false ((l.drop 4).take 4) < 4294967296 := by
        have := num_lt false ((l.drop 4).take 4)
        have hl2 : ((l.drop 4).take 4).length = 4 := by simp; omega
        rw [hl2] at this; exact this
      obtain ⟨tm, htm⟩ : ∃ tm, tm = Go.My.NumMath.num false ((l.drop 4).take 4) := ⟨_, rfl⟩
      rw [← htm] at HGo4 HNM htlt
      clear htm hlen
      have w4 : IntKind.i64.wrap (tm : Int) = (tm : Int) := IntWalk.i64_in _ (by omega)
      go_wp2_with fail
      refine HNM.out.mono ?_
      rintro e w2 ⟨rfl, rfl⟩
      go_wp2_with fail
      refine (ClkC.reffromunix_any (tm : Int) wr).mono ?_
      rintro e w5 ⟨⟨tf, rfl, hlike⟩, hb5⟩
      have HLK := Lib.hid hlike
      have R5 := Lib.hid (R1.out.later hb5)
      clear hlike hb5 HNM R1 hc3 b224
      have hc2 : (w5.alloc (.cells #[.bool false, .string ⟨#[]⟩, .float .f64 0] 31)).cell? ⟨w5.heap.size, 2, none⟩ = some (.float .f64 0) := by simp [go_sem]
      have hz2 : (w5.alloc (.cells #[.bool false, .string ⟨#[]⟩, .float .f64 0] 31)).frozen? ⟨w5.heap.size, 2, none⟩ = false := by simp [go_sem]
      have hst := store_float _ tf _ _ hc2 hz2
      go_upto_region 19 with (fail)
      obtain ⟨g6, hg6⟩ : ∃ g6, g6 = w5.heap.size := ⟨_, rfl⟩
      obtain ⟨w6, hw6⟩ : ∃ w6, w6 = w5.alloc (.cells #[.bool false, .string ⟨#[]⟩, .float .f64 tf] 31) := ⟨_, rfl⟩
      have hb6 : Below w5.heap.size w5 w6 := by rw [hw6]; exact (Below.refl _ _).alloc (Nat.le_refl _) _
      have M6 : Hid (Rm w (some ⟨b, off, none⟩) len cap l g2 g6 false [] tf w6) := Lib.hid ⟨R5.out.later hb6, by rw [hw6, hg6]; exact Blk.new _ _ _, by have := R5.out.z.lt; omega, by have := R5.out.below.size; have := HW.out; have := R5.out.z.lt; omega, fun b1 off1 e => by
        rcases R5.out.row.at_ with h0 | ⟨b', off', e', hlt', -⟩
        · omega
        · rw [e] at e'; cases e'; omega⟩
      rw [← hg6, ← hw6]
      clear hg6 hw6 hb6 hc2 hz2 hst R5
      obtain ⟨a, ha⟩ : ∃ a, a = some (⟨b, off, none⟩ : Addr) := ⟨_, rfl⟩
      have HA := Lib.hid ha
      obtain ⟨z4, hz4⟩ : ∃ z4, z4 = bits .and .u8 (f : Int) 4 := ⟨_, rfl⟩
      have H4 := Lib.hid (flag_is f 4 4 z4 rfl (by rw [hz4]; exact flag8_4 f hf256))
      have b4 := hz4.symm
      clear hz4
      go_upto_if 68 with (fail)
      go_cut [7, 11] (fun v7 v wc => v7 = .int .u8 (f : Int) ∧ ∃ k : Nat, v = .int .i64 (k : Int) ∧ k ≤ len ∧ Hid (Rm w (some ⟨b, off, none⟩) len cap l g2 g6 false [] tf wc) ∧ Hid (rd l = gnam l f k ⟨false, [], tm, 0⟩))
      case first =>
        rcases H4.out with ⟨rfl, hb⟩ | ⟨rfl, hb⟩
        · have hN := rnum_all b off len cap 10 2 l w6 M6.out.rr.row (by omega) (by omega) (by omega)
          have hll := HLE.out
          by_cases hs : len < 12
          · rw [if_pos (by omega), if_pos (by omega)] at hN
            have HN := Lib.hid hN
            have HRD : Hid (rd l = .bad 5) := Lib.hid (by rw [HGo4.out]; unfold gext; rw [if_pos hb, if_pos (by omega)])
            clear hN hll
            go_wp2_with fail
            refine HN.out.mono ?_
            rintro e w7 ⟨rfl, rfl⟩
            go_wp2_with (first | (refine wpList_store_row rfl _ _ _ rfl g2 _ rfl rfl 31 zeroC M6.out.rr.z (by kernel_rfl) rfl (by simp [Value.oneCell']) ?_))
            exact rread_ret rfl rfl rfl rfl M6.out.rr.zero.1 rfl (RRead.no (c := 5) HB0 (M6.out.rr.zero2 HW.out) HRD.out (by decide) rfl)
          rw [if_neg (by omega), if_neg (by omega)] at hN
          have hn16 := two_lt (l := l) (k := 10) (by omega)
          obtain ⟨n, hn⟩ : ∃ n, n = Go.My.NumMath.num false ((l.drop 10).take 2) := ⟨_, rfl⟩
          rw [← hn] at hN hn16
          have HN := Lib.hid hN
          have HNN := Lib.hid hn
          obtain ⟨Q, hQ⟩ : ∃ Q, Q = len - 12 := ⟨_, rfl⟩
          have w1' : IntKind.i64.wrap ((len : Int) - 10) = (len : Int) - 10 := IntWalk.i64_in _ (by omega)
          have w2' : IntKind.i64.wrap ((len : Int) - 10 - 2) = (Q : Int) := by rw [IntWalk.i64_in _ (by omega)]; omega
          have w3' : IntKind.i64.wrap (n : Int) = (n : Int) := IntWalk.i64_in _ (by omega)
          have w4' : IntKind.i64.wrap (12 + (n : Int)) = ((12 + n : Nat) : Int) := by rw [IntWalk.i64_in _ (by omega)]; omega
          by_cases hgt : Q < n
          · have hd : decide ((n : Int) > (Q : Int)) = true := by simp; omega
            have HRD : Hid (rd l = .bad 5) := Lib.hid (by rw [HGo4.out]; unfold gext; rw [if_pos hb, if_neg (by omega), ← HNN.out, if_pos (by omega)])
            clear hN hn hQ hll
            go_wp2_with fail
            refine HN.out.mono ?_
            rintro e w7 ⟨rfl, rfl⟩
            go_wp2_with (first | (refine wpList_store_row rfl _ _ _ rfl g2 _ rfl rfl 31 zeroC M6.out.rr.z (by kernel_rfl) rfl (by simp [Value.oneCell']) ?_))
            exact rread_ret rfl rfl rfl rfl M6.out.rr.zero.1 rfl (RRead.no (c := 5) HB0 (M6.out.rr.zero2 HW.out) HRD.out (by decide) rfl)
          · have hd : decide ((n : Int) > (Q : Int)) = false := by simp; omega
            have hk2 : 12 + n ≤ len := by omega
            have HR7 : Hid (rd l = gnam l f (12 + n) ⟨false, [], tm, 0⟩) := Lib.hid (by rw [HGo4.out]; unfold gext; rw [if_pos hb, if_neg (by omega), ← HNN.out, if_neg (by omega)])
            clear hN hn hQ hll
            go_wp2_with fail
            refine HN.out.mono ?_
            rintro e w7 ⟨rfl, rfl⟩
            go_wp2_with fail
            go_meet
            case rel => exact ⟨rfl, 12 + n, rfl, hk2, M6, HR7⟩
        · go_wp2_with fail
          go_meet
          case rel => exact ⟨rfl, 10, rfl, by omega, M6, Lib.hid (by rw [HGo4.out]; unfold gext; rw [if_neg hb])⟩
      obtain ⟨rfl, k, rfl, hk, M7, HG7⟩ := hcut
      clear M6 HGo4 H4 b4
      obtain ⟨z8, hz8⟩ : ∃ z8, z8 = bits .and .u8 (f : Int) 8 := ⟨_, rfl⟩
      have H8 := Lib.hid (flag_is f 8 8 z8 rfl (by rw [hz8]; exact flag8_8 f hf256))
      have b8 := hz8.symm
      clear hz8
      go_upto_if 95 with (fail)
      go_cut [7, 11] (fun v7 v wd => v7 = .int .u8 (f : Int) ∧ ∃ (k : Nat) (named : Bool) (name : List UInt8), v = .int .i64 (k : Int) ∧ k ≤ len ∧ Hid (Rm w (some ⟨b, off, none⟩) len cap l g2 g6 named name tf wd) ∧ Hid (rd l = grem l f k ⟨named, name, tm, 0⟩))
      case first =>
        rcases H8.out with ⟨rfl, hb⟩ | ⟨rfl, hb⟩
        · have hT := rtext_any (some ⟨b, off, none⟩) len cap k l wc M7.out.rr.row hl hk
          have hll := HLE.out
          by_cases ht : tx (l.drop k) = 0
          · have hV : txV (l.drop k) k = .tuple #[.string ⟨((l.drop k).take (zer (l.drop k))).toArray⟩, .int .i64 ((k + zer (l.drop k) + 1 : Nat) : Int), .int .i64 0] := by unfold txV; rw [if_pos ht]
            have hzk : k + zer (l.drop k) + 1 ≤ len := by
              rcases tx_cases (l.drop k) with ⟨h, h1, h2⟩ | ⟨h, h1, h2⟩ | ⟨h, h1, h2⟩
              · have : (l.drop k).length = len - k := by simp [hll]
                omega
              · omega
              · omega
            rw [hV] at hT
            have HR8 : Hid (rd l = grem l f (k + zer (l.drop k) + 1) ⟨true, (l.drop k).take (zer (l.drop k)), tm, 0⟩) := Lib.hid (by rw [HG7.out]; unfold gnam; rw [if_pos hb, if_neg (by rw [ht]; decide)])
            generalize (l.drop k).take (zer (l.drop k)) = nm at *
            generalize k + zer (l.drop k) + 1 = k9 at *
            have HT := Lib.hid hT
            have c0 : wc.cell? ⟨g6, 0, none⟩ = some (.bool false) := M7.out.blk.cell 0
            have f0 : wc.frozen? ⟨g6, 0, none⟩ = false := M7.out.blk.frozen 0
            have hbl := M7.out.blk.set_ 0 (.bool true)
            have c1 : wc.cell? ⟨g6, 1, none⟩ = some (.string ⟨#[]⟩) := M7.out.blk.cell 1
            have f1 : wc.frozen? ⟨g6, 1, none⟩ = false := M7.out.blk.frozen 1
            have c1' : (wc.setCell ⟨g6, 0, none⟩ (.bool true)).cell? ⟨g6, 1, none⟩ = some (.string ⟨#[]⟩) := hbl.cell 1
            have f1' : (wc.setCell ⟨g6, 0, none⟩ (.bool true)).frozen? ⟨g6, 1, none⟩ = false := hbl.frozen 1
            have M8 : Hid (Rm w (some ⟨b, off, none⟩) len cap l g2 g6 true nm tf ((wc.setCell ⟨g6, 0, none⟩ (.bool true)).setCell ⟨g6, 1, none⟩ (.string ⟨nm.toArray⟩))) := Lib.hid (by
              have ho : Only (fun k => k = g6) wc ((wc.setCell ⟨g6, 0, none⟩ (.bool true)).setCell ⟨g6, 1, none⟩ (.string ⟨nm.toArray⟩)) := (((Only.refl (fun k => g6 = k) wc).setCell (p := ⟨g6, 0, none⟩) (fun _ => rfl) _).setCell (p := ⟨g6, 1, none⟩) (fun _ => rfl) _).mono (fun _ _ h => h.symm)
              have h := M7.out
              refine ⟨⟨h.rr.below.trans (ho.below (Nat.le_of_lt h.rr.z.lt) (fun j e => ?_)), ho.blk h.rr.z (fun e => h.ne e.symm), ho.bytes h.rr.row (fun b1 o1 e hh => h.na b1 o1 e hh)⟩, hbl.set_ 1 (.string ⟨nm.toArray⟩), h.ne, h.low, h.na⟩
              have := HW.out; have := h.low; omega)
            clear hT hV ht hll hbl
            go_wp2_with fail
            refine HT.out.mono ?_
            rintro e w8 ⟨rfl, rfl⟩
            go_wp2_with fail
            go_meet
            case rel => exact ⟨rfl, k9, true, nm, rfl, hzk, M8, HR8⟩
          · have hV : txV (l.drop k) k = .tuple #[.string ⟨#[]⟩, .int .i64 0, .int .i64 ((tx (l.drop k) : Nat) : Int)] := by unfold txV; rw [if_neg ht]
            rw [hV] at hT
            have HRD : Hid (rd l = .bad (tx (l.drop k))) := Lib.hid (by rw [HG7.out]; unfold gnam; rw [if_pos hb, if_pos ht])
            generalize tx (l.drop k) = c at *
            have HT := Lib.hid hT
            have e1 : ((c : Int) != 0) = true := by simp; omega
            clear hT hV hll
            go_wp2_with fail
            refine HT.out.mono ?_
            rintro e w8 ⟨rfl, rfl⟩
            go_wp2_with (first | (refine wpList_store_row rfl _ _ _ rfl g2 _ rfl rfl 31 zeroC M7.out.rr.z (by kernel_rfl) rfl (by simp [Value.oneCell']) ?_))
            exact rread_ret rfl rfl rfl rfl M7.out.rr.zero.1 rfl (RRead.no (c := c) HB0 (M7.out.rr.zero2 HW.out) HRD.out (by assumption) rfl)
        · go_wp2_with fail
          go_meet
          case rel => exact ⟨rfl, k, false, [], rfl, hk, M7, Lib.hid (by rw [HG7.out]; unfold gnam; rw [if_neg hb])⟩
      obtain ⟨rfl, k2, named, name, rfl, hk2, M8, HG8⟩ := hcut
      clear M7 HG7 H8 b8
      obtain ⟨z16, hz16⟩ : ∃ z16, z16 = bits .and .u8 (f : Int) 16 := ⟨_, rfl⟩
      have H16 := Lib.hid (flag_is f 16 16 z16 rfl (by rw [hz16]; exact flag8_16 f hf256))
      have b16 := hz16.symm
      clear hz16
      go_upto_if 113 with (fail)
      go_cut [7, 11] (fun v7 v wd => v7 = .int .u8 (f : Int) ∧ ∃ (k : Nat), v = .int .i64 (k : Int) ∧ k ≤ len ∧ Hid (Rm w (some ⟨b, off, none⟩) len cap l g2 g6 named name tf wd) ∧ Hid (rd l = gsum l f k ⟨named, name, tm, 0⟩))
      case first =>
        rcases H16.out with ⟨rfl, hb⟩ | ⟨rfl, hb⟩
        · have hT := rtext_any (some ⟨b, off, none⟩) len cap k2 l wc M8.out.rr.row hl hk2
          have hll := HLE.out
          by_cases ht : tx (l.drop k2) = 0
          · have hV : txV (l.drop k2) k2 = .tuple #[.string ⟨((l.drop k2).take (zer (l.drop k2))).toArray⟩, .int .i64 ((k2 + zer (l.drop k2) + 1 : Nat) : Int), .int .i64 0] := by unfold txV; rw [if_pos ht]
            have hzk : k2 + zer (l.drop k2) + 1 ≤ len := by
              rcases tx_cases (l.drop k2) with ⟨h, h1, h2⟩ | ⟨h, h1, h2⟩ | ⟨h, h1, h2⟩
              · have : (l.drop k2).length = len - k2 := by simp [hll]
                omega
              · omega
              · omega
            rw [hV] at hT
            have HR8 : Hid (rd l = gsum l f (k2 + zer (l.drop k2) + 1) ⟨named, name, tm, 0⟩) := Lib.hid (by rw [HG8.out]; unfold grem; rw [if_pos hb, if_neg (by rw [ht]; decide)])
            generalize (l.drop k2).take (zer (l.drop k2)) = nm at *
            generalize k2 + zer (l.drop k2) + 1 = k9 at *
            have HT := Lib.hid hT
            clear hT hV ht hll
            go_wp2_with fail
            refine HT.out.mono ?_
            rintro e w8 ⟨rfl, rfl⟩
            go_wp2_with fail
            go_meet
            case rel => exact ⟨rfl, k9, rfl, hzk, M8, HR8⟩
          · have hV : txV (l.drop k2) k2 = .tuple #[.string ⟨#[]⟩, .int .i64 0, .int .i64 ((tx (l.drop k2) : Nat) : Int)] := by unfold txV; rw [if_neg ht]
            rw [hV] at hT
            have HRD : Hid (rd l = .bad (tx (l.drop k2))) := Lib.hid (by rw [HG8.out]; unfold grem; rw [if_pos hb, if_pos ht])
            generalize tx (l.drop k2) = c at *
            have HT := Lib.hid hT
            have e1 : ((c : Int) != 0) = true := by simp; omega
            clear hT hV hll
            go_wp2_with fail
            refine HT.out.mono ?_
            rintro e w8 ⟨rfl, rfl⟩
            go_wp2_with (first | (refine wpList_store_row rfl _ _ _ rfl g2 _ rfl rfl 31 zeroC M8.out.rr.z (by kernel_rfl) rfl (by simp [Value.oneCell']) ?_))
            exact rread_ret rfl rfl rfl rfl M8.out.rr.zero.1 rfl (RRead.no (c := c) HB0 (M8.out.rr.zero2 HW.out) HRD.out (by assumption) rfl)
        · go_wp2_with fail
          go_meet
          case rel => exact ⟨rfl, k2, rfl, hk2, M8, Lib.hid (by rw [HG8.out]; unfold grem; rw [if_neg hb])⟩
      obtain ⟨rfl, k3, rfl, hk3, M9, HG9⟩ := hcut
      clear M8 HG8 H16 b16
      obtain ⟨z2, hz2⟩ : ∃ z2, z2 = bits .and .u8 (f : Int) 2 := ⟨_, rfl⟩
      have H2 := Lib.hid (flag_is f 2 2 z2 rfl (by rw [hz2]; exact flag8_2 f hf256))
      have b2 := hz2.symm
      clear hz2
      go_upto_if 128 with (fail)
      go_cut [7, 11] (fun v7 v wd => v7 = .int .u8 (f : Int) ∧ ∃ (k : Nat), v = .int .i64 (k : Int) ∧ k ≤ len ∧ Hid (Rm w (some ⟨b, off, none⟩) len cap l g2 g6 named name tf wd) ∧ Hid (rd l = .ok ⟨named, name, tm, k⟩))
      case first =>
        rcases H2.out with ⟨rfl, hb⟩ | ⟨rfl, hb⟩
        · have hN := rnum_all b off len cap k3 2 l wc M9.out.rr.row (by omega) (by omega) (by omega)
          have hll := HLE.out
          by_cases hs : len < k3 + 2
          · rw [if_pos (by omega), if_pos (by omega)] at hN
            have HN := Lib.hid hN
            have HRD : Hid (rd l = .bad 5) := Lib.hid (by rw [HG9.out]; unfold gsum; rw [if_pos hb, if_pos (by omega)])
            clear hN hll
            go_wp2_with fail
            refine HN.out.mono ?_
            rintro e w7 ⟨rfl, rfl⟩
            go_wp2_with (first | (refine wpList_store_row rfl _ _ _ rfl g2 _ rfl rfl 31 zeroC M9.out.rr.z (by kernel_rfl) rfl (by simp [Value.oneCell']) ?_))
            exact rread_ret rfl rfl rfl rfl M9.out.rr.zero.1 rfl (RRead.no (c := 5) HB0 (M9.out.rr.zero2 HW.out) HRD.out (by decide) rfl)
          rw [if_neg (by omega), if_neg (by omega)] at hN
          have hn16 := two_lt (l := l) (k := k3) (by omega)
          obtain ⟨n, hn⟩ : ∃ n, n = Go.My.NumMath.num false ((l.drop k3).take 2) := ⟨_, rfl⟩
          rw [← hn] at hN hn16
          have HN := Lib.hid hN
          have HC := Lib.hid (CrcC.ref_bv 0#32 (some ⟨b, off, none⟩) k3 cap (l.take k3) wc (M9.out.rr.row.take k3 hk3))
          have hcap : k3 ≤ cap := by have := M9.out.rr.row.le_cap; omega
          obtain ⟨sm, hsm⟩ : ∃ sm, sm = (crc 0#32 (l.take k3)).toNat := ⟨_, rfl⟩
          have hsm32 : sm < 4294967296 := by rw [hsm]; exact BitVec.isLt _
          rw [← hsm] at HC
          obtain ⟨sl, hsl⟩ : ∃ sl, sl = sm % 65536 := ⟨_, rfl⟩
          have ha := and_low sm hsm32
          rw [← hsl] at ha
          have u1 : IntKind.u32.wrap (n : Int) = (n : Int) := IntWalk.u32_in _ (by omega)
          have w4' : IntKind.i64.wrap ((k3 : Int) + 2) = ((k3 + 2 : Nat) : Int) := by rw [IntWalk.i64_in _ (by omega)]; omega
          have HRB : Hid (rd l = if n ≠ sl then .bad 2 else .ok ⟨named, name, tm, k3 + 2⟩) := Lib.hid (by rw [HG9.out]; unfold gsum; rw [if_pos hb, if_neg (by omega), ← hn, ← hsm, ← hsl])
          have hkk : k3 + 2 ≤ len := by omega
          have hz32 : ((0#32).toNat : Int) = 0 := rfl
          rw [hz32] at HC
          clear hN hn hsm hsl hll hz32
          by_cases he : n = sl
          · have e1 : ((n : Int) != (sl : Int)) = false := by simp [he]
            have HR9 : Hid (rd l = .ok ⟨named, name, tm, k3 + 2⟩) := Lib.hid (by rw [HRB.out, if_neg (by simp [he])])
            clear he
            go_wp2_with fail
            refine HN.out.mono ?_
            rintro e w7 ⟨rfl, rfl⟩
            go_wp2_with fail
            refine HC.out.mono ?_
            rintro e w8 ⟨rfl, rfl⟩
            go_wp2_with fail
            go_meet
            case rel => exact ⟨rfl, k3 + 2, rfl, hkk, M9, HR9⟩
          · have e1 : ((n : Int) != (sl : Int)) = true := by simp; omega
            have HRD : Hid (rd l = .bad 2) := Lib.hid (by rw [HRB.out, if_pos he])
            go_wp2_with fail
            refine HN.out.mono ?_
            rintro e w7 ⟨rfl, rfl⟩
            go_wp2_with fail
            refine HC.out.mono ?_
            rintro e w8 ⟨rfl, rfl⟩
            go_wp2_with (first | (refine wpList_store_row rfl _ _ _ rfl g2 _ rfl rfl 31 zeroC M9.out.rr.z (by kernel_rfl) rfl (by simp [Value.oneCell']) ?_))
            exact rread_ret rfl rfl rfl rfl M9.out.rr.zero.1 rfl (RRead.no (c := 2) HB0 (M9.out.rr.zero2 HW.out) HRD.out (by decide) rfl)
        · go_wp2_with fail
          go_meet
          case rel => exact ⟨rfl, k3, rfl, hk3, M9, Lib.hid (by rw [HG9.out]; unfold gsum; rw [if_neg hb])⟩
      obtain ⟨rfl, k4, rfl, hk4, MA, HGA⟩ := hcut
      clear M9 HG9 H2 b2
      have HB6 := Lib.hid MA.out.blk
      go_wp2_with (first
        | (refine wpList_load_row rfl 31 _ rfl g6 rfl 31 #[.bool named, .string ⟨name.toArray⟩, .float .f64 tf] (0, 0) _ HB6.out Try.underlying31 rfl (by kernel_rfl) ?_)
        | (refine wpList_store_row rfl _ _ _ rfl g2 _ rfl rfl 31 zeroC MA.out.rr.z (by kernel_rfl) rfl (by simp [Value.oneCell']) ?_))
      exact rread_ret (C := #[.bool named, .string ⟨name.toArray⟩, .float .f64 tf]) rfl rfl rfl rfl (setRow_heap _ _ _ _ _ _ MA.out.rr.z) rfl ⟨by rw [HB0.out]; exact MA.out.rr.row2 HW.out _, .inr ⟨_, tf, HGA.out, HLK.out, rfl⟩⟩
end Go.Proofs.Ytilfmmjjiiabgaa.GzC
