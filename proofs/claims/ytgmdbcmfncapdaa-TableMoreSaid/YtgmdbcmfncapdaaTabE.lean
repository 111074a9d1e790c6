/-
  A table in memory: its elements; where a row of bits leads.
-/
import Derived.Test.YtgmdbcmfncapdaaTabR
import Derived.Deep.DeepCutAuto
import Derived.Deep.CutBlock
import Derived.StillTailTactics
import Derived.BigRegion
import Derived.Deep.RegionHeld3
import Derived.Deep.RegionWith
namespace Go.Proofs.Ytgmdbcmfncapdaa.TabC
open Go.RowKit Go.My BitMath CanMath TabMath

/-- An element's three cells. -/
def ec (e : El) : Array Value := #[.int .u16 ((e.v : Nat) : Int), .int .u8 ((e.l : Nat) : Int), .int .u8 ((e.m : Nat) : Int)]
/-- A row of n elements. -/
structure Els (C : Array Value) (n : Nat) (T : Nat → El) : Prop where
  size : C.size = n * 3
  at0 : ∀ j, j < n → C[j * 3]? = some (.int .u16 (((T j).v : Nat) : Int))
  at1 : ∀ j, j < n → C[j * 3 + 1]? = some (.int .u8 (((T j).l : Nat) : Int))
  at2 : ∀ j, j < n → C[j * 3 + 2]? = some (.int .u8 (((T j).m : Nat) : Int))
/-- A table: so many first bits, its elements in a block of their own. -/
structure TabAt (w : World) (g ge f n : Nat) (T : Nat → El) : Prop where
  tab : Blk w g 48 #[.int .u64 (f : Int), .slice (some ⟨ge, 0, none⟩) n n]
  row : ∃ C, Blk w ge 54 C ∧ Els C n T
theorem TabAt.alloc {w : World} {g ge f n : Nat} {T : Nat → El} (h : TabAt w g ge f n T) (o : Obj) : TabAt (w.alloc o) g ge f n T := by
  obtain ⟨h1, C, h2, h3⟩ := h
  exact ⟨h1.alloc o, C, h2.alloc o, h3⟩
theorem TabAt.same {w w' : World} {g ge f n : Nat} {T : Nat → El} (h : TabAt w g ge f n T) (h1 : w'.heap[g]? = w.heap[g]?) (h2 : w'.heap[ge]? = w.heap[ge]?) : TabAt w' g ge f n T := by
  obtain ⟨h3, C, h4, h5⟩ := h
  exact ⟨h3.same h1, C, h4.same h2, h5⟩
theorem TabAt.lt {w : World} {g ge f n : Nat} {T : Nat → El} (h : TabAt w g ge f n T) : g < w.heap.size ∧ ge < w.heap.size := by
  obtain ⟨h3, C, h4, h5⟩ := h
  exact ⟨h3.lt, h4.lt⟩
theorem TabAt.drew {w : World} {g ge f n : Nat} {T : Nat → El} (h : TabAt w g ge f n T) : TabAt w.drew g ge f n T := h.same rfl rfl
theorem TabAt.below {w w' : World} {g ge f n : Nat} {T : Nat → El} (h : TabAt w g ge f n T) (hb : Below w.heap.size w w') : TabAt w' g ge f n T :=
  h.same (hb.block g h.lt.1) (hb.block ge h.lt.2)
theorem TabAt.el {w : World} {g ge f n : Nat} {T : Nat → El} (h : TabAt w g ge f n T) (j : Nat) (hj : j < n) :
    w.cell? ⟨ge, j * 3, none⟩ = some (.int .u16 (((T j).v : Nat) : Int)) ∧ w.cell? ⟨ge, j * 3 + 1, none⟩ = some (.int .u8 (((T j).l : Nat) : Int)) ∧ w.cell? ⟨ge, j * 3 + 2, none⟩ = some (.int .u8 (((T j).m : Nat) : Int)) := by
  obtain ⟨_, C, h4, h5⟩ := h
  exact ⟨by rw [h4.cell]; exact h5.at0 j hj, by rw [h4.cell]; exact h5.at1 j hj, by rw [h4.cell]; exact h5.at2 j hj⟩
theorem u32_low (v f : Nat) (hv : v < 4294967296) (hf : f ≤ 15) : bits .and .u32 (v : Int) (((2 : Int) ^ f - 1) % 4294967296) = ((v % 2 ^ f : Nat) : Int) := by
  have hp : 2 ^ f ≤ 2 ^ 15 := Nat.pow_le_pow_right (by omega) hf
  have h0 : 0 < 2 ^ f := Nat.two_pow_pos f
  have e : ((2 : Int) ^ f - 1) % 4294967296 = ((2 ^ f - 1 : Nat) : Int) := by
    have e1 : (2 : Int) ^ f = ((2 ^ f : Nat) : Int) := by push_cast; rfl
    rw [e1]; omega
  rw [e, u32_and_nat _ _ hv (by omega), Nat.and_two_pow_sub_one_eq_mod]

theorem start_any (g f v : Nat) (u : Value) (w : World) (h : Blk w g 48 #[.int .u64 (f : Int), u]) (hf : f ≤ 15) (hv : v < 4294967296) :
    Calls Try.prog 26 #[.pointer (some ⟨g, 0, none⟩), .int .u32 (v : Int)] w fun e w' => e = .returned (.int .u32 ((v % 2 ^ f : Nat) : Int)) ∧ w = w' := by
  have hc0 : w.cell? ⟨g, 0, none⟩ = some (.int .u64 (f : Int)) := by rw [h.cell]; rfl
  go_enter Try.func26, Try.ntmps26
  have hb := u32_low v f hv hf
  go_wp2_with fail
  go_ret
  exact ⟨rfl, rfl⟩

theorem start_at {g f v p : Nat} {u : Value} (hs : p = v % 2 ^ f ∧ f ≤ 15 ∧ v < 4294967296) (w : World) (h : Hid (Blk w g 48 #[.int .u64 (f : Int), u])) :
    Calls Try.prog 26 #[.pointer (some ⟨g, 0, none⟩), .int .u32 (v : Int)] w fun e w' => e = .returned (.int .u32 ((p : Nat) : Int)) ∧ w = w' := by
  rw [hs.1]; exact start_any g f v u w h.out hs.2.1 hs.2.2

theorem info_el : (Try.prog.info? 54).map (·.size) = some 3 := by kernel_rfl
abbrev e0 : Array Value := #[.int .u16 0, .int .u8 0, .int .u8 0]
/-- What look finds in the elements. -/
def lookT (T : Nat → El) (f v : Nat) : El := if 0 < (T (v % 2 ^ f)).m then T ((T (v % 2 ^ f)).v + v / 2 ^ f % 2 ^ (T (v % 2 ^ f)).m) else T (v % 2 ^ f)
theorem look_ret {a : Act} {w : World} {g : Nat} {C : Array Value} {R : Ending → World → Prop} (hd : a.defers = []) (hp : a.tmps.getD 4 undef = .pointer (some ⟨g, 0, none⟩))
    (hg : Blk w g 54 C) (hs : C.size = 3) (h : R (.returned (.agg C)) w) :
    bodyPost Try.prog Try.f20 R .ret a w := by
  refine bodyPost_ret (v := .agg C) ?_ hd h
  have hp' : a.tmps[4]?.getD undef = .pointer (some ⟨g, 0, none⟩) := by simpa using hp
  simp [results, hp', asAddr, run_loadVar_row (P := Try.prog) w g 54 54 C (0, 0) _ hg Try.underlying54 rfl (by rw [hs]; exact info_el)]
theorem look_nums (v f em q : Nat) (hv : v < 32768) (hm : em ≤ 14) (hq : q = v / 2 ^ f % 2 ^ em) :
    IntKind.u32.wrap ((2 : Int) ^ em) = (2 : Int) ^ em ∧ IntKind.u32.wrap ((2 : Int) ^ em - 1) = (2 : Int) ^ em - 1 ∧ bits .and .u32 ((v : Int) / 2 ^ f) ((2 : Int) ^ em - 1) = (q : Int) := by
  have h := u32_low (v / 2 ^ f) em (by have := Nat.div_le_self v (2 ^ f); omega) (by omega)
  have e : (v : Int) / 2 ^ f = ((v / 2 ^ f : Nat) : Int) := by push_cast; rfl
  have h2 : 2 ^ em ≤ 2 ^ 14 := Nat.pow_le_pow_right (by omega) hm
  have h0 := Nat.two_pow_pos em
  have e1 : (2 : Int) ^ em = ((2 ^ em : Nat) : Int) := by push_cast; rfl
  rw [Int.emod_eq_of_lt (by rw [e1]; omega) (by rw [e1]; omega)] at h
  refine ⟨by rw [IntKind.wrap_u32, e1]; omega, by rw [IntKind.wrap_u32, e1]; omega, ?_⟩
  rw [e, h, hq]

set_option maxRecDepth 100000 in
set_option maxHeartbeats 4000000 in
theorem look_any (g ge f n v : Nat) (T : Nat → El) (w : World) (h : TabAt w g ge f n T) (hf : f ≤ 15) (hv : v < 32768) (hp : v % 2 ^ f < n) (hm : (T (v % 2 ^ f)).m ≤ 14) (hj : 0 < (T (v % 2 ^ f)).m → (T (v % 2 ^ f)).v + v / 2 ^ f % 2 ^ (T (v % 2 ^ f)).m < n) (hl : (T (v % 2 ^ f)).v < 65536) :
    Calls Try.prog 20 #[.pointer (some ⟨g, 0, none⟩), .int .u32 (v : Int)] w fun e w' => e = .returned (.agg (ec (lookT T f v))) ∧ Below w.heap.size w w' := by
  have HT := Lib.hid h
  have hz : ((n : Int) == 0) = false := by simp; omega
  clear h
  go_enter Try.func20, Try.ntmps20
  go_upto_region 1 with (fail)
  obtain ⟨w1, hw1⟩ : ∃ w1, w1 = w.alloc (.cells e0 54) := ⟨_, rfl⟩
  have HB1 : Hid (Below w.heap.size w w1) := Lib.hid (by rw [hw1]; exact (Below.refl _ w).alloc (Nat.le_refl _) _)
  have HT1 : Hid (TabAt w1 g ge f n T) := Lib.hid (by rw [hw1]; exact HT.out.alloc _)
  have HR1 : Hid (Blk w1 w.heap.size 54 e0) := Lib.hid (by rw [hw1]; exact Blk.new w _ _)
  rw [← hw1]
  clear hw1 HT
  obtain ⟨p, hpe⟩ : ∃ p, p = v % 2 ^ f := ⟨_, rfl⟩
  have HLT : Hid (lookT T f v = if 0 < (T p).m then T ((T p).v + v / 2 ^ f % 2 ^ (T p).m) else T p) := Lib.hid (by unfold lookT; rw [hpe])
  rw [← hpe] at hp hm hj hl
  have HS : Hid (p = v % 2 ^ f ∧ f ≤ 15 ∧ v < 4294967296) := Lib.hid ⟨hpe, hf, by omega⟩
  clear hpe
  obtain ⟨e, he⟩ : ∃ e, e = T p := ⟨_, rfl⟩
  rw [← he] at hm hj hl HLT
  have hkeep : ∀ w', Below w1.heap.size w1 w' → Hid (Blk w' g 48 #[.int .u64 (f : Int), .slice (some ⟨ge, 0, none⟩) n n]) ∧ w'.cell? ⟨g, 1, none⟩ = some (.slice (some ⟨ge, 0, none⟩) n n) ∧ w'.cell? ⟨ge, p * 3, none⟩ = some (.int .u16 ((e.v : Nat) : Int)) ∧ w'.cell? ⟨ge, p * 3 + 1, none⟩ = some (.int .u8 ((e.l : Nat) : Int)) ∧ w'.cell? ⟨ge, p * 3 + 2, none⟩ = some (.int .u8 ((e.m : Nat) : Int)) := by
    intro w' hb
    have h1 := HT1.out.below hb
    obtain ⟨c1, c2, c3⟩ := h1.el _ hp
    rw [← he] at c1 c2 c3
    exact ⟨Lib.hid h1.tab, by rw [h1.tab.cell]; rfl, c1, c2, c3⟩
  have HK := Lib.hid hkeep
  obtain ⟨k1, hc1, k2, k3, k4⟩ := hkeep w1 (Below.refl _ _)
  clear hkeep k1 k2 k3 k4 he
  have hpi : ((p : Nat) : Int) < (n : Int) := by omega
  go_upto_region 3 with (fail)
  clear hc1
  go_cut [5] (fun u wc => u = .pointer (some ⟨w1.heap.size, 0, none⟩) ∧ Hid (TabAt wc g ge f n T) ∧ Hid (Blk wc w1.heap.size 54 (ec e)) ∧ Hid (Blk wc w.heap.size 54 e0) ∧ Hid (Below w.heap.size w wc))
  case first =>
    obtain ⟨k1, k2, k3, k4, k5⟩ := HK.out w1.drew (Below.refl _ _).drew
    go_region_held3 (fun w' => Hid (Blk w' g 48 #[.int .u64 (f : Int), .slice (some ⟨ge, 0, none⟩) n n]) ∧ w'.cell? ⟨g, 1, none⟩ = some (.slice (some ⟨ge, 0, none⟩) n n) ∧ w'.cell? ⟨ge, p * 3, none⟩ = some (.int .u16 ((e.v : Nat) : Int)) ∧ w'.cell? ⟨ge, p * 3 + 1, none⟩ = some (.int .u8 ((e.l : Nat) : Int)) ∧ w'.cell? ⟨ge, p * 3 + 2, none⟩ = some (.int .u8 ((e.m : Nat) : Int))) (first | exact ⟨by assumption, by assumption, by assumption, by assumption, by assumption⟩ | exact HK.out _ (Below.refl _ _).drew | exact HK.out _ ((Below.refl _ _).drew.alloc (Nat.le_refl _) _)) (first | (go_at_call 26; refine (start_at (u := .slice (some ⟨ge, 0, none⟩) n n) HS.out _ (HK.out _ (by first | exact (Below.refl _ _).drew | exact ((Below.refl _ _).alloc (Nat.le_refl _) _).drew)).1).mono ?_; rintro e2 w2 ⟨rfl, rfl⟩))
    all_goals
      go_wp2_with fail
      go_meet
      case rel => exact ⟨rfl, Lib.hid (HT1.out.below ((Below.refl _ _).alloc (Nat.le_refl _) _).drew), Lib.hid (Blk.new w1 _ _).drew, Lib.hid ((HR1.out.alloc _).drew), Lib.hid (HB1.out.trans ((((Below.refl _ _).alloc (Nat.le_refl _) _).drew).mono HB1.out.size))⟩
  obtain ⟨rfl, HT2, HX2, HR2, HB2⟩ := hcut
  have HN : Hid (w.heap.size < w1.heap.size) := Lib.hid HR1.out.lt
  clear HT1 HR1 HB1 HK HS
  generalize wc = w2 at *
  generalize w1.heap.size = g5 at *
  obtain ⟨ev, el, em⟩ := e
  dsimp only at hm hj hl HLT
  have hx2 : w2.cell? ⟨g5, 2, none⟩ = some (.int .u8 (em : Int)) := by rw [HX2.out.cell]; rfl
  have hx0 : w2.cell? ⟨g5, 0, none⟩ = some (.int .u16 (ev : Int)) := by rw [HX2.out.cell]; rfl
  have hx1 : w2.cell? ⟨g5, 1, none⟩ = some (.int .u8 (el : Int)) := by rw [HX2.out.cell]; rfl
  have hf0 : w2.frozen? ⟨w.heap.size, 0, none⟩ = false := HR2.out.frozen 0
  have hf1 : w2.frozen? ⟨w.heap.size, 1, none⟩ = false := HR2.out.frozen 1
  have hf2 : w2.frozen? ⟨w.heap.size, 2, none⟩ = false := HR2.out.frozen 2
  have hr0 : w2.cell? ⟨w.heap.size, 0, none⟩ = some (.int .u16 0) := by rw [HR2.out.cell]; rfl
  have hr1 : w2.cell? ⟨w.heap.size, 1, none⟩ = some (.int .u8 0) := by rw [HR2.out.cell]; rfl
  have hr2 : w2.cell? ⟨w.heap.size, 2, none⟩ = some (.int .u8 0) := by rw [HR2.out.cell]; rfl
  by_cases h0 : 0 < em
  · rw [if_pos h0] at HLT
    have hg : decide ((em : Int) > 0) = true := by simp; omega
    have hj := hj h0
    obtain ⟨q, hq⟩ : ∃ q, q = v / 2 ^ f % 2 ^ em := ⟨_, rfl⟩
    obtain ⟨m1, m2, m3⟩ := look_nums v f em q hv hm hq
    rw [← hq] at hj HLT
    have hqs : q < 16384 := by
      have := Nat.mod_lt (v / 2 ^ f) (Nat.two_pow_pos em)
      have h2 : 2 ^ em ≤ 2 ^ 14 := Nat.pow_le_pow_right (by omega) hm
      omega
    obtain ⟨j, hje⟩ : ∃ j, j = ev + q := ⟨_, rfl⟩
    have m4 : IntKind.u32.wrap (ev : Int) = (ev : Int) := by rw [IntKind.wrap_u32]; omega
    have m5 : IntKind.u32.wrap ((ev : Int) + (q : Int)) = (j : Int) := by rw [IntKind.wrap_u32]; omega
    rw [← hje] at hj HLT
    clear hq hje
    obtain ⟨c0, c1, c2⟩ := HT2.out.el _ hj
    have ht1 : w2.cell? ⟨g, 1, none⟩ = some (.slice (some ⟨ge, 0, none⟩) n n) := by rw [HT2.out.tab.cell]; rfl
    have ht0 : w2.cell? ⟨g, 0, none⟩ = some (.int .u64 (f : Int)) := by rw [HT2.out.tab.cell]; rfl
    have hji : ((j : Nat) : Int) < (n : Int) := by omega
    generalize T j = y at *
    go_upto_region 5 with (fail)
    go_still_tail 21, (by kernel_rfl)
    change wpList _ _ _ _ _ w2.drew
    have HT3 : Hid (TabAt w2.drew g ge f n T) := Lib.hid HT2.out.drew
    have HX3 : Hid (Blk w2.drew g5 54 (ec ⟨ev, el, em⟩)) := HX2
    have HR3 : Hid (Blk w2.drew w.heap.size 54 e0) := HR2
    have HB3 : Hid (Below w.heap.size w w2.drew) := Lib.hid HB2.out.drew
    clear HT2 HX2 HR2 HB2 hx2 hx0 hx1 hf0 hf1 hf2 hr0 hr1 hr2 ht0 ht1 c0 c1 c2
    generalize w2.drew = w3 at *
    have HN2 : Hid (w.heap.size ≠ g5) := Lib.hid (by have := HN.out; omega)
    have HR4 : Hid (Blk (w3.setRow g5 (ec y)) w.heap.size 54 e0) := Lib.hid (HR3.out.same (setRow_block _ _ _ _ HN2.out))
    go_wp2_with (first
      | (refine wpList_store_row rfl _ _ _ rfl g5 _ rfl rfl 54 (ec ⟨ev, el, em⟩) HX3.out info_el rfl (by kernel_rfl) ?_)
      | (refine wpList_load_row rfl 54 _ rfl g5 rfl 54 (ec y) (0, 0) _ (HX3.out.row (ec y)) Try.underlying54 rfl info_el ?_)
      | (refine wpList_store_row rfl _ _ _ rfl w.heap.size _ rfl rfl 54 e0 HR4.out info_el rfl (by kernel_rfl) ?_))
    rw [HLT.out]
    exact look_ret rfl rfl (HR4.out.row (ec y)) rfl ⟨rfl, below_row (below_row HB3.out (Nat.le_of_lt HN.out) _) (Nat.le_refl _) _⟩
  · obtain rfl : em = 0 := by omega
    rw [if_neg h0] at HLT
    go_wp2_with (first
      | (refine wpList_store_row rfl _ _ _ rfl w.heap.size _ rfl rfl 54 e0 HR2.out info_el rfl (by kernel_rfl) ?_))
    rw [HLT.out]
    exact look_ret rfl rfl (HR2.out.row _) rfl ⟨rfl, below_row HB2.out (Nat.le_refl _) _⟩
end Go.Proofs.Ytgmdbcmfncapdaa.TabC
