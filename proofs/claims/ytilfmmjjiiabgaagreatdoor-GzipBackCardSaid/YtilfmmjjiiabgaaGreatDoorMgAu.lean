import Derived.Test.YtilfmmjjiiabgaaGreatDoorMgAt
import Derived.Deep.DeepCutAuto
import Derived.Deep.CutBlock
import Derived.StillTailTactics
import Derived.BigRegion
import Derived.Deep.RegionHeld3
import Derived.Deep.RegionWith
import Derived.Test.YtilfmmjjiiabgaaGreatDoorRows
import Derived.Test.YtilfmmjjiiabgaaGreatDoorMgAd

section
/-
  A table in memory: its elements; where a row of bits leads.
-/
namespace Go.Proofs.YtilfmmjjiiabgaaGreatDoor.TabC
open Go.RowKit Go.My BitMath CanMath TabMath

/-- An element's three cells. -/
def ec (e : El) : Array Value := #[.int .u16 ((e.v : Nat) : Int), .int .u8 ((e.l : Nat) : Int), .int .u8 ((e.m : Nat) : Int)]
/-- A row of n elements. -/
structure Els (C : Array Value) (n : Nat) (T : Nat → El) : Prop where
  size : C.size = n * 3
  at0 : ∀ j, j < n → C[j * 3]? = some (.int .u16 (((T j).v : Nat) : Int))
  at1 : ∀ j, j < n → C[j * 3 + 1]? = some (.int .u8 (((T j).l : Nat) : Int))
  at2 : ∀ j, j < n → C[j * 3 + 2]? = some (.int .u8 (((T j).m : Nat) : Int))
/-- A table: so many first bits, its elements in a block of their own. -/
structure TabAt (w : World) (g ge f n : Nat) (T : Nat → El) : Prop where
  tab : Blk w g 162 #[.int .u64 (f : Int), .slice (some ⟨ge, 0, none⟩) n n]
  row : ∃ C, Blk w ge 166 C ∧ Els C n T
theorem TabAt.alloc {w : World} {g ge f n : Nat} {T : Nat → El} (h : TabAt w g ge f n T) (o : Obj) : TabAt (w.alloc o) g ge f n T := by
  obtain ⟨h1, C, h2, h3⟩ := h
  exact ⟨h1.alloc o, C, h2.alloc o, h3⟩
theorem TabAt.same {w w' : World} {g ge f n : Nat} {T : Nat → El} (h : TabAt w g ge f n T) (h1 : w'.heap[g]? = w.heap[g]?) (h2 : w'.heap[ge]? = w.heap[ge]?) : TabAt w' g ge f n T := by
  obtain ⟨h3, C, h4, h5⟩ := h
  exact ⟨h3.same h1, C, h4.same h2, h5⟩
theorem TabAt.lt {w : World} {g ge f n : Nat} {T : Nat → El} (h : TabAt w g ge f n T) : g < w.heap.size ∧ ge < w.heap.size := by
  obtain ⟨h3, C, h4, h5⟩ := h
  exact ⟨h3.lt, h4.lt⟩
theorem TabAt.drew {w : World} {g ge f n : Nat} {T : Nat → El} (h : TabAt w g ge f n T) : TabAt w.drew g ge f n T := h.same rfl rfl
theorem TabAt.below {w w' : World} {g ge f n : Nat} {T : Nat → El} (h : TabAt w g ge f n T) (hb : Below w.heap.size w w') : TabAt w' g ge f n T :=
  h.same (hb.block g h.lt.1) (hb.block ge h.lt.2)
theorem TabAt.el {w : World} {g ge f n : Nat} {T : Nat → El} (h : TabAt w g ge f n T) (j : Nat) (hj : j < n) :
    w.cell? ⟨ge, j * 3, none⟩ = some (.int .u16 (((T j).v : Nat) : Int)) ∧ w.cell? ⟨ge, j * 3 + 1, none⟩ = some (.int .u8 (((T j).l : Nat) : Int)) ∧ w.cell? ⟨ge, j * 3 + 2, none⟩ = some (.int .u8 (((T j).m : Nat) : Int)) := by
  obtain ⟨_, C, h4, h5⟩ := h
  exact ⟨by rw [h4.cell]; exact h5.at0 j hj, by rw [h4.cell]; exact h5.at1 j hj, by rw [h4.cell]; exact h5.at2 j hj⟩
theorem u32_low (v f : Nat) (hv : v < 4294967296) (hf : f ≤ 15) : bits .and .u32 (v : Int) (((2 : Int) ^ f - 1) % 4294967296) = ((v % 2 ^ f : Nat) : Int) := by
  have hp : 2 ^ f ≤ 2 ^ 15 := Nat.pow_le_pow_right (by omega) hf
  have h0 : 0 < 2 ^ f := Nat.two_pow_pos f
  have e : ((2 : Int) ^ f - 1) % 4294967296 = ((2 ^ f - 1 : Nat) : Int) := by
    have e1 : (2 : Int) ^ f = ((2 ^ f : Nat) : Int) := by push_cast; rfl
    rw [e1]; omega
  rw [e, u32_and_nat _ _ hv (by omega), Nat.and_two_pow_sub_one_eq_mod]

theorem start_any (g f v : Nat) (u : Value) (w : World) (h : Blk w g 162 #[.int .u64 (f : Int), u]) (hf : f ≤ 15) (hv : v < 4294967296) :
    Calls Tryz.prog 139 #[.pointer (some ⟨g, 0, none⟩), .int .u32 (v : Int)] w fun e w' => e = .returned (.int .u32 ((v % 2 ^ f : Nat) : Int)) ∧ w = w' := by
  have hc0 : w.cell? ⟨g, 0, none⟩ = some (.int .u64 (f : Int)) := by rw [h.cell]; rfl
  go_enter Tryz.func139, Tryz.ntmps139
  have hb := u32_low v f hv hf
  go_wp2_with fail
  go_ret
  exact ⟨rfl, rfl⟩

theorem start_at {g f v p : Nat} {u : Value} (hs : p = v % 2 ^ f ∧ f ≤ 15 ∧ v < 4294967296) (w : World) (h : Hid (Blk w g 162 #[.int .u64 (f : Int), u])) :
    Calls Tryz.prog 139 #[.pointer (some ⟨g, 0, none⟩), .int .u32 (v : Int)] w fun e w' => e = .returned (.int .u32 ((p : Nat) : Int)) ∧ w = w' := by
  rw [hs.1]; exact start_any g f v u w h.out hs.2.1 hs.2.2

theorem info_el : (Tryz.prog.info? 166).map (·.size) = some 3 := by kernel_rfl
abbrev e0 : Array Value := #[.int .u16 0, .int .u8 0, .int .u8 0]
/-- What look finds in the elements. -/
def lookT (T : Nat → El) (f v : Nat) : El := if 0 < (T (v % 2 ^ f)).m then T ((T (v % 2 ^ f)).v + v / 2 ^ f % 2 ^ (T (v % 2 ^ f)).m) else T (v % 2 ^ f)
theorem look_ret {a : Act} {w : World} {g : Nat} {C : Array Value} {R : Ending → World → Prop} (hd : a.defers = []) (hp : a.tmps.getD 4 undef = .pointer (some ⟨g, 0, none⟩))
    (hg : Blk w g 166 C) (hs : C.size = 3) (h : R (.returned (.agg C)) w) :
    bodyPost Tryz.prog Tryz.f134 R .ret a w := by
  refine bodyPost_ret (v := .agg C) ?_ hd h
  have hp' : a.tmps[4]?.getD undef = .pointer (some ⟨g, 0, none⟩) := by simpa using hp
  simp [results, hp', asAddr, run_loadVar_row (P := Tryz.prog) w g 166 166 C (0, 0) _ hg Tryz.underlying166 rfl (by rw [hs]; exact info_el)]
theorem look_nums (v f em q : Nat) (hv : v < 32768) (hm : em ≤ 14) (hq : q = v / 2 ^ f % 2 ^ em) :
    IntKind.u32.wrap ((2 : Int) ^ em) = (2 : Int) ^ em ∧ IntKind.u32.wrap ((2 : Int) ^ em - 1) = (2 : Int) ^ em - 1 ∧ bits .and .u32 ((v : Int) / 2 ^ f) ((2 : Int) ^ em - 1) = (q : Int) := by
  have h := u32_low (v / 2 ^ f) em (by have := Nat.div_le_self v (2 ^ f); omega) (by omega)
  have e : (v : Int) / 2 ^ f = ((v / 2 ^ f : Nat) : Int) := by push_cast; rfl
  have h2 : 2 ^ em ≤ 2 ^ 14 := Nat.pow_le_pow_right (by omega) hm
  have h0 := Nat.two_pow_pos em
  have e1 : (2 : Int) ^ em = ((2 ^ em : Nat) : Int) := by push_cast; rfl
  rw [Int.emod_eq_of_lt (by rw [e1]; omega) (by rw [e1]; omega)] at h
  refine ⟨by rw [IntKind.wrap_u32, e1]; omega, by rw [IntKind.wrap_u32, e1]; omega, ?_⟩
  rw [e, h, hq]

set_option maxRecDepth 100000 in
set_option maxHeartbeats 4000000 in
theorem look_any (g ge f n v : Nat) (T : Nat → El) (w : World) (h : TabAt w g ge f n T) (hf : f ≤ 15) (hv : v < 32768) (hp : v % 2 ^ f < n) (hm : (T (v % 2 ^ f)).m ≤ 14) (hj : 0 < (T (v % 2 ^ f)).m → (T (v % 2 ^ f)).v + v / 2 ^ f % 2 ^ (T (v % 2 ^ f)).m < n) (hl : (T (v % 2 ^ f)).v < 65536) :
    Calls Tryz.prog 134 #[.pointer (some ⟨g, 0, none⟩), .int .u32 (v : Int)] w fun e w' => e = .returned (.agg (ec (lookT T f v))) ∧ Below w.heap.size w w' := by
  have HT := Lib.hid h
  have hz : ((n : Int) == 0) = false := by simp; omega
  clear h
  go_enter Tryz.func134, Tryz.ntmps134
  go_upto_region 1 with (fail)
  obtain ⟨w1, hw1⟩ : ∃ w1, w1 = w.alloc (.cells e0 166) := ⟨_, rfl⟩
  have HB1 : Hid (Below w.heap.size w w1) := Lib.hid (by rw [hw1]; exact (Below.refl _ w).alloc (Nat.le_refl _) _)
  have HT1 : Hid (TabAt w1 g ge f n T) := Lib.hid (by rw [hw1]; exact HT.out.alloc _)
  have HR1 : Hid (Blk w1 w.heap.size 166 e0) := Lib.hid (by rw [hw1]; exact Blk.new w _ _)
  rw [← hw1]
  clear hw1 HT
  obtain ⟨p, hpe⟩ : ∃ p, p = v % 2 ^ f := ⟨_, rfl⟩
  have HLT : Hid (lookT T f v = if 0 < (T p).m then T ((T p).v + v / 2 ^ f % 2 ^ (T p).m) else T p) := Lib.hid (by unfold lookT; rw [hpe])
  rw [← hpe] at hp hm hj hl
  have HS : Hid (p = v % 2 ^ f ∧ f ≤ 15 ∧ v < 4294967296) := Lib.hid ⟨hpe, hf, by omega⟩
  clear hpe
  obtain ⟨e, he⟩ : ∃ e, e = T p := ⟨_, rfl⟩
  rw [← he] at hm hj hl HLT
  have hkeep : ∀ w', Below w1.heap.size w1 w' → Hid (Blk w' g 162 #[.int .u64 (f : Int), .slice (some ⟨ge, 0, none⟩) n n]) ∧ w'.cell? ⟨g, 1, none⟩ = some (.slice (some ⟨ge, 0, none⟩) n n) ∧ w'.cell? ⟨ge, p * 3, none⟩ = some (.int .u16 ((e.v : Nat) : Int)) ∧ w'.cell? ⟨ge, p * 3 + 1, none⟩ = some (.int .u8 ((e.l : Nat) : Int)) ∧ w'.cell? ⟨ge, p * 3 + 2, none⟩ = some (.int .u8 ((e.m : Nat) : Int)) := by
    intro w' hb
    have h1 := HT1.out.below hb
    obtain ⟨c1, c2, c3⟩ := h1.el _ hp
    rw [← he] at c1 c2 c3
    exact ⟨Lib.hid h1.tab, by rw [h1.tab.cell]; rfl, c1, c2, c3⟩
  have HK := Lib.hid hkeep
  obtain ⟨k1, hc1, k2, k3, k4⟩ := hkeep w1 (Below.refl _ _)
  clear hkeep k1 k2 k3 k4 he
  have hpi : ((p : Nat) : Int) < (n : Int) := by omega
  go_upto_region 3 with (fail)
  clear hc1
  go_cut [5] (fun u wc => u = .pointer (some ⟨w1.heap.size, 0, none⟩) ∧ Hid (TabAt wc g ge f n T) ∧ Hid (Blk wc w1.heap.size 166 (ec e)) ∧ Hid (Blk wc w.heap.size 166 e0) ∧ Hid (Below w.heap.size w wc))
  case first =>
    obtain ⟨k1, k2, k3, k4, k5⟩ := HK.out w1.drew (Below.refl _ _).drew
    go_region_held3 (fun w' => Hid (Blk w' g 162 #[.int .u64 (f : Int), .slice (some ⟨ge, 0, none⟩) n n]) ∧ w'.cell? ⟨g, 1, none⟩ = some (.slice (some ⟨ge, 0, none⟩) n n) ∧ w'.cell? ⟨ge, p * 3, none⟩ = some (.int .u16 ((e.v : Nat) : Int)) ∧ w'.cell? ⟨ge, p * 3 + 1, none⟩ = some (.int .u8 ((e.l : Nat) : Int)) ∧ w'.cell? ⟨ge, p * 3 + 2, none⟩ = some (.int .u8 ((e.m : Nat) : Int))) (first | exact ⟨by assumption, by assumption, by assumption, by assumption, by assumption⟩ | exact HK.out _ (Below.refl _ _).drew | exact HK.out _ ((Below.refl _ _).drew.alloc (Nat.le_refl _) _)) (first | (go_at_call 139; refine (start_at (u := .slice (some ⟨ge, 0, none⟩) n n) HS.out _ (HK.out _ (by first | exact (Below.refl _ _).drew | exact ((Below.refl _ _).alloc (Nat.le_refl _) _).drew)).1).mono ?_; rintro e2 w2 ⟨rfl, rfl⟩))
    all_goals
      go_wp2_with fail
      go_meet
      case rel => exact ⟨rfl, Lib.hid (HT1.out.below ((Below.refl _ _).alloc (Nat.le_refl _) _).drew), Lib.hid (Blk.new w1 _ _).drew, Lib.hid ((HR1.out.alloc _).drew), Lib.hid (HB1.out.trans ((((Below.refl _ _).alloc (Nat.le_refl _) _).drew).mono HB1.out.size))⟩
  obtain ⟨rfl, HT2, HX2, HR2, HB2⟩ := hcut
  have HN : Hid (w.heap.size < w1.heap.size) := Lib.hid HR1.out.lt
  clear HT1 HR1 HB1 HK HS
  generalize wc = w2 at *
  generalize w1.heap.size = g5 at *
  obtain ⟨ev, el, em⟩ := e
  dsimp only at hm hj hl HLT
  have hx2 : w2.cell? ⟨g5, 2, none⟩ = some (.int .u8 (em : Int)) := by rw [HX2.out.cell]; rfl
  have hx0 : w2.cell? ⟨g5, 0, none⟩ = some (.int .u16 (ev : Int)) := by rw [HX2.out.cell]; rfl
  have hx1 : w2.cell? ⟨g5, 1, none⟩ = some (.int .u8 (el : Int)) := by rw [HX2.out.cell]; rfl
  have hf0 : w2.frozen? ⟨w.heap.size, 0, none⟩ = false := HR2.out.frozen 0
  have hf1 : w2.frozen? ⟨w.heap.size, 1, none⟩ = false := HR2.out.frozen 1
  have hf2 : w2.frozen? ⟨w.heap.size, 2, none⟩ = false := HR2.out.frozen 2
  have hr0 : w2.cell? ⟨w.heap.size, 0, none⟩ = some (.int .u16 0) := by rw [HR2.out.cell]; rfl
  have hr1 : w2.cell? ⟨w.heap.size, 1, none⟩ = some (.int .u8 0) := by rw [HR2.out.cell]; rfl
  have hr2 : w2.cell? ⟨w.heap.size, 2, none⟩ = some (.int .u8 0) := by rw [HR2.out.cell]; rfl
  by_cases h0 : 0 < em
  · rw [if_pos h0] at HLT
    have hg : decide ((em : Int) > 0) = true := by simp; omega
    have hj := hj h0
    obtain ⟨q, hq⟩ : ∃ q, q = v / 2 ^ f % 2 ^ em := ⟨_, rfl⟩
    obtain ⟨m1, m2, m3⟩ := look_nums v f em q hv hm hq
    rw [← hq] at hj HLT
    have hqs : q < 16384 := by
      have := Nat.mod_lt (v / 2 ^ f) (Nat.two_pow_pos em)
      have h2 : 2 ^ em ≤ 2 ^ 14 := Nat.pow_le_pow_right (by omega) hm
      omega
    obtain ⟨j, hje⟩ : ∃ j, j = ev + q := ⟨_, rfl⟩
    have m4 : IntKind.u32.wrap (ev : Int) = (ev : Int) := by rw [IntKind.wrap_u32]; omega
    have m5 : IntKind.u32.wrap ((ev : Int) + (q : Int)) = (j : Int) := by rw [IntKind.wrap_u32]; omega
    rw [← hje] at hj HLT
    clear hq hje
    obtain ⟨c0, c1, c2⟩ := HT2.out.el _ hj
    have ht1 : w2.cell? ⟨g, 1, none⟩ = some (.slice (some ⟨ge, 0, none⟩) n n) := by rw [HT2.out.tab.cell]; rfl
    have ht0 : w2.cell? ⟨g, 0, none⟩ = some (.int .u64 (f : Int)) := by rw [HT2.out.tab.cell]; rfl
    have hji : ((j : Nat) : Int) < (n : Int) := by omega
    generalize T j = y at *
    go_upto_region 5 with (fail)
    go_still_tail 21, (by kernel_rfl)
    change wpList _ _ _ _ _ w2.drew
    have HT3 : Hid (TabAt w2.drew g ge f n T) := Lib.hid HT2.out.drew
    have HX3 : Hid (Blk w2.drew g5 166 (ec ⟨ev, el, em⟩)) := HX2
    have HR3 : Hid (Blk w2.drew w.heap.size 166 e0) := HR2
    have HB3 : Hid (Below w.heap.size w w2.drew) := Lib.hid HB2.out.drew
    clear HT2 HX2 HR2 HB2 hx2 hx0 hx1 hf0 hf1 hf2 hr0 hr1 hr2 ht0 ht1 c0 c1 c2
    generalize w2.drew = w3 at *
    have HN2 : Hid (w.heap.size ≠ g5) := Lib.hid (by have := HN.out; omega)
    have HR4 : Hid (Blk (w3.setRow g5 (ec y)) w.heap.size 166 e0) := Lib.hid (HR3.out.same (setRow_block _ _ _ _ HN2.out))
    go_wp2_with (first
      | (refine wpList_store_row rfl _ _ _ rfl g5 _ rfl rfl 166 (ec ⟨ev, el, em⟩) HX3.out info_el rfl (by kernel_rfl) ?_)
      | (refine wpList_load_row rfl 166 _ rfl g5 rfl 166 (ec y) (0, 0) _ (HX3.out.row (ec y)) Tryz.underlying166 rfl info_el ?_)
      | (refine wpList_store_row rfl _ _ _ rfl w.heap.size _ rfl rfl 166 e0 HR4.out info_el rfl (by kernel_rfl) ?_))
    rw [HLT.out]
    exact look_ret rfl rfl (HR4.out.row (ec y)) rfl ⟨rfl, below_row (below_row HB3.out (Nat.le_of_lt HN.out) _) (Nat.le_refl _) _⟩
  · obtain rfl : em = 0 := by omega
    rw [if_neg h0] at HLT
    go_wp2_with (first
      | (refine wpList_store_row rfl _ _ _ rfl w.heap.size _ rfl rfl 166 e0 HR2.out info_el rfl (by kernel_rfl) ?_))
    rw [HLT.out]
    exact look_ret rfl rfl (HR2.out.row _) rfl ⟨rfl, below_row HB2.out (Nat.le_refl _) _⟩
end Go.Proofs.YtilfmmjjiiabgaaGreatDoor.TabC
end

section
/-
  What Find answers (no program's function).
-/
namespace Go.Proofs.YtilfmmjjiiabgaaGreatDoor.TabC
open Go.RowKit Go.My BitMath CanMath TabMath

/-- What Find answers of an element. -/
def ansV (e : El) (m : Nat) : Value := if e.l = 0 then .tuple #[.int .i64 0, .int .i64 0, .int .i64 2] else if m < e.l then .tuple #[.int .i64 0, .int .i64 0, .int .i64 5] else .tuple #[.int .i64 ((e.v : Nat) : Int), .int .i64 ((e.l : Nat) : Int), .int .i64 0]

end Go.Proofs.YtilfmmjjiiabgaaGreatDoor.TabC
end

section
/-
  Find, Size.
-/
namespace Go.Proofs.YtilfmmjjiiabgaaGreatDoor.TabC
open Go.RowKit Go.My BitMath CanMath TabMath

theorem quiet_below (w : World) (n : Nat) : Below w.heap.size w (w.drewN n) := ⟨rfl, rfl, rfl, Nat.le_refl _, fun _ _ => rfl⟩
/-- So many bits are there. -/
def cl (n : Int) : Nat := (min (max n 0) 15).toNat
theorem cl_le (n : Int) : cl n ≤ 15 := by unfold cl; omega
theorem cl_eq (n : Int) : ∃ k : Nat, (if n < 0 then (0 : Int) else n) = (k : Int) ∧ (if 15 < (k : Int) then (15 : Int) else (k : Int)) = ((cl n : Nat) : Int) ∧ (if (k : Int) < 15 then (k : Int) else (15 : Int)) = ((cl n : Nat) : Int) := by
  unfold cl
  refine ⟨(max n 0).toNat, ?_, ?_, ?_⟩
  · split <;> omega
  · split <;> omega
  · split <;> omega
set_option maxRecDepth 100000 in
set_option maxHeartbeats 4000000 in
theorem find_any (g ge f N v : Nat) (n : Int) (T : Nat → El) (w : World) (h : TabAt w g ge f N T) (hf : f ≤ 15) (hv : v < 4294967296)
    (hu : ∀ u, u < 32768 → u % 2 ^ f < N ∧ (T (u % 2 ^ f)).m ≤ 14 ∧ (0 < (T (u % 2 ^ f)).m → (T (u % 2 ^ f)).v + u / 2 ^ f % 2 ^ (T (u % 2 ^ f)).m < N) ∧ (T (u % 2 ^ f)).v < 65536 ∧ (lookT T f u = El.z ∨ (0 < (lookT T f u).l ∧ (lookT T f u).l ≤ 15 ∧ (lookT T f u).v < 65536))) :
    Calls Tryz.prog 122 #[.pointer (some ⟨g, 0, none⟩), .int .u32 (v : Int), .int .i64 n] w fun e w' => e = .returned (ansV (lookT T f (v % 2 ^ cl n)) (cl n)) ∧ Below w.heap.size w w' := by
  have HT := Lib.hid h
  have hc15 := cl_le n
  obtain ⟨k, hk1, hk2, hk3⟩ := cl_eq n
  generalize cl n = m at *
  have hus : v % 2 ^ m < 32768 := by
    have := Nat.mod_lt v (Nat.two_pow_pos m)
    have h2 := pow_le15 hc15
    omega
  obtain ⟨q1, q2, q3, q4, q5⟩ := hu _ hus
  have hand := u32_low v m hv hc15
  have HL := Lib.hid (look_any g ge f N (v % 2 ^ m) T w h hf hus q1 q2 q3 q4)
  clear h hu q1 q2 q3 q4
  generalize v % 2 ^ m = u at *
  generalize lookT T f u = y at *
  obtain ⟨yv, yl, ym⟩ := y
  have hml : (m : Int) < 16 := by omega
  go_enter Tryz.func122, Tryz.ntmps122
  go_wp2_with fail
  refine HL.out.mono ?_
  clear HL
  rintro e w2 ⟨rfl, hb⟩
  have HB := Lib.hid hb
  clear hb hk1 hk2 hk3 hand
  dsimp only [ec]
  rcases q5 with h0 | ⟨h1, h2, h3⟩
  · obtain ⟨rfl, rfl, rfl⟩ : yv = 0 ∧ yl = 0 ∧ ym = 0 := by simpa [El.z] using h0
    go_wp2_with fail
    go_ret3
    exact ⟨rfl, HB.out.alloc HB.out.size _⟩
  · have g1 : ((yl : Int) == 0) = false := by simp; omega
    by_cases hlt : m < yl
    · have g2 : decide ((yl : Int) > (m : Int)) = true := by simp; omega
      go_wp2_with fail
      go_ret3
      exact ⟨by unfold ansV; rw [if_neg (by simp; omega), if_pos hlt]; rfl, HB.out.alloc HB.out.size _⟩
    · have g2 : decide ((yl : Int) > (m : Int)) = false := by simp; omega
      go_wp2_with fail
      have e1 : IntKind.i64.wrap (yv : Int) = (yv : Int) := by rw [IntWalk.i64_in _ (by omega)]
      have e2 : IntKind.i64.wrap (yl : Int) = (yl : Int) := by rw [IntWalk.i64_in _ (by omega)]
      go_quiet (fail)
      have HB3 := Lib.hid ((HB.out.alloc HB.out.size (.cells #[.int .u16 (yv : Int), .int .u8 (yl : Int), .int .u8 (ym : Int)] 166)).trans ((quiet_below _ nq).mono (Nat.le_trans HB.out.size (by simp))))
      go_wp2_with fail
      go_ret3
      exact ⟨by unfold ansV; rw [if_neg (by simp; omega), if_neg hlt]; rfl, HB3.out⟩
end Go.Proofs.YtilfmmjjiiabgaaGreatDoor.TabC
end

section
/-
  A symbol is placed: spread, place.
-/
namespace Go.Proofs.YtilfmmjjiiabgaaGreatDoor.TabC
open Go.RowKit Go.My BitMath CanMath TabMath

/-- The elements behind a spread of e from place B on, L long, as far as i. -/
def spr (T : Nat → El) (B L p W i : Nat) (e : El) (j : Nat) : El := if B ≤ j ∧ j < B + L ∧ j < B + i ∧ (j - B) % p = W then e else T j
theorem spr_start (T : Nat → El) (B L p W : Nat) (hW : W < p) (e : El) : spr T B L p W W e = T := by
  funext j
  unfold spr
  rw [if_neg]
  rintro ⟨h1, _, h3, h4⟩
  rw [Nat.mod_eq_of_lt (by omega)] at h4
  omega
theorem spr_end (T : Nat → El) (B L p W i : Nat) (hi : L ≤ i) (e : El) : spr T B L p W i e = fun j => if B ≤ j ∧ j < B + L ∧ (j - B) % p = W then e else T j := by
  funext j
  unfold spr
  by_cases h : B ≤ j ∧ j < B + L ∧ (j - B) % p = W
  · rw [if_pos ⟨h.1, h.2.1, by omega, h.2.2⟩, if_pos h]
  · rw [if_neg (fun h' => h ⟨h'.1, h'.2.1, h'.2.2.2⟩), if_neg h]
theorem mod_gap (x i p : Nat) (h1 : i ≤ x) (h2 : x < i + p) (h : x % p = i % p) : x = i := by
  have e : (x - i) % p = 0 := by
    have h3 : (i + (x - i)) % p = i % p := by rw [show i + (x - i) = x from by omega]; exact h
    have h4 := Nat.mod_add_div i p
    have h5 := Nat.mod_add_div (i + (x - i)) p
    have h6 : x - i < p := by omega
    by_cases h7 : x - i = 0
    · rw [h7]; simp
    · exfalso
      have hp : 0 < p := by omega
      have h8 := Nat.mod_lt i hp
      rw [h3] at h5
      have h9 : p * (i / p) < p * ((i + (x - i)) / p) := by omega
      have h10 : i / p < (i + (x - i)) / p := Nat.lt_of_mul_lt_mul_left h9
      have h11 : p * (i / p + 1) ≤ p * ((i + (x - i)) / p) := Nat.mul_le_mul_left p h10
      rw [Nat.mul_add] at h11
      omega
  rw [Nat.mod_eq_of_lt (by omega)] at e
  omega
theorem spr_step (T : Nat → El) (B L p W i : Nat) (hp : 0 < p) (hi : i < L) (hm : i % p = W) (e : El) (j : Nat) : spr T B L p W (i + p) e j = if j = B + i then e else spr T B L p W i e j := by
  unfold spr
  by_cases hj : j = B + i
  · subst hj
    rw [if_pos rfl, if_pos ⟨by omega, by omega, by omega, by rw [Nat.add_sub_cancel_left]; exact hm⟩]
  · rw [if_neg hj]
    by_cases h : B ≤ j ∧ j < B + L ∧ j < B + i ∧ (j - B) % p = W
    · rw [if_pos ⟨h.1, h.2.1, by omega, h.2.2.2⟩, if_pos h]
    · rw [if_neg h, if_neg]
      rintro ⟨h1, h2, h3, h4⟩
      by_cases hlt : j < B + i
      · exact h ⟨h1, h2, hlt, h4⟩
      · have := mod_gap (j - B) i p (by omega) (by omega) (by rw [h4, hm])
        omega

theorem Els.set {C : Array Value} {n : Nat} {T T' : Nat → El} (h : Els C n T) (j : Nat) (e : El) (hj : j < n) (hT : ∀ i, i < n → T' i = if i = j then e else T i) :
    Els (((C.setIfInBounds (j * 3) (.int .u16 ((e.v : Nat) : Int))).setIfInBounds (j * 3 + 1) (.int .u8 ((e.l : Nat) : Int))).setIfInBounds (j * 3 + 2) (.int .u8 ((e.m : Nat) : Int))) n T' := by
  have hs := h.size
  refine ⟨by simp [hs], fun i hi => ?_, fun i hi => ?_, fun i hi => ?_⟩
  · rw [Array.getElem?_setIfInBounds, if_neg (by omega), Array.getElem?_setIfInBounds, if_neg (by omega), Array.getElem?_setIfInBounds, hT i hi]
    by_cases he : i = j
    · subst he; rw [if_pos rfl, if_pos (by rw [hs]; omega), if_pos rfl]
    · rw [if_neg (by omega), if_neg he, h.at0 i hi]
  · rw [Array.getElem?_setIfInBounds, if_neg (by omega), Array.getElem?_setIfInBounds, hT i hi]
    by_cases he : i = j
    · subst he; rw [if_pos rfl, if_pos (by simp [hs]; omega), if_pos rfl]
    · rw [if_neg (by omega), if_neg he, Array.getElem?_setIfInBounds, if_neg (by omega), h.at1 i hi]
  · rw [Array.getElem?_setIfInBounds, hT i hi]
    by_cases he : i = j
    · subst he; rw [if_pos rfl, if_pos (by simp [hs]; omega), if_pos rfl]
    · rw [if_neg (by omega), if_neg he, Array.getElem?_setIfInBounds, if_neg (by omega), Array.getElem?_setIfInBounds, if_neg (by omega), h.at2 i hi]
/-- Elements in a block. -/
def Row (w : World) (ge n : Nat) (T : Nat → El) : Prop := ∃ C, Blk w ge 166 C ∧ Els C n T
theorem Row.el {w : World} {ge n : Nat} {T : Nat → El} (h : Row w ge n T) (j : Nat) (hj : j < n) :
    (w.cell? ⟨ge, j * 3, none⟩ = some (.int .u16 (((T j).v : Nat) : Int)) ∧ w.cell? ⟨ge, j * 3 + 1, none⟩ = some (.int .u8 (((T j).l : Nat) : Int)) ∧ w.cell? ⟨ge, j * 3 + 2, none⟩ = some (.int .u8 (((T j).m : Nat) : Int))) ∧ ∀ k, w.frozen? ⟨ge, k, none⟩ = false := by
  obtain ⟨C, h4, h5⟩ := h
  exact ⟨⟨by rw [h4.cell]; exact h5.at0 j hj, by rw [h4.cell]; exact h5.at1 j hj, by rw [h4.cell]; exact h5.at2 j hj⟩, fun k => h4.frozen k⟩
theorem Row.set {w : World} {ge n : Nat} {T T' : Nat → El} (h : Row w ge n T) (j : Nat) (e : El) (hj : j < n) (hT : ∀ i, i < n → T' i = if i = j then e else T i) :
    Row (((w.setCell ⟨ge, j * 3, none⟩ (.int .u16 ((e.v : Nat) : Int))).setCell ⟨ge, j * 3 + 1, none⟩ (.int .u8 ((e.l : Nat) : Int))).setCell ⟨ge, j * 3 + 2, none⟩ (.int .u8 ((e.m : Nat) : Int))) ge n T' := by
  obtain ⟨C, h4, h5⟩ := h
  exact ⟨_, ((h4.set_ _ _).set_ _ _).set_ _ _, h5.set j e hj hT⟩
theorem Row.same {w w' : World} {ge n : Nat} {T : Nat → El} (h : Row w ge n T) (h2 : w'.heap[ge]? = w.heap[ge]?) : Row w' ge n T := by
  obtain ⟨C, h4, h5⟩ := h
  exact ⟨C, h4.same h2, h5⟩
theorem Row.lt {w : World} {ge n : Nat} {T : Nat → El} (h : Row w ge n T) : ge < w.heap.size := by
  obtain ⟨C, h4, h5⟩ := h
  exact h4.lt

theorem spread_any (ge N B O L cap n W : Nat) (T : Nat → El) (e : El) (w : World) (h : Row w ge N T) (hn : n ≤ 15) (hW : W < 2 ^ n) (hB : B + L ≤ N) (hN : N ≤ 65536) (hO : O = B * 3) :
    Calls Tryz.prog 140 #[.slice (some ⟨ge, O, none⟩) L cap, .int .u32 (W : Int), .int .i64 (n : Int), .agg (ec e)] w fun r w' =>
      r = .returned (.tuple #[]) ∧ Row w' ge N (fun j => if B ≤ j ∧ j < B + L ∧ (j - B) % 2 ^ n = W then e else T j) ∧ Only (fun k => k = ge) w w' := by
  have HR := Lib.hid h
  have HO := Lib.hid hO
  clear hO
  have hp := pow_le15 hn
  have h0 := Nat.two_pow_pos n
  have hs2 : min n 64 = n := by omega
  have hp2 : (2 : Int) ^ n = ((2 ^ n : Nat) : Int) := by push_cast; rfl
  generalize 2 ^ n = p at *
  have hs3 : IntKind.i64.wrap (2 ^ n) = (p : Int) := by rw [hp2, IntWalk.i64_in _ (by omega)]
  have hs4 : (1 : Int) * 2 ^ n = (p : Int) := by rw [hp2]; omega
  clear h
  obtain ⟨ev, el, em⟩ := e
  dsimp only [ec]
  go_enter Tryz.func140, Tryz.ntmps140
  go_wp2_with fail
  obtain ⟨w1, hw1⟩ : ∃ w1, w1 = w.alloc (.cells #[.int .u16 (ev : Int), .int .u8 (el : Int), .int .u8 (em : Int)] 166) := ⟨_, rfl⟩
  have HB : Hid (Only (fun k => k = ge) w w1) := Lib.hid (by rw [hw1]; exact (Only.refl _ w).alloc _)
  have HR1 : Hid (Row w1 ge N T) := Lib.hid (by rw [hw1]; exact HR.out.same (Below.heap_alloc _ _ _ HR.out.lt))
  have HX : Hid (Blk w1 w.heap.size 166 (ec ⟨ev, el, em⟩)) := Lib.hid (by rw [hw1]; exact Blk.new w _ _)
  have HNE : Hid (ge < w.heap.size) := Lib.hid HR.out.lt
  rw [← hw1]
  clear hw1 HR
  go_loopw [8] (fun x wr => ∃ i : Nat, x = .int .i64 (i : Int) ∧ i < L + p ∧ Hid (i % p = W) ∧ Hid (Row wr ge N (spr T B L p W i ⟨ev, el, em⟩)) ∧ Hid (Blk wr w.heap.size 166 (ec ⟨ev, el, em⟩)) ∧ Hid (Only (fun k => k = ge) w wr)) (fun x _ => L + p - (intOf x).toNat)
  case atStart => exact ⟨W, rfl, by omega, Lib.hid (Nat.mod_eq_of_lt hW), Lib.hid (by rw [spr_start _ _ _ _ _ hW]; exact HR1.out), HX, HB⟩
  case round =>
    clear HR1 HX HB
    obtain ⟨i, rfl, hi, HM, HR, HX, HB⟩ := hrel
    by_cases hlt : i < L
    · obtain ⟨⟨c0, c1, c2⟩, hfz⟩ := HR.out.el (B + i) (by omega)
      have HA : Hid ((B + i) * 3 = O + i * 3) := Lib.hid (by rw [HO.out, Nat.add_mul])
      rw [HA.out] at c0 c1 c2
      have f0 := hfz (O + i * 3)
      have f1 := hfz (O + i * 3 + 1)
      have f2 := hfz (O + i * 3 + 2)
      have x0 : wr.cell? ⟨w.heap.size, 0, none⟩ = some (.int .u16 (ev : Int)) := by rw [HX.out.cell]; rfl
      have x1 : wr.cell? ⟨w.heap.size, 1, none⟩ = some (.int .u8 (el : Int)) := by rw [HX.out.cell]; rfl
      have x2 : wr.cell? ⟨w.heap.size, 2, none⟩ = some (.int .u8 (em : Int)) := by rw [HX.out.cell]; rfl
      clear hfz
      have HS : Hid (∀ j, spr T B L p W (i + p) ⟨ev, el, em⟩ j = if j = B + i then ⟨ev, el, em⟩ else spr T B L p W i ⟨ev, el, em⟩ j) := Lib.hid (spr_step T B L p W i h0 hlt HM.out _)
      have HR2 := Lib.hid (HR.out.set (T' := spr T B L p W (i + p) ⟨ev, el, em⟩) (B + i) ⟨ev, el, em⟩ (by omega) (fun j _ => HS.out j))
      rw [HA.out] at HR2
      have HBX : Hid (Only (fun k => k = ge) w (((wr.setCell ⟨ge, O + i * 3, none⟩ (.int .u16 (ev : Int))).setCell ⟨ge, O + i * 3 + 1, none⟩ (.int .u8 (el : Int))).setCell ⟨ge, O + i * 3 + 2, none⟩ (.int .u8 (em : Int)))) := Lib.hid (((HB.out.setCell (p := ⟨ge, O + i * 3, none⟩) (fun _ => rfl) _).setCell (p := ⟨ge, O + i * 3 + 1, none⟩) (fun _ => rfl) _).setCell (p := ⟨ge, O + i * 3 + 2, none⟩) (fun _ => rfl) _)
      have HXX : Hid (Blk (((wr.setCell ⟨ge, O + i * 3, none⟩ (.int .u16 (ev : Int))).setCell ⟨ge, O + i * 3 + 1, none⟩ (.int .u8 (el : Int))).setCell ⟨ge, O + i * 3 + 2, none⟩ (.int .u8 (em : Int))) w.heap.size 166 (ec ⟨ev, el, em⟩)) := Lib.hid (by
        have hne : w.heap.size ≠ ge := by have := HNE.out; omega
        exact ((HX.out.same (Below.heap_setCell _ _ _ _ hne)).same (Below.heap_setCell _ _ _ _ hne)).same (Below.heap_setCell _ _ _ _ hne))
      have HM2 : Hid ((i + p) % p = W) := Lib.hid (by rw [Nat.add_mod_right]; exact HM.out)
      clear HS HR HX HB HM
      go_wp2_with fail
      go_roundw
      case rel => exact ⟨i + p, by go_num, by omega, HM2, HR2, HXX, HBX⟩
      case measure => simp [intOf]; omega
    · rw [spr_end _ _ _ _ _ _ (by omega)] at HR
      go_wp2_with fail
      go_end0
      exact ⟨rfl, HR.out, HB.out⟩
end Go.Proofs.YtilfmmjjiiabgaaGreatDoor.TabC
end

section
/-
  A symbol is placed in a table.
-/
namespace Go.Proofs.YtilfmmjjiiabgaaGreatDoor.TabC
open Go.RowKit Go.My BitMath CanMath TabMath

theorem TabAt.row' {w : World} {g ge f n : Nat} {T : Nat → El} (h : TabAt w g ge f n T) : Row w ge n T := h.row
theorem TabAt.ne {w : World} {g ge f n : Nat} {T : Nat → El} (h : TabAt w g ge f n T) : g ≠ ge := by
  obtain ⟨h3, C, h4, h5⟩ := h
  intro e
  subst e
  unfold Blk at h3 h4
  rw [h3] at h4
  injection h4 with h4
  injection h4 with _ h4
  revert h4; decide

set_option maxRecDepth 100000 in
set_option maxHeartbeats 4000000 in
theorem place_short (g ge f N i n W : Nat) (T : Nat → El) (w : World) (h : TabAt w g ge f N T) (hf : f ≤ 15) (hN : N ≤ 65536) (hi : i < 65536) (hn : n ≤ f) (hW : W < 2 ^ n) (hfN : 2 ^ f ≤ N) :
    Calls Tryz.prog 133 #[.pointer (some ⟨g, 0, none⟩), .int .i64 (i : Int), .int .u32 (W : Int), .int .i64 (n : Int)] w fun r w' =>
      r = .returned (.tuple #[]) ∧ TabAt w' g ge f N (fun j => if j < 2 ^ f ∧ j % 2 ^ n = W then ⟨i, n, 0⟩ else T j) ∧ Only (fun k => k = ge) w w' := by
  have HT := Lib.hid h
  have hp := pow_le15 hf
  have h0 := Nat.two_pow_pos f
  have hp2 : (2 : Int) ^ f = ((2 ^ f : Nat) : Int) := by push_cast; rfl
  have HW := Lib.hid hW
  have hc1 : IntKind.u16.wrap (i : Int) = (i : Int) := by rw [IntKind.wrap_u16]; omega
  have hc2 : IntKind.u8.wrap (n : Int) = (n : Int) := by rw [IntKind.wrap_u8]; omega
  clear h hW
  go_enter Tryz.func133, Tryz.ntmps133
  go_upto_region 1 with (fail)
  obtain ⟨w1, hw1⟩ : ∃ w1, w1 = w.alloc (.cells #[.int .u16 (i : Int), .int .u8 (n : Int), .int .u8 0] 166) := ⟨_, rfl⟩
  have HB1 : Hid (Only (fun k => k = ge) w w1) := Lib.hid (by rw [hw1]; exact (Only.refl _ w).alloc _)
  have HT1 : Hid (TabAt w1 g ge f N T) := Lib.hid (by rw [hw1]; exact HT.out.alloc _)
  have HX : Hid (Blk w1 w.heap.size 166 (ec ⟨i, n, 0⟩)) := Lib.hid (by rw [hw1]; exact Blk.new w _ _)
  rw [← hw1]
  clear hw1 HT
  have ht1 : w1.cell? ⟨g, 1, none⟩ = some (.slice (some ⟨ge, 0, none⟩) N N) := by rw [HT1.out.tab.cell]; rfl
  have ht0 : w1.cell? ⟨g, 0, none⟩ = some (.int .u64 (f : Int)) := by rw [HT1.out.tab.cell]; rfl
  have x0 : w1.cell? ⟨w.heap.size, 0, none⟩ = some (.int .u16 (i : Int)) := by rw [HX.out.cell]; rfl
  have x1 : w1.cell? ⟨w.heap.size, 1, none⟩ = some (.int .u8 (n : Int)) := by rw [HX.out.cell]; rfl
  have x2 : w1.cell? ⟨w.heap.size, 2, none⟩ = some (.int .u8 0) := by rw [HX.out.cell]; rfl
  have hc3 : IntKind.i64.wrap (f : Int) = (f : Int) := by rw [IntWalk.i64_in _ (by omega)]
  have hd : decide ((n : Int) ≤ (f : Int)) = true := by simp; omega
  obtain ⟨p, hpe⟩ : ∃ p, p = 2 ^ f := ⟨_, rfl⟩
  rw [← hpe] at hfN hp h0 hp2
  have HP := Lib.hid hpe
  clear hpe
  have hs3 : IntKind.i64.wrap (p : Int) = (p : Int) := by rw [IntWalk.i64_in _ (by omega)]
  have hpn : (p : Int) ≤ (N : Int) := by omega
  go_upto_region 2 with (fail)
  go_still_tail 13, (by kernel_rfl)
  change wpList _ _ _ _ _ w1.drew
  have HT2 : Hid (TabAt w1.drew g ge f N T) := Lib.hid HT1.out.drew
  have HB2 : Hid (Only (fun k => k = ge) w w1.drew) := Lib.hid HB1.out.drew
  clear HT1 HB1 HX ht1 ht0 x0 x1 x2
  generalize w1.drew = w2 at *
  go_wp2_with fail
  refine (spread_any ge N 0 0 p N n W T ⟨i, n, 0⟩ w2 HT2.out.row' (by omega) HW.out (by omega) hN rfl).mono ?_
  rintro r w3 ⟨rfl, hr, hb⟩
  have HR3 : Hid (Row w3 ge N (fun j => if j < p ∧ j % 2 ^ n = W then ⟨i, n, 0⟩ else T j)) := Lib.hid (by
    have e : (fun j => if 0 ≤ j ∧ j < 0 + p ∧ (j - 0) % 2 ^ n = W then (⟨i, n, 0⟩ : El) else T j) = (fun j => if j < p ∧ j % 2 ^ n = W then ⟨i, n, 0⟩ else T j) := by
      funext j; simp
    rw [← e]; exact hr)
  have HT3 : Hid (TabAt w3 g ge f N (fun j => if j < p ∧ j % 2 ^ n = W then ⟨i, n, 0⟩ else T j)) := Lib.hid ⟨hb.blk HT2.out.tab HT2.out.ne, HR3.out⟩
  have HB3 := Lib.hid (HB2.out.trans hb (fun _ _ h => h))
  clear hr hb HR3 HT2 HB2
  go_wp2_with fail
  refine bodyPost_ret (results_none rfl _ _ _) rfl ?_
  exact ⟨rfl, by rw [← HP.out]; exact HT3.out, HB3.out⟩

set_option maxRecDepth 100000 in
set_option maxHeartbeats 4000000 in
theorem place_long (g ge f N i n W : Nat) (T : Nat → El) (w : World) (h : TabAt w g ge f N T) (hf : 1 ≤ f) (hN : N ≤ 65536) (hi : i < 65536) (hn : f < n) (hn15 : n ≤ 15) (hW : W < 2 ^ n) (hp : W % 2 ^ f < N) (hm : (T (W % 2 ^ f)).m ≤ 14) (hto : (T (W % 2 ^ f)).v + 2 ^ (T (W % 2 ^ f)).m ≤ N) :
    Calls Tryz.prog 133 #[.pointer (some ⟨g, 0, none⟩), .int .i64 (i : Int), .int .u32 (W : Int), .int .i64 (n : Int)] w fun r w' =>
      r = .returned (.tuple #[]) ∧ TabAt w' g ge f N (fun j => if (T (W % 2 ^ f)).v ≤ j ∧ j < (T (W % 2 ^ f)).v + 2 ^ (T (W % 2 ^ f)).m ∧ (j - (T (W % 2 ^ f)).v) % 2 ^ (n - f) = W / 2 ^ f then ⟨i, n, 0⟩ else T j) ∧ Only (fun k => k = ge) w w' := by
  have HT := Lib.hid h
  have hWs : W < 32768 := by have := pow_le15 hn15; omega
  have HD : Hid (W / 2 ^ f < 2 ^ (n - f)) := Lib.hid (by
    rw [Nat.div_lt_iff_lt_mul (Nat.two_pow_pos _), ← Nat.pow_add, show n - f + f = n from by omega]; exact hW)
  have hc1 : IntKind.u16.wrap (i : Int) = (i : Int) := by rw [IntKind.wrap_u16]; omega
  have hc2 : IntKind.u8.wrap (n : Int) = (n : Int) := by rw [IntKind.wrap_u8]; omega
  have hc3 : IntKind.i64.wrap (f : Int) = (f : Int) := by rw [IntWalk.i64_in _ (by omega)]
  have hd : decide ((n : Int) ≤ (f : Int)) = false := by simp; omega
  clear h hW
  go_enter Tryz.func133, Tryz.ntmps133
  go_upto_region 1 with (fail)
  obtain ⟨w1, hw1⟩ : ∃ w1, w1 = w.alloc (.cells #[.int .u16 (i : Int), .int .u8 (n : Int), .int .u8 0] 166) := ⟨_, rfl⟩
  have HB1 : Hid (Only (fun k => k = ge) w w1) := Lib.hid (by rw [hw1]; exact (Only.refl _ w).alloc _)
  have HT1 : Hid (TabAt w1 g ge f N T) := Lib.hid (by rw [hw1]; exact HT.out.alloc _)
  have HX : Hid (Blk w1 w.heap.size 166 (ec ⟨i, n, 0⟩)) := Lib.hid (by rw [hw1]; exact Blk.new w _ _)
  rw [← hw1]
  clear hw1 HT
  have ht0 : w1.cell? ⟨g, 0, none⟩ = some (.int .u64 (f : Int)) := by rw [HT1.out.tab.cell]; rfl
  go_upto_region 3 with (fail)
  clear ht0
  obtain ⟨p, hpe⟩ : ∃ p, p = W % 2 ^ f := ⟨_, rfl⟩
  have HS : Hid (p = W % 2 ^ f ∧ f ≤ 15 ∧ W < 4294967296) := Lib.hid ⟨hpe, by omega, by omega⟩
  rw [← hpe] at hp hm hto
  have HP := Lib.hid hpe
  clear hpe
  obtain ⟨e, he⟩ : ∃ e, e = T p := ⟨_, rfl⟩
  rw [← he] at hm hto
  have hkeep : ∀ w', Below w1.heap.size w1 w' → Hid (Blk w' g 162 #[.int .u64 (f : Int), .slice (some ⟨ge, 0, none⟩) N N]) ∧ w'.cell? ⟨g, 1, none⟩ = some (.slice (some ⟨ge, 0, none⟩) N N) ∧ w'.cell? ⟨ge, p * 3, none⟩ = some (.int .u16 ((e.v : Nat) : Int)) ∧ w'.cell? ⟨ge, p * 3 + 1, none⟩ = some (.int .u8 ((e.l : Nat) : Int)) ∧ w'.cell? ⟨ge, p * 3 + 2, none⟩ = some (.int .u8 ((e.m : Nat) : Int)) := by
    intro w' hb
    have h1 := HT1.out.below hb
    obtain ⟨c1, c2, c3⟩ := h1.el _ hp
    rw [← he] at c1 c2 c3
    exact ⟨Lib.hid h1.tab, by rw [h1.tab.cell]; rfl, c1, c2, c3⟩
  have HK := Lib.hid hkeep
  have HE := Lib.hid he
  clear hkeep he
  have hpi : ((p : Nat) : Int) < (N : Int) := by omega
  go_cut [9] (fun u wc => u = .pointer (some ⟨w1.heap.size, 0, none⟩) ∧ Hid (TabAt wc g ge f N T) ∧ Hid (Blk wc w1.heap.size 166 (ec e)) ∧ Hid (Blk wc w.heap.size 166 (ec ⟨i, n, 0⟩)) ∧ Hid (Only (fun k => k = ge) w wc))
  case first =>
    obtain ⟨k1, k2, k3, k4, k5⟩ := HK.out w1.drew (Below.refl _ _).drew
    go_region_held3 (fun w' => Hid (Blk w' g 162 #[.int .u64 (f : Int), .slice (some ⟨ge, 0, none⟩) N N]) ∧ w'.cell? ⟨g, 1, none⟩ = some (.slice (some ⟨ge, 0, none⟩) N N) ∧ w'.cell? ⟨ge, p * 3, none⟩ = some (.int .u16 ((e.v : Nat) : Int)) ∧ w'.cell? ⟨ge, p * 3 + 1, none⟩ = some (.int .u8 ((e.l : Nat) : Int)) ∧ w'.cell? ⟨ge, p * 3 + 2, none⟩ = some (.int .u8 ((e.m : Nat) : Int))) (first | exact ⟨by assumption, by assumption, by assumption, by assumption, by assumption⟩ | exact HK.out _ (Below.refl _ _).drew | exact HK.out _ ((Below.refl _ _).drew.alloc (Nat.le_refl _) _)) (first | (go_at_call 139; refine (start_at (u := .slice (some ⟨ge, 0, none⟩) N N) HS.out _ (HK.out _ (by first | exact (Below.refl _ _).drew | exact ((Below.refl _ _).alloc (Nat.le_refl _) _).drew)).1).mono ?_; rintro e2 w2 ⟨rfl, rfl⟩))
    all_goals
      go_wp2_with fail
      go_meet
      case rel => exact ⟨rfl, Lib.hid (HT1.out.below ((Below.refl _ _).alloc (Nat.le_refl _) _).drew), Lib.hid (Blk.new w1 _ _).drew, Lib.hid ((HX.out.alloc _).drew), Lib.hid ((HB1.out.alloc _).drew)⟩
  obtain ⟨rfl, HT2, HY2, HX2, HB2⟩ := hcut
  clear HT1 HB1 HX HK HS
  generalize wc = w2 at *
  generalize w1.heap.size = g5 at *
  obtain ⟨ev, el, em⟩ := e
  have ht1 : w2.cell? ⟨g, 1, none⟩ = some (.slice (some ⟨ge, 0, none⟩) N N) := by rw [HT2.out.tab.cell]; rfl
  have ht0 : w2.cell? ⟨g, 0, none⟩ = some (.int .u64 (f : Int)) := by rw [HT2.out.tab.cell]; rfl
  have x0 : w2.cell? ⟨w.heap.size, 0, none⟩ = some (.int .u16 (i : Int)) := by rw [HX2.out.cell]; rfl
  have x1 : w2.cell? ⟨w.heap.size, 1, none⟩ = some (.int .u8 (n : Int)) := by rw [HX2.out.cell]; rfl
  have x2 : w2.cell? ⟨w.heap.size, 2, none⟩ = some (.int .u8 0) := by rw [HX2.out.cell]; rfl
  have y0 : w2.cell? ⟨g5, 0, none⟩ = some (.int .u16 (ev : Int)) := by rw [HY2.out.cell]; rfl
  have y2 : w2.cell? ⟨g5, 2, none⟩ = some (.int .u8 (em : Int)) := by rw [HY2.out.cell]; rfl
  have hto : ev + 2 ^ em ≤ N := hto
  have hm : em ≤ 14 := hm
  have h0 := Nat.two_pow_pos em
  have hp2 : (2 : Int) ^ em = ((2 ^ em : Nat) : Int) := by push_cast; rfl
  obtain ⟨L, hLe⟩ : ∃ L, L = 2 ^ em := ⟨_, rfl⟩
  rw [← hLe] at hto h0 hp2
  have HL := Lib.hid hLe
  clear hLe
  have hs3 : IntKind.i64.wrap (L : Int) = (L : Int) := by rw [IntWalk.i64_in _ (by omega)]
  have hs4 : IntKind.i64.wrap ((n : Int) - (f : Int)) = ((n - f : Nat) : Int) := by rw [IntWalk.i64_in _ (by omega)]; omega
  have hvN : (ev : Int) ≤ (N : Int) := by omega
  have hLN : (L : Int) ≤ ((N - ev : Nat) : Int) := by omega
  go_upto_region 4 with (fail)
  go_still_tail 25, (by kernel_rfl)
  change wpList _ _ _ _ _ w2.drew
  have HT3 : Hid (TabAt w2.drew g ge f N T) := Lib.hid HT2.out.drew
  have HB3 : Hid (Only (fun k => k = ge) w w2.drew) := Lib.hid HB2.out.drew
  clear HT2 HB2 HX2 HY2 ht1 ht0 x0 x1 x2 y0 y2
  generalize w2.drew = w3 at *
  go_wp2_with fail
  have hdv : (W : Int) / 2 ^ f = ((W / 2 ^ f : Nat) : Int) := by push_cast; rfl
  rw [hdv]
  clear hdv
  refine (spread_any ge N ev (ev * 3) L (N - ev) (n - f) (W / 2 ^ f) T ⟨i, n, 0⟩ w3 HT3.out.row' (by omega) HD.out (by omega) hN rfl).mono ?_
  rintro r w4 ⟨rfl, hr, hb⟩
  have HT4 : Hid (TabAt w4 g ge f N (fun j => if ev ≤ j ∧ j < ev + L ∧ (j - ev) % 2 ^ (n - f) = W / 2 ^ f then ⟨i, n, 0⟩ else T j)) := Lib.hid ⟨hb.blk HT3.out.tab HT3.out.ne, hr⟩
  have HB4 := Lib.hid (HB3.out.trans hb (fun _ _ h => h))
  clear hr hb HT3 HB3
  go_wp2_with fail
  go_end0
  refine ⟨rfl, ?_, HB4.out⟩
  have h1 := HT4.out
  rw [HL.out] at h1
  rw [← HP.out, ← HE.out]
  exact h1
end Go.Proofs.YtilfmmjjiiabgaaGreatDoor.TabC
end
