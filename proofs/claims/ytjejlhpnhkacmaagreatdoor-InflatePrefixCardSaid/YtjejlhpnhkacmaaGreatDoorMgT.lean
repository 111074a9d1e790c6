import Derived.Test.YtjejlhpnhkacmaaGreatDoorRows
import Derived.Test.YtjejlhpnhkacmaaGreatDoorMgA
import Derived.Laws.Pointers
import Derived.Deep.QuietTactic
import Derived.BigQuiet
import Derived.Deep.DeepCutAuto
import Derived.Deep.CutBlock
import Derived.StillTailTactics
import Derived.BigRegion
import Derived.Deep.RegionHeld3
import Derived.Deep.RegionWith
import Derived.Test.YtjejlhpnhkacmaaGreatDoorMgC
import Derived.Laws.CopyOwn

section
/-
  math/bits.Reverse32; table.turned.
-/
namespace Go.Proofs.YtjejlhpnhkacmaaGreatDoor.TabC
open Go.RowKit Go.My BitMath CanMath TabMath

theorem swap_eq (x k K m : Nat) (hK : K = 2 ^ k) (hx : x < 4294967296) (hm : m < 4294967296) :
    bits .or .u32 (bits .and .u32 ((x : Int) / (K : Int)) (m : Int)) (bits .and .u32 (x : Int) (m : Int) * (K : Int) % 4294967296) = ((swp k m x : Nat) : Int) := by
  subst hK
  have hd := Nat.div_le_self x (2 ^ k)
  have e : (x : Int) / ((2 ^ k : Nat) : Int) = ((x / 2 ^ k : Nat) : Int) := by simp
  rw [e, u32_and_nat _ _ (by omega) hm, u32_and_nat _ _ hx hm]
  have e2 : ((x &&& m : Nat) : Int) * ((2 ^ k : Nat) : Int) % 4294967296 = (((x &&& m) * 2 ^ k % 2 ^ 32 : Nat) : Int) := by
    rw [Int.natCast_emod, Int.natCast_mul]; rfl
  rw [e2, u32_or_nat]
  · rfl
  · exact Nat.lt_of_le_of_lt Nat.and_le_right hm
  · exact Nat.mod_lt _ (by decide)
theorem last_eq (x : Nat) (hx : x < 4294967296) : bits .or .u32 ((x : Int) / 65536) ((x : Int) * 65536 % 4294967296) = ((swp 16 65535 x : Nat) : Int) := by
  have e : (x : Int) / 65536 = ((x / 65536 : Nat) : Int) := by omega
  have e2 : (x : Int) * 65536 % 4294967296 = ((x * 65536 % 4294967296 : Nat) : Int) := by omega
  rw [e, e2, u32_or_nat _ _ (by omega) (by omega), swp_last x hx]

theorem revbytes_any (x : Nat) (w : World) (hx : x < 4294967296) :
    Calls Tryz.prog 104 #[.int .u32 (x : Int)] w fun e w' => e = .returned (.int .u32 ((swp 16 65535 (swp 8 16711935 x) : Nat) : Int)) ∧ w = w' := by
  have h1 : bits .or .u32 (bits .and .u32 ((x : Int) / 256) 16711935) (bits .and .u32 (x : Int) 16711935 * 256 % 4294967296) = ((swp 8 16711935 x : Nat) : Int) := swap_eq x 8 256 16711935 rfl hx (by decide)
  have hl := swp_lt 8 16711935 x (by decide)
  have h2 := last_eq (swp 8 16711935 x) hl
  generalize swp 8 16711935 x = y at *
  generalize swp 16 65535 y = z at *
  go_enter Tryz.func104, Tryz.ntmps104
  go_wp2
  go_ret
  exact ⟨rfl, rfl⟩
set_option maxHeartbeats 1000000 in
theorem reverse_any (x : Nat) (w : World) (hx : x < 4294967296) :
    Calls Tryz.prog 101 #[.int .u32 (x : Int)] w fun e w' => e = .returned (.int .u32 ((rc 32 x : Nat) : Int)) ∧ w = w' := by
  have h1 : bits .or .u32 (bits .and .u32 ((x : Int) / 2) 1431655765) (bits .and .u32 (x : Int) 1431655765 * 2 % 4294967296) = ((swp 1 1431655765 x : Nat) : Int) := swap_eq x 1 2 1431655765 rfl hx (by decide)
  have l1 := swp_lt 1 1431655765 x (by decide)
  have h2 : bits .or .u32 (bits .and .u32 (((swp 1 1431655765 x : Nat) : Int) / 4) 858993459) (bits .and .u32 ((swp 1 1431655765 x : Nat) : Int) 858993459 * 4 % 4294967296) = ((swp 2 858993459 (swp 1 1431655765 x) : Nat) : Int) := swap_eq (swp 1 1431655765 x) 2 4 858993459 rfl l1 (by decide)
  have l2 := swp_lt 2 858993459 (swp 1 1431655765 x) (by decide)
  have h3 : bits .or .u32 (bits .and .u32 (((swp 2 858993459 (swp 1 1431655765 x) : Nat) : Int) / 16) 252645135) (bits .and .u32 ((swp 2 858993459 (swp 1 1431655765 x) : Nat) : Int) 252645135 * 16 % 4294967296) = ((swp 4 252645135 (swp 2 858993459 (swp 1 1431655765 x)) : Nat) : Int) := swap_eq (swp 2 858993459 (swp 1 1431655765 x)) 4 16 252645135 rfl l2 (by decide)
  have l3 := swp_lt 4 252645135 (swp 2 858993459 (swp 1 1431655765 x)) (by decide)
  have HA := Lib.hid (swp_all x hx)
  clear l1 l2
  generalize swp 1 1431655765 x = y1 at *
  generalize swp 2 858993459 y1 = y2 at *
  generalize swp 4 252645135 y2 = y3 at *
  go_enter Tryz.func101, Tryz.ntmps101
  go_wp2_with fail
  refine (revbytes_any y3 w l3).mono ?_
  rw [HA.out]
  rintro e w' ⟨rfl, rfl⟩
  go_wp2_with fail
  go_ret
  exact ⟨rfl, rfl⟩

/-- A code as it is read. -/
theorem turned_any (c n : Nat) (w : World) (hn : n ≤ 15) (hc : c < 2 ^ n) :
    Calls Tryz.prog 94 #[.int .u32 (c : Int), .int .i64 (n : Int)] w fun e w' => e = .returned (.int .u32 ((rc n c : Nat) : Int)) ∧ w = w' := by
  have hpow : 2 ^ n ≤ 2 ^ 15 := Nat.pow_le_pow_right (by omega) hn
  have HR := Lib.hid (rc_of_word n c (by omega))
  have hs1 : (32 - (n : Int)).toNat = 32 - n := by omega
  have hlt := rc_lt 32 c
  go_enter Tryz.func94, Tryz.ntmps94
  go_wp2_with fail
  refine (reverse_any c w (by omega)).mono ?_
  rintro e w' ⟨rfl, rfl⟩
  generalize rc 32 c = y at *
  go_wp2_with fail
  go_ret
  exact ⟨by rw [← HR.out]; simp, rfl⟩
end Go.Proofs.YtjejlhpnhkacmaaGreatDoor.TabC
end

section
/-
  A table in memory: its elements; where a row of bits leads.
-/
namespace Go.Proofs.YtjejlhpnhkacmaaGreatDoor.TabC
open Go.RowKit Go.My BitMath CanMath TabMath

/-- An element's three cells. -/
def ec (e : El) : Array Value := #[.int .u16 ((e.v : Nat) : Int), .int .u8 ((e.l : Nat) : Int), .int .u8 ((e.m : Nat) : Int)]
/-- A row of n elements. -/
structure Els (C : Array Value) (n : Nat) (T : Nat → El) : Prop where
  size : C.size = n * 3
  at0 : ∀ j, j < n → C[j * 3]? = some (.int .u16 (((T j).v : Nat) : Int))
  at1 : ∀ j, j < n → C[j * 3 + 1]? = some (.int .u8 (((T j).l : Nat) : Int))
  at2 : ∀ j, j < n → C[j * 3 + 2]? = some (.int .u8 (((T j).m : Nat) : Int))
/-- A table: so many first bits, its elements in a block of their own. -/
structure TabAt (w : World) (g ge f n : Nat) (T : Nat → El) : Prop where
  tab : Blk w g 130 #[.int .u64 (f : Int), .slice (some ⟨ge, 0, none⟩) n n]
  row : ∃ C, Blk w ge 134 C ∧ Els C n T
theorem TabAt.alloc {w : World} {g ge f n : Nat} {T : Nat → El} (h : TabAt w g ge f n T) (o : Obj) : TabAt (w.alloc o) g ge f n T := by
  obtain ⟨h1, C, h2, h3⟩ := h
  exact ⟨h1.alloc o, C, h2.alloc o, h3⟩
theorem TabAt.same {w w' : World} {g ge f n : Nat} {T : Nat → El} (h : TabAt w g ge f n T) (h1 : w'.heap[g]? = w.heap[g]?) (h2 : w'.heap[ge]? = w.heap[ge]?) : TabAt w' g ge f n T := by
  obtain ⟨h3, C, h4, h5⟩ := h
  exact ⟨h3.same h1, C, h4.same h2, h5⟩
theorem TabAt.lt {w : World} {g ge f n : Nat} {T : Nat → El} (h : TabAt w g ge f n T) : g < w.heap.size ∧ ge < w.heap.size := by
  obtain ⟨h3, C, h4, h5⟩ := h
  exact ⟨h3.lt, h4.lt⟩
theorem TabAt.drew {w : World} {g ge f n : Nat} {T : Nat → El} (h : TabAt w g ge f n T) : TabAt w.drew g ge f n T := h.same rfl rfl
theorem TabAt.below {w w' : World} {g ge f n : Nat} {T : Nat → El} (h : TabAt w g ge f n T) (hb : Below w.heap.size w w') : TabAt w' g ge f n T :=
  h.same (hb.block g h.lt.1) (hb.block ge h.lt.2)
theorem TabAt.el {w : World} {g ge f n : Nat} {T : Nat → El} (h : TabAt w g ge f n T) (j : Nat) (hj : j < n) :
    w.cell? ⟨ge, j * 3, none⟩ = some (.int .u16 (((T j).v : Nat) : Int)) ∧ w.cell? ⟨ge, j * 3 + 1, none⟩ = some (.int .u8 (((T j).l : Nat) : Int)) ∧ w.cell? ⟨ge, j * 3 + 2, none⟩ = some (.int .u8 (((T j).m : Nat) : Int)) := by
  obtain ⟨_, C, h4, h5⟩ := h
  exact ⟨by rw [h4.cell]; exact h5.at0 j hj, by rw [h4.cell]; exact h5.at1 j hj, by rw [h4.cell]; exact h5.at2 j hj⟩
theorem u32_low (v f : Nat) (hv : v < 4294967296) (hf : f ≤ 15) : bits .and .u32 (v : Int) (((2 : Int) ^ f - 1) % 4294967296) = ((v % 2 ^ f : Nat) : Int) := by
  have hp : 2 ^ f ≤ 2 ^ 15 := Nat.pow_le_pow_right (by omega) hf
  have h0 : 0 < 2 ^ f := Nat.two_pow_pos f
  have e : ((2 : Int) ^ f - 1) % 4294967296 = ((2 ^ f - 1 : Nat) : Int) := by
    have e1 : (2 : Int) ^ f = ((2 ^ f : Nat) : Int) := by push_cast; rfl
    rw [e1]; omega
  rw [e, u32_and_nat _ _ hv (by omega), Nat.and_two_pow_sub_one_eq_mod]

theorem start_any (g f v : Nat) (u : Value) (w : World) (h : Blk w g 130 #[.int .u64 (f : Int), u]) (hf : f ≤ 15) (hv : v < 4294967296) :
    Calls Tryz.prog 102 #[.pointer (some ⟨g, 0, none⟩), .int .u32 (v : Int)] w fun e w' => e = .returned (.int .u32 ((v % 2 ^ f : Nat) : Int)) ∧ w = w' := by
  have hc0 : w.cell? ⟨g, 0, none⟩ = some (.int .u64 (f : Int)) := by rw [h.cell]; rfl
  go_enter Tryz.func102, Tryz.ntmps102
  have hb := u32_low v f hv hf
  go_wp2_with fail
  go_ret
  exact ⟨rfl, rfl⟩

theorem start_at {g f v p : Nat} {u : Value} (hs : p = v % 2 ^ f ∧ f ≤ 15 ∧ v < 4294967296) (w : World) (h : Hid (Blk w g 130 #[.int .u64 (f : Int), u])) :
    Calls Tryz.prog 102 #[.pointer (some ⟨g, 0, none⟩), .int .u32 (v : Int)] w fun e w' => e = .returned (.int .u32 ((p : Nat) : Int)) ∧ w = w' := by
  rw [hs.1]; exact start_any g f v u w h.out hs.2.1 hs.2.2

theorem info_el : (Tryz.prog.info? 134).map (·.size) = some 3 := by kernel_rfl
abbrev e0 : Array Value := #[.int .u16 0, .int .u8 0, .int .u8 0]
/-- What look finds in the elements. -/
def lookT (T : Nat → El) (f v : Nat) : El := if 0 < (T (v % 2 ^ f)).m then T ((T (v % 2 ^ f)).v + v / 2 ^ f % 2 ^ (T (v % 2 ^ f)).m) else T (v % 2 ^ f)
theorem look_ret {a : Act} {w : World} {g : Nat} {C : Array Value} {R : Ending → World → Prop} (hd : a.defers = []) (hp : a.tmps.getD 4 undef = .pointer (some ⟨g, 0, none⟩))
    (hg : Blk w g 134 C) (hs : C.size = 3) (h : R (.returned (.agg C)) w) :
    bodyPost Tryz.prog Tryz.f97 R .ret a w := by
  refine bodyPost_ret (v := .agg C) ?_ hd h
  have hp' : a.tmps[4]?.getD undef = .pointer (some ⟨g, 0, none⟩) := by simpa using hp
  simp [results, hp', asAddr, run_loadVar_row (P := Tryz.prog) w g 134 134 C (0, 0) _ hg Tryz.underlying134 rfl (by rw [hs]; exact info_el)]
theorem look_nums (v f em q : Nat) (hv : v < 32768) (hm : em ≤ 14) (hq : q = v / 2 ^ f % 2 ^ em) :
    IntKind.u32.wrap ((2 : Int) ^ em) = (2 : Int) ^ em ∧ IntKind.u32.wrap ((2 : Int) ^ em - 1) = (2 : Int) ^ em - 1 ∧ bits .and .u32 ((v : Int) / 2 ^ f) ((2 : Int) ^ em - 1) = (q : Int) := by
  have h := u32_low (v / 2 ^ f) em (by have := Nat.div_le_self v (2 ^ f); omega) (by omega)
  have e : (v : Int) / 2 ^ f = ((v / 2 ^ f : Nat) : Int) := by push_cast; rfl
  have h2 : 2 ^ em ≤ 2 ^ 14 := Nat.pow_le_pow_right (by omega) hm
  have h0 := Nat.two_pow_pos em
  have e1 : (2 : Int) ^ em = ((2 ^ em : Nat) : Int) := by push_cast; rfl
  rw [Int.emod_eq_of_lt (by rw [e1]; omega) (by rw [e1]; omega)] at h
  refine ⟨by rw [IntKind.wrap_u32, e1]; omega, by rw [IntKind.wrap_u32, e1]; omega, ?_⟩
  rw [e, h, hq]

set_option maxRecDepth 100000 in
set_option maxHeartbeats 4000000 in
theorem look_any (g ge f n v : Nat) (T : Nat → El) (w : World) (h : TabAt w g ge f n T) (hf : f ≤ 15) (hv : v < 32768) (hp : v % 2 ^ f < n) (hm : (T (v % 2 ^ f)).m ≤ 14) (hj : 0 < (T (v % 2 ^ f)).m → (T (v % 2 ^ f)).v + v / 2 ^ f % 2 ^ (T (v % 2 ^ f)).m < n) (hl : (T (v % 2 ^ f)).v < 65536) :
    Calls Tryz.prog 97 #[.pointer (some ⟨g, 0, none⟩), .int .u32 (v : Int)] w fun e w' => e = .returned (.agg (ec (lookT T f v))) ∧ Below w.heap.size w w' := by
  have HT := Lib.hid h
  have hz : ((n : Int) == 0) = false := by simp; omega
  clear h
  go_enter Tryz.func97, Tryz.ntmps97
  go_upto_region 1 with (fail)
  obtain ⟨w1, hw1⟩ : ∃ w1, w1 = w.alloc (.cells e0 134) := ⟨_, rfl⟩
  have HB1 : Hid (Below w.heap.size w w1) := Lib.hid (by rw [hw1]; exact (Below.refl _ w).alloc (Nat.le_refl _) _)
  have HT1 : Hid (TabAt w1 g ge f n T) := Lib.hid (by rw [hw1]; exact HT.out.alloc _)
  have HR1 : Hid (Blk w1 w.heap.size 134 e0) := Lib.hid (by rw [hw1]; exact Blk.new w _ _)
  rw [← hw1]
  clear hw1 HT
  obtain ⟨p, hpe⟩ : ∃ p, p = v % 2 ^ f := ⟨_, rfl⟩
  have HLT : Hid (lookT T f v = if 0 < (T p).m then T ((T p).v + v / 2 ^ f % 2 ^ (T p).m) else T p) := Lib.hid (by unfold lookT; rw [hpe])
  rw [← hpe] at hp hm hj hl
  have HS : Hid (p = v % 2 ^ f ∧ f ≤ 15 ∧ v < 4294967296) := Lib.hid ⟨hpe, hf, by omega⟩
  clear hpe
  obtain ⟨e, he⟩ : ∃ e, e = T p := ⟨_, rfl⟩
  rw [← he] at hm hj hl HLT
  have hkeep : ∀ w', Below w1.heap.size w1 w' → Hid (Blk w' g 130 #[.int .u64 (f : Int), .slice (some ⟨ge, 0, none⟩) n n]) ∧ w'.cell? ⟨g, 1, none⟩ = some (.slice (some ⟨ge, 0, none⟩) n n) ∧ w'.cell? ⟨ge, p * 3, none⟩ = some (.int .u16 ((e.v : Nat) : Int)) ∧ w'.cell? ⟨ge, p * 3 + 1, none⟩ = some (.int .u8 ((e.l : Nat) : Int)) ∧ w'.cell? ⟨ge, p * 3 + 2, none⟩ = some (.int .u8 ((e.m : Nat) : Int)) := by
    intro w' hb
    have h1 := HT1.out.below hb
    obtain ⟨c1, c2, c3⟩ := h1.el _ hp
    rw [← he] at c1 c2 c3
    exact ⟨Lib.hid h1.tab, by rw [h1.tab.cell]; rfl, c1, c2, c3⟩
  have HK := Lib.hid hkeep
  obtain ⟨k1, hc1, k2, k3, k4⟩ := hkeep w1 (Below.refl _ _)
  clear hkeep k1 k2 k3 k4 he
  have hpi : ((p : Nat) : Int) < (n : Int) := by omega
  go_upto_region 3 with (fail)
  clear hc1
  go_cut [5] (fun u wc => u = .pointer (some ⟨w1.heap.size, 0, none⟩) ∧ Hid (TabAt wc g ge f n T) ∧ Hid (Blk wc w1.heap.size 134 (ec e)) ∧ Hid (Blk wc w.heap.size 134 e0) ∧ Hid (Below w.heap.size w wc))
  case first =>
    obtain ⟨k1, k2, k3, k4, k5⟩ := HK.out w1.drew (Below.refl _ _).drew
    go_region_held3 (fun w' => Hid (Blk w' g 130 #[.int .u64 (f : Int), .slice (some ⟨ge, 0, none⟩) n n]) ∧ w'.cell? ⟨g, 1, none⟩ = some (.slice (some ⟨ge, 0, none⟩) n n) ∧ w'.cell? ⟨ge, p * 3, none⟩ = some (.int .u16 ((e.v : Nat) : Int)) ∧ w'.cell? ⟨ge, p * 3 + 1, none⟩ = some (.int .u8 ((e.l : Nat) : Int)) ∧ w'.cell? ⟨ge, p * 3 + 2, none⟩ = some (.int .u8 ((e.m : Nat) : Int))) (first | exact ⟨by assumption, by assumption, by assumption, by assumption, by assumption⟩ | exact HK.out _ (Below.refl _ _).drew | exact HK.out _ ((Below.refl _ _).drew.alloc (Nat.le_refl _) _)) (first | (go_at_call 102; refine (start_at (u := .slice (some ⟨ge, 0, none⟩) n n) HS.out _ (HK.out _ (by first | exact (Below.refl _ _).drew | exact ((Below.refl _ _).alloc (Nat.le_refl _) _).drew)).1).mono ?_; rintro e2 w2 ⟨rfl, rfl⟩))
    all_goals
      go_wp2_with fail
      go_meet
      case rel => exact ⟨rfl, Lib.hid (HT1.out.below ((Below.refl _ _).alloc (Nat.le_refl _) _).drew), Lib.hid (Blk.new w1 _ _).drew, Lib.hid ((HR1.out.alloc _).drew), Lib.hid (HB1.out.trans ((((Below.refl _ _).alloc (Nat.le_refl _) _).drew).mono HB1.out.size))⟩
  obtain ⟨rfl, HT2, HX2, HR2, HB2⟩ := hcut
  have HN : Hid (w.heap.size < w1.heap.size) := Lib.hid HR1.out.lt
  clear HT1 HR1 HB1 HK HS
  generalize wc = w2 at *
  generalize w1.heap.size = g5 at *
  obtain ⟨ev, el, em⟩ := e
  dsimp only at hm hj hl HLT
  have hx2 : w2.cell? ⟨g5, 2, none⟩ = some (.int .u8 (em : Int)) := by rw [HX2.out.cell]; rfl
  have hx0 : w2.cell? ⟨g5, 0, none⟩ = some (.int .u16 (ev : Int)) := by rw [HX2.out.cell]; rfl
  have hx1 : w2.cell? ⟨g5, 1, none⟩ = some (.int .u8 (el : Int)) := by rw [HX2.out.cell]; rfl
  have hf0 : w2.frozen? ⟨w.heap.size, 0, none⟩ = false := HR2.out.frozen 0
  have hf1 : w2.frozen? ⟨w.heap.size, 1, none⟩ = false := HR2.out.frozen 1
  have hf2 : w2.frozen? ⟨w.heap.size, 2, none⟩ = false := HR2.out.frozen 2
  have hr0 : w2.cell? ⟨w.heap.size, 0, none⟩ = some (.int .u16 0) := by rw [HR2.out.cell]; rfl
  have hr1 : w2.cell? ⟨w.heap.size, 1, none⟩ = some (.int .u8 0) := by rw [HR2.out.cell]; rfl
  have hr2 : w2.cell? ⟨w.heap.size, 2, none⟩ = some (.int .u8 0) := by rw [HR2.out.cell]; rfl
  by_cases h0 : 0 < em
  · rw [if_pos h0] at HLT
    have hg : decide ((em : Int) > 0) = true := by simp; omega
    have hj := hj h0
    obtain ⟨q, hq⟩ : ∃ q, q = v / 2 ^ f % 2 ^ em := ⟨_, rfl⟩
    obtain ⟨m1, m2, m3⟩ := look_nums v f em q hv hm hq
    rw [← hq] at hj HLT
    have hqs : q < 16384 := by
      have := Nat.mod_lt (v / 2 ^ f) (Nat.two_pow_pos em)
      have h2 : 2 ^ em ≤ 2 ^ 14 := Nat.pow_le_pow_right (by omega) hm
      omega
    obtain ⟨j, hje⟩ : ∃ j, j = ev + q := ⟨_, rfl⟩
    have m4 : IntKind.u32.wrap (ev : Int) = (ev : Int) := by rw [IntKind.wrap_u32]; omega
    have m5 : IntKind.u32.wrap ((ev : Int) + (q : Int)) = (j : Int) := by rw [IntKind.wrap_u32]; omega
    rw [← hje] at hj HLT
    clear hq hje
    obtain ⟨c0, c1, c2⟩ := HT2.out.el _ hj
    have ht1 : w2.cell? ⟨g, 1, none⟩ = some (.slice (some ⟨ge, 0, none⟩) n n) := by rw [HT2.out.tab.cell]; rfl
    have ht0 : w2.cell? ⟨g, 0, none⟩ = some (.int .u64 (f : Int)) := by rw [HT2.out.tab.cell]; rfl
    have hji : ((j : Nat) : Int) < (n : Int) := by omega
    generalize T j = y at *
    go_upto_region 5 with (fail)
    go_still_tail 21, (by kernel_rfl)
    change wpList _ _ _ _ _ w2.drew
    have HT3 : Hid (TabAt w2.drew g ge f n T) := Lib.hid HT2.out.drew
    have HX3 : Hid (Blk w2.drew g5 134 (ec ⟨ev, el, em⟩)) := HX2
    have HR3 : Hid (Blk w2.drew w.heap.size 134 e0) := HR2
    have HB3 : Hid (Below w.heap.size w w2.drew) := Lib.hid HB2.out.drew
    clear HT2 HX2 HR2 HB2 hx2 hx0 hx1 hf0 hf1 hf2 hr0 hr1 hr2 ht0 ht1 c0 c1 c2
    generalize w2.drew = w3 at *
    have HN2 : Hid (w.heap.size ≠ g5) := Lib.hid (by have := HN.out; omega)
    have HR4 : Hid (Blk (w3.setRow g5 (ec y)) w.heap.size 134 e0) := Lib.hid (HR3.out.same (setRow_block _ _ _ _ HN2.out))
    go_wp2_with (first
      | (refine wpList_store_row rfl _ _ _ rfl g5 _ rfl rfl 134 (ec ⟨ev, el, em⟩) HX3.out info_el rfl (by kernel_rfl) ?_)
      | (refine wpList_load_row rfl 134 _ rfl g5 rfl 134 (ec y) (0, 0) _ (HX3.out.row (ec y)) Tryz.underlying134 rfl info_el ?_)
      | (refine wpList_store_row rfl _ _ _ rfl w.heap.size _ rfl rfl 134 e0 HR4.out info_el rfl (by kernel_rfl) ?_))
    rw [HLT.out]
    exact look_ret rfl rfl (HR4.out.row (ec y)) rfl ⟨rfl, below_row (below_row HB3.out (Nat.le_of_lt HN.out) _) (Nat.le_refl _) _⟩
  · obtain rfl : em = 0 := by omega
    rw [if_neg h0] at HLT
    go_wp2_with (first
      | (refine wpList_store_row rfl _ _ _ rfl w.heap.size _ rfl rfl 134 e0 HR2.out info_el rfl (by kernel_rfl) ?_))
    rw [HLT.out]
    exact look_ret rfl rfl (HR2.out.row _) rfl ⟨rfl, below_row HB2.out (Nat.le_refl _) _⟩
end Go.Proofs.YtjejlhpnhkacmaaGreatDoor.TabC
end

section
/-
  A table is asked: Find, Size.
-/
namespace Go.Proofs.YtjejlhpnhkacmaaGreatDoor.TabC
open Go.RowKit Go.My BitMath CanMath TabMath

theorem quiet_below (w : World) (n : Nat) : Below w.heap.size w (w.drewN n) := ⟨rfl, rfl, rfl, Nat.le_refl _, fun _ _ => rfl⟩
/-- So many bits are there. -/
def cl (n : Int) : Nat := (min (max n 0) 15).toNat
theorem cl_le (n : Int) : cl n ≤ 15 := by unfold cl; omega
theorem cl_eq (n : Int) : ∃ k : Nat, (if n < 0 then (0 : Int) else n) = (k : Int) ∧ (if 15 < (k : Int) then (15 : Int) else (k : Int)) = ((cl n : Nat) : Int) ∧ (if (k : Int) < 15 then (k : Int) else (15 : Int)) = ((cl n : Nat) : Int) := by
  unfold cl
  refine ⟨(max n 0).toNat, ?_, ?_, ?_⟩
  · split <;> omega
  · split <;> omega
  · split <;> omega
/-- What Find answers of an element. -/
def ansV (e : El) (m : Nat) : Value := if e.l = 0 then .tuple #[.int .i64 0, .int .i64 0, .int .i64 2] else if m < e.l then .tuple #[.int .i64 0, .int .i64 0, .int .i64 5] else .tuple #[.int .i64 ((e.v : Nat) : Int), .int .i64 ((e.l : Nat) : Int), .int .i64 0]

theorem find_nil (v n : Int) (w : World) :
    Calls Tryz.prog 85 #[.pointer none, .int .u32 v, .int .i64 n] w fun e w' => e = .returned (.tuple #[.int .i64 0, .int .i64 0, .int .i64 1]) ∧ w = w' := by
  go_enter Tryz.func85, Tryz.ntmps85
  go_wp2_with fail
  go_ret3
  exact ⟨rfl, rfl⟩
set_option maxRecDepth 100000 in
set_option maxHeartbeats 4000000 in
theorem find_any (g ge f N v : Nat) (n : Int) (T : Nat → El) (w : World) (h : TabAt w g ge f N T) (hf : f ≤ 15) (hv : v < 4294967296)
    (hu : ∀ u, u < 32768 → u % 2 ^ f < N ∧ (T (u % 2 ^ f)).m ≤ 14 ∧ (0 < (T (u % 2 ^ f)).m → (T (u % 2 ^ f)).v + u / 2 ^ f % 2 ^ (T (u % 2 ^ f)).m < N) ∧ (T (u % 2 ^ f)).v < 65536 ∧ (lookT T f u = El.z ∨ (0 < (lookT T f u).l ∧ (lookT T f u).l ≤ 15 ∧ (lookT T f u).v < 65536))) :
    Calls Tryz.prog 85 #[.pointer (some ⟨g, 0, none⟩), .int .u32 (v : Int), .int .i64 n] w fun e w' => e = .returned (ansV (lookT T f (v % 2 ^ cl n)) (cl n)) ∧ Below w.heap.size w w' := by
  have HT := Lib.hid h
  have hc15 := cl_le n
  obtain ⟨k, hk1, hk2, hk3⟩ := cl_eq n
  generalize cl n = m at *
  have hus : v % 2 ^ m < 32768 := by
    have := Nat.mod_lt v (Nat.two_pow_pos m)
    have h2 := pow_le15 hc15
    omega
  obtain ⟨q1, q2, q3, q4, q5⟩ := hu _ hus
  have hand := u32_low v m hv hc15
  have HL := Lib.hid (look_any g ge f N (v % 2 ^ m) T w h hf hus q1 q2 q3 q4)
  clear h hu q1 q2 q3 q4
  generalize v % 2 ^ m = u at *
  generalize lookT T f u = y at *
  obtain ⟨yv, yl, ym⟩ := y
  have hml : (m : Int) < 16 := by omega
  go_enter Tryz.func85, Tryz.ntmps85
  go_wp2_with fail
  refine HL.out.mono ?_
  clear HL
  rintro e w2 ⟨rfl, hb⟩
  have HB := Lib.hid hb
  clear hb hk1 hk2 hk3 hand
  dsimp only [ec]
  rcases q5 with h0 | ⟨h1, h2, h3⟩
  · obtain ⟨rfl, rfl, rfl⟩ : yv = 0 ∧ yl = 0 ∧ ym = 0 := by simpa [El.z] using h0
    go_wp2_with fail
    go_ret3
    exact ⟨rfl, HB.out.alloc HB.out.size _⟩
  · have g1 : ((yl : Int) == 0) = false := by simp; omega
    by_cases hlt : m < yl
    · have g2 : decide ((yl : Int) > (m : Int)) = true := by simp; omega
      go_wp2_with fail
      go_ret3
      exact ⟨by unfold ansV; rw [if_neg (by simp; omega), if_pos hlt]; rfl, HB.out.alloc HB.out.size _⟩
    · have g2 : decide ((yl : Int) > (m : Int)) = false := by simp; omega
      go_wp2_with fail
      have e1 : IntKind.i64.wrap (yv : Int) = (yv : Int) := by rw [IntWalk.i64_in _ (by omega)]
      have e2 : IntKind.i64.wrap (yl : Int) = (yl : Int) := by rw [IntWalk.i64_in _ (by omega)]
      go_quiet (fail)
      have HB3 := Lib.hid ((HB.out.alloc HB.out.size (.cells #[.int .u16 (yv : Int), .int .u8 (yl : Int), .int .u8 (ym : Int)] 134)).trans ((quiet_below _ nq).mono (Nat.le_trans HB.out.size (by simp))))
      go_wp2_with fail
      go_ret3
      exact ⟨by unfold ansV; rw [if_neg (by simp; omega), if_neg hlt]; rfl, HB3.out⟩
end Go.Proofs.YtjejlhpnhkacmaaGreatDoor.TabC
end

section
/-
  A symbol is placed: spread, place.
-/
namespace Go.Proofs.YtjejlhpnhkacmaaGreatDoor.TabC
open Go.RowKit Go.My BitMath CanMath TabMath

/-- The elements behind a spread of e from place B on, L long, as far as i. -/
def spr (T : Nat → El) (B L p W i : Nat) (e : El) (j : Nat) : El := if B ≤ j ∧ j < B + L ∧ j < B + i ∧ (j - B) % p = W then e else T j
theorem spr_start (T : Nat → El) (B L p W : Nat) (hW : W < p) (e : El) : spr T B L p W W e = T := by
  funext j
  unfold spr
  rw [if_neg]
  rintro ⟨h1, _, h3, h4⟩
  rw [Nat.mod_eq_of_lt (by omega)] at h4
  omega
theorem spr_end (T : Nat → El) (B L p W i : Nat) (hi : L ≤ i) (e : El) : spr T B L p W i e = fun j => if B ≤ j ∧ j < B + L ∧ (j - B) % p = W then e else T j := by
  funext j
  unfold spr
  by_cases h : B ≤ j ∧ j < B + L ∧ (j - B) % p = W
  · rw [if_pos ⟨h.1, h.2.1, by omega, h.2.2⟩, if_pos h]
  · rw [if_neg (fun h' => h ⟨h'.1, h'.2.1, h'.2.2.2⟩), if_neg h]
theorem mod_gap (x i p : Nat) (h1 : i ≤ x) (h2 : x < i + p) (h : x % p = i % p) : x = i := by
  have e : (x - i) % p = 0 := by
    have h3 : (i + (x - i)) % p = i % p := by rw [show i + (x - i) = x from by omega]; exact h
    have h4 := Nat.mod_add_div i p
    have h5 := Nat.mod_add_div (i + (x - i)) p
    have h6 : x - i < p := by omega
    by_cases h7 : x - i = 0
    · rw [h7]; simp
    · exfalso
      have hp : 0 < p := by omega
      have h8 := Nat.mod_lt i hp
      rw [h3] at h5
      have h9 : p * (i / p) < p * ((i + (x - i)) / p) := by omega
      have h10 : i / p < (i + (x - i)) / p := Nat.lt_of_mul_lt_mul_left h9
      have h11 : p * (i / p + 1) ≤ p * ((i + (x - i)) / p) := Nat.mul_le_mul_left p h10
      rw [Nat.mul_add] at h11
      omega
  rw [Nat.mod_eq_of_lt (by omega)] at e
  omega
theorem spr_step (T : Nat → El) (B L p W i : Nat) (hp : 0 < p) (hi : i < L) (hm : i % p = W) (e : El) (j : Nat) : spr T B L p W (i + p) e j = if j = B + i then e else spr T B L p W i e j := by
  unfold spr
  by_cases hj : j = B + i
  · subst hj
    rw [if_pos rfl, if_pos ⟨by omega, by omega, by omega, by rw [Nat.add_sub_cancel_left]; exact hm⟩]
  · rw [if_neg hj]
    by_cases h : B ≤ j ∧ j < B + L ∧ j < B + i ∧ (j - B) % p = W
    · rw [if_pos ⟨h.1, h.2.1, by omega, h.2.2.2⟩, if_pos h]
    · rw [if_neg h, if_neg]
      rintro ⟨h1, h2, h3, h4⟩
      by_cases hlt : j < B + i
      · exact h ⟨h1, h2, hlt, h4⟩
      · have := mod_gap (j - B) i p (by omega) (by omega) (by rw [h4, hm])
        omega

theorem Els.set {C : Array Value} {n : Nat} {T T' : Nat → El} (h : Els C n T) (j : Nat) (e : El) (hj : j < n) (hT : ∀ i, i < n → T' i = if i = j then e else T i) :
    Els (((C.setIfInBounds (j * 3) (.int .u16 ((e.v : Nat) : Int))).setIfInBounds (j * 3 + 1) (.int .u8 ((e.l : Nat) : Int))).setIfInBounds (j * 3 + 2) (.int .u8 ((e.m : Nat) : Int))) n T' := by
  have hs := h.size
  refine ⟨by simp [hs], fun i hi => ?_, fun i hi => ?_, fun i hi => ?_⟩
  · rw [Array.getElem?_setIfInBounds, if_neg (by omega), Array.getElem?_setIfInBounds, if_neg (by omega), Array.getElem?_setIfInBounds, hT i hi]
    by_cases he : i = j
    · subst he; rw [if_pos rfl, if_pos (by rw [hs]; omega), if_pos rfl]
    · rw [if_neg (by omega), if_neg he, h.at0 i hi]
  · rw [Array.getElem?_setIfInBounds, if_neg (by omega), Array.getElem?_setIfInBounds, hT i hi]
    by_cases he : i = j
    · subst he; rw [if_pos rfl, if_pos (by simp [hs]; omega), if_pos rfl]
    · rw [if_neg (by omega), if_neg he, Array.getElem?_setIfInBounds, if_neg (by omega), h.at1 i hi]
  · rw [Array.getElem?_setIfInBounds, hT i hi]
    by_cases he : i = j
    · subst he; rw [if_pos rfl, if_pos (by simp [hs]; omega), if_pos rfl]
    · rw [if_neg (by omega), if_neg he, Array.getElem?_setIfInBounds, if_neg (by omega), Array.getElem?_setIfInBounds, if_neg (by omega), h.at2 i hi]
/-- Elements in a block. -/
def Row (w : World) (ge n : Nat) (T : Nat → El) : Prop := ∃ C, Blk w ge 134 C ∧ Els C n T
theorem Row.el {w : World} {ge n : Nat} {T : Nat → El} (h : Row w ge n T) (j : Nat) (hj : j < n) :
    (w.cell? ⟨ge, j * 3, none⟩ = some (.int .u16 (((T j).v : Nat) : Int)) ∧ w.cell? ⟨ge, j * 3 + 1, none⟩ = some (.int .u8 (((T j).l : Nat) : Int)) ∧ w.cell? ⟨ge, j * 3 + 2, none⟩ = some (.int .u8 (((T j).m : Nat) : Int))) ∧ ∀ k, w.frozen? ⟨ge, k, none⟩ = false := by
  obtain ⟨C, h4, h5⟩ := h
  exact ⟨⟨by rw [h4.cell]; exact h5.at0 j hj, by rw [h4.cell]; exact h5.at1 j hj, by rw [h4.cell]; exact h5.at2 j hj⟩, fun k => h4.frozen k⟩
theorem Row.set {w : World} {ge n : Nat} {T T' : Nat → El} (h : Row w ge n T) (j : Nat) (e : El) (hj : j < n) (hT : ∀ i, i < n → T' i = if i = j then e else T i) :
    Row (((w.setCell ⟨ge, j * 3, none⟩ (.int .u16 ((e.v : Nat) : Int))).setCell ⟨ge, j * 3 + 1, none⟩ (.int .u8 ((e.l : Nat) : Int))).setCell ⟨ge, j * 3 + 2, none⟩ (.int .u8 ((e.m : Nat) : Int))) ge n T' := by
  obtain ⟨C, h4, h5⟩ := h
  exact ⟨_, ((h4.set_ _ _).set_ _ _).set_ _ _, h5.set j e hj hT⟩
theorem Row.same {w w' : World} {ge n : Nat} {T : Nat → El} (h : Row w ge n T) (h2 : w'.heap[ge]? = w.heap[ge]?) : Row w' ge n T := by
  obtain ⟨C, h4, h5⟩ := h
  exact ⟨C, h4.same h2, h5⟩
theorem Row.lt {w : World} {ge n : Nat} {T : Nat → El} (h : Row w ge n T) : ge < w.heap.size := by
  obtain ⟨C, h4, h5⟩ := h
  exact h4.lt

theorem spread_any (ge N B O L cap n W : Nat) (T : Nat → El) (e : El) (w : World) (h : Row w ge N T) (hn : n ≤ 15) (hW : W < 2 ^ n) (hB : B + L ≤ N) (hN : N ≤ 65536) (hO : O = B * 3) :
    Calls Tryz.prog 103 #[.slice (some ⟨ge, O, none⟩) L cap, .int .u32 (W : Int), .int .i64 (n : Int), .agg (ec e)] w fun r w' =>
      r = .returned (.tuple #[]) ∧ Row w' ge N (fun j => if B ≤ j ∧ j < B + L ∧ (j - B) % 2 ^ n = W then e else T j) ∧ Only (fun k => k = ge) w w' := by
  have HR := Lib.hid h
  have HO := Lib.hid hO
  clear hO
  have hp := pow_le15 hn
  have h0 := Nat.two_pow_pos n
  have hs2 : min n 64 = n := by omega
  have hp2 : (2 : Int) ^ n = ((2 ^ n : Nat) : Int) := by push_cast; rfl
  generalize 2 ^ n = p at *
  have hs3 : IntKind.i64.wrap (2 ^ n) = (p : Int) := by rw [hp2, IntWalk.i64_in _ (by omega)]
  have hs4 : (1 : Int) * 2 ^ n = (p : Int) := by rw [hp2]; omega
  clear h
  obtain ⟨ev, el, em⟩ := e
  dsimp only [ec]
  go_enter Tryz.func103, Tryz.ntmps103
  go_wp2_with fail
  obtain ⟨w1, hw1⟩ : ∃ w1, w1 = w.alloc (.cells #[.int .u16 (ev : Int), .int .u8 (el : Int), .int .u8 (em : Int)] 134) := ⟨_, rfl⟩
  have HB : Hid (Only (fun k => k = ge) w w1) := Lib.hid (by rw [hw1]; exact (Only.refl _ w).alloc _)
  have HR1 : Hid (Row w1 ge N T) := Lib.hid (by rw [hw1]; exact HR.out.same (Below.heap_alloc _ _ _ HR.out.lt))
  have HX : Hid (Blk w1 w.heap.size 134 (ec ⟨ev, el, em⟩)) := Lib.hid (by rw [hw1]; exact Blk.new w _ _)
  have HNE : Hid (ge < w.heap.size) := Lib.hid HR.out.lt
  rw [← hw1]
  clear hw1 HR
  go_loopw [8] (fun x wr => ∃ i : Nat, x = .int .i64 (i : Int) ∧ i < L + p ∧ Hid (i % p = W) ∧ Hid (Row wr ge N (spr T B L p W i ⟨ev, el, em⟩)) ∧ Hid (Blk wr w.heap.size 134 (ec ⟨ev, el, em⟩)) ∧ Hid (Only (fun k => k = ge) w wr)) (fun x _ => L + p - (intOf x).toNat)
  case atStart => exact ⟨W, rfl, by omega, Lib.hid (Nat.mod_eq_of_lt hW), Lib.hid (by rw [spr_start _ _ _ _ _ hW]; exact HR1.out), HX, HB⟩
  case round =>
    clear HR1 HX HB
    obtain ⟨i, rfl, hi, HM, HR, HX, HB⟩ := hrel
    by_cases hlt : i < L
    · obtain ⟨⟨c0, c1, c2⟩, hfz⟩ := HR.out.el (B + i) (by omega)
      have HA : Hid ((B + i) * 3 = O + i * 3) := Lib.hid (by rw [HO.out, Nat.add_mul])
      rw [HA.out] at c0 c1 c2
      have f0 := hfz (O + i * 3)
      have f1 := hfz (O + i * 3 + 1)
      have f2 := hfz (O + i * 3 + 2)
      have x0 : wr.cell? ⟨w.heap.size, 0, none⟩ = some (.int .u16 (ev : Int)) := by rw [HX.out.cell]; rfl
      have x1 : wr.cell? ⟨w.heap.size, 1, none⟩ = some (.int .u8 (el : Int)) := by rw [HX.out.cell]; rfl
      have x2 : wr.cell? ⟨w.heap.size, 2, none⟩ = some (.int .u8 (em : Int)) := by rw [HX.out.cell]; rfl
      clear hfz
      have HS : Hid (∀ j, spr T B L p W (i + p) ⟨ev, el, em⟩ j = if j = B + i then ⟨ev, el, em⟩ else spr T B L p W i ⟨ev, el, em⟩ j) := Lib.hid (spr_step T B L p W i h0 hlt HM.out _)
      have HR2 := Lib.hid (HR.out.set (T' := spr T B L p W (i + p) ⟨ev, el, em⟩) (B + i) ⟨ev, el, em⟩ (by omega) (fun j _ => HS.out j))
      rw [HA.out] at HR2
      have HBX : Hid (Only (fun k => k = ge) w (((wr.setCell ⟨ge, O + i * 3, none⟩ (.int .u16 (ev : Int))).setCell ⟨ge, O + i * 3 + 1, none⟩ (.int .u8 (el : Int))).setCell ⟨ge, O + i * 3 + 2, none⟩ (.int .u8 (em : Int)))) := Lib.hid (((HB.out.setCell (p := ⟨ge, O + i * 3, none⟩) (fun _ => rfl) _).setCell (p := ⟨ge, O + i * 3 + 1, none⟩) (fun _ => rfl) _).setCell (p := ⟨ge, O + i * 3 + 2, none⟩) (fun _ => rfl) _)
      have HXX : Hid (Blk (((wr.setCell ⟨ge, O + i * 3, none⟩ (.int .u16 (ev : Int))).setCell ⟨ge, O + i * 3 + 1, none⟩ (.int .u8 (el : Int))).setCell ⟨ge, O + i * 3 + 2, none⟩ (.int .u8 (em : Int))) w.heap.size 134 (ec ⟨ev, el, em⟩)) := Lib.hid (by
        have hne : w.heap.size ≠ ge := by have := HNE.out; omega
        exact ((HX.out.same (Below.heap_setCell _ _ _ _ hne)).same (Below.heap_setCell _ _ _ _ hne)).same (Below.heap_setCell _ _ _ _ hne))
      have HM2 : Hid ((i + p) % p = W) := Lib.hid (by rw [Nat.add_mod_right]; exact HM.out)
      clear HS HR HX HB HM
      go_wp2_with fail
      go_roundw
      case rel => exact ⟨i + p, by go_num, by omega, HM2, HR2, HXX, HBX⟩
      case measure => simp [intOf]; omega
    · rw [spr_end _ _ _ _ _ _ (by omega)] at HR
      go_wp2_with fail
      go_end0
      exact ⟨rfl, HR.out, HB.out⟩
end Go.Proofs.YtjejlhpnhkacmaaGreatDoor.TabC
end

section
/-
  A symbol is placed in a table.
-/
namespace Go.Proofs.YtjejlhpnhkacmaaGreatDoor.TabC
open Go.RowKit Go.My BitMath CanMath TabMath

theorem TabAt.mk' {w : World} {g ge f n : Nat} {T : Nat → El} (h : Blk w g 130 #[.int .u64 (f : Int), .slice (some ⟨ge, 0, none⟩) n n]) (h2 : Row w ge n T) : TabAt w g ge f n T := ⟨h, h2⟩
theorem TabAt.row' {w : World} {g ge f n : Nat} {T : Nat → El} (h : TabAt w g ge f n T) : Row w ge n T := h.row
theorem TabAt.ne {w : World} {g ge f n : Nat} {T : Nat → El} (h : TabAt w g ge f n T) : g ≠ ge := by
  obtain ⟨h3, C, h4, h5⟩ := h
  intro e
  subst e
  unfold Blk at h3 h4
  rw [h3] at h4
  injection h4 with h4
  injection h4 with _ h4
  revert h4; decide

set_option maxRecDepth 100000 in
set_option maxHeartbeats 4000000 in
theorem place_short (g ge f N i n W : Nat) (T : Nat → El) (w : World) (h : TabAt w g ge f N T) (hf : f ≤ 15) (hN : N ≤ 65536) (hi : i < 65536) (hn : n ≤ f) (hW : W < 2 ^ n) (hfN : 2 ^ f ≤ N) :
    Calls Tryz.prog 96 #[.pointer (some ⟨g, 0, none⟩), .int .i64 (i : Int), .int .u32 (W : Int), .int .i64 (n : Int)] w fun r w' =>
      r = .returned (.tuple #[]) ∧ TabAt w' g ge f N (fun j => if j < 2 ^ f ∧ j % 2 ^ n = W then ⟨i, n, 0⟩ else T j) ∧ Only (fun k => k = ge) w w' := by
  have HT := Lib.hid h
  have hp := pow_le15 hf
  have h0 := Nat.two_pow_pos f
  have hp2 : (2 : Int) ^ f = ((2 ^ f : Nat) : Int) := by push_cast; rfl
  have HW := Lib.hid hW
  have hc1 : IntKind.u16.wrap (i : Int) = (i : Int) := by rw [IntKind.wrap_u16]; omega
  have hc2 : IntKind.u8.wrap (n : Int) = (n : Int) := by rw [IntKind.wrap_u8]; omega
  clear h hW
  go_enter Tryz.func96, Tryz.ntmps96
  go_upto_region 1 with (fail)
  obtain ⟨w1, hw1⟩ : ∃ w1, w1 = w.alloc (.cells #[.int .u16 (i : Int), .int .u8 (n : Int), .int .u8 0] 134) := ⟨_, rfl⟩
  have HB1 : Hid (Only (fun k => k = ge) w w1) := Lib.hid (by rw [hw1]; exact (Only.refl _ w).alloc _)
  have HT1 : Hid (TabAt w1 g ge f N T) := Lib.hid (by rw [hw1]; exact HT.out.alloc _)
  have HX : Hid (Blk w1 w.heap.size 134 (ec ⟨i, n, 0⟩)) := Lib.hid (by rw [hw1]; exact Blk.new w _ _)
  rw [← hw1]
  clear hw1 HT
  have ht1 : w1.cell? ⟨g, 1, none⟩ = some (.slice (some ⟨ge, 0, none⟩) N N) := by rw [HT1.out.tab.cell]; rfl
  have ht0 : w1.cell? ⟨g, 0, none⟩ = some (.int .u64 (f : Int)) := by rw [HT1.out.tab.cell]; rfl
  have x0 : w1.cell? ⟨w.heap.size, 0, none⟩ = some (.int .u16 (i : Int)) := by rw [HX.out.cell]; rfl
  have x1 : w1.cell? ⟨w.heap.size, 1, none⟩ = some (.int .u8 (n : Int)) := by rw [HX.out.cell]; rfl
  have x2 : w1.cell? ⟨w.heap.size, 2, none⟩ = some (.int .u8 0) := by rw [HX.out.cell]; rfl
  have hc3 : IntKind.i64.wrap (f : Int) = (f : Int) := by rw [IntWalk.i64_in _ (by omega)]
  have hd : decide ((n : Int) ≤ (f : Int)) = true := by simp; omega
  obtain ⟨p, hpe⟩ : ∃ p, p = 2 ^ f := ⟨_, rfl⟩
  rw [← hpe] at hfN hp h0 hp2
  have HP := Lib.hid hpe
  clear hpe
  have hs3 : IntKind.i64.wrap (p : Int) = (p : Int) := by rw [IntWalk.i64_in _ (by omega)]
  have hpn : (p : Int) ≤ (N : Int) := by omega
  go_upto_region 2 with (fail)
  go_still_tail 13, (by kernel_rfl)
  change wpList _ _ _ _ _ w1.drew
  have HT2 : Hid (TabAt w1.drew g ge f N T) := Lib.hid HT1.out.drew
  have HB2 : Hid (Only (fun k => k = ge) w w1.drew) := Lib.hid HB1.out.drew
  clear HT1 HB1 HX ht1 ht0 x0 x1 x2
  generalize w1.drew = w2 at *
  go_wp2_with fail
  refine (spread_any ge N 0 0 p N n W T ⟨i, n, 0⟩ w2 HT2.out.row' (by omega) HW.out (by omega) hN rfl).mono ?_
  rintro r w3 ⟨rfl, hr, hb⟩
  have HR3 : Hid (Row w3 ge N (fun j => if j < p ∧ j % 2 ^ n = W then ⟨i, n, 0⟩ else T j)) := Lib.hid (by
    have e : (fun j => if 0 ≤ j ∧ j < 0 + p ∧ (j - 0) % 2 ^ n = W then (⟨i, n, 0⟩ : El) else T j) = (fun j => if j < p ∧ j % 2 ^ n = W then ⟨i, n, 0⟩ else T j) := by
      funext j; simp
    rw [← e]; exact hr)
  have HT3 : Hid (TabAt w3 g ge f N (fun j => if j < p ∧ j % 2 ^ n = W then ⟨i, n, 0⟩ else T j)) := Lib.hid ⟨hb.blk HT2.out.tab HT2.out.ne, HR3.out⟩
  have HB3 := Lib.hid (HB2.out.trans hb (fun _ _ h => h))
  clear hr hb HR3 HT2 HB2
  go_wp2_with fail
  refine bodyPost_ret (results_none rfl _ _ _) rfl ?_
  exact ⟨rfl, by rw [← HP.out]; exact HT3.out, HB3.out⟩

set_option maxRecDepth 100000 in
set_option maxHeartbeats 4000000 in
theorem place_long (g ge f N i n W : Nat) (T : Nat → El) (w : World) (h : TabAt w g ge f N T) (hf : 1 ≤ f) (hN : N ≤ 65536) (hi : i < 65536) (hn : f < n) (hn15 : n ≤ 15) (hW : W < 2 ^ n) (hp : W % 2 ^ f < N) (hm : (T (W % 2 ^ f)).m ≤ 14) (hto : (T (W % 2 ^ f)).v + 2 ^ (T (W % 2 ^ f)).m ≤ N) :
    Calls Tryz.prog 96 #[.pointer (some ⟨g, 0, none⟩), .int .i64 (i : Int), .int .u32 (W : Int), .int .i64 (n : Int)] w fun r w' =>
      r = .returned (.tuple #[]) ∧ TabAt w' g ge f N (fun j => if (T (W % 2 ^ f)).v ≤ j ∧ j < (T (W % 2 ^ f)).v + 2 ^ (T (W % 2 ^ f)).m ∧ (j - (T (W % 2 ^ f)).v) % 2 ^ (n - f) = W / 2 ^ f then ⟨i, n, 0⟩ else T j) ∧ Only (fun k => k = ge) w w' := by
  have HT := Lib.hid h
  have hWs : W < 32768 := by have := pow_le15 hn15; omega
  have HD : Hid (W / 2 ^ f < 2 ^ (n - f)) := Lib.hid (by
    rw [Nat.div_lt_iff_lt_mul (Nat.two_pow_pos _), ← Nat.pow_add, show n - f + f = n from by omega]; exact hW)
  have hc1 : IntKind.u16.wrap (i : Int) = (i : Int) := by rw [IntKind.wrap_u16]; omega
  have hc2 : IntKind.u8.wrap (n : Int) = (n : Int) := by rw [IntKind.wrap_u8]; omega
  have hc3 : IntKind.i64.wrap (f : Int) = (f : Int) := by rw [IntWalk.i64_in _ (by omega)]
  have hd : decide ((n : Int) ≤ (f : Int)) = false := by simp; omega
  clear h hW
  go_enter Tryz.func96, Tryz.ntmps96
  go_upto_region 1 with (fail)
  obtain ⟨w1, hw1⟩ : ∃ w1, w1 = w.alloc (.cells #[.int .u16 (i : Int), .int .u8 (n : Int), .int .u8 0] 134) := ⟨_, rfl⟩
  have HB1 : Hid (Only (fun k => k = ge) w w1) := Lib.hid (by rw [hw1]; exact (Only.refl _ w).alloc _)
  have HT1 : Hid (TabAt w1 g ge f N T) := Lib.hid (by rw [hw1]; exact HT.out.alloc _)
  have HX : Hid (Blk w1 w.heap.size 134 (ec ⟨i, n, 0⟩)) := Lib.hid (by rw [hw1]; exact Blk.new w _ _)
  rw [← hw1]
  clear hw1 HT
  have ht0 : w1.cell? ⟨g, 0, none⟩ = some (.int .u64 (f : Int)) := by rw [HT1.out.tab.cell]; rfl
  go_upto_region 3 with (fail)
  clear ht0
  obtain ⟨p, hpe⟩ : ∃ p, p = W % 2 ^ f := ⟨_, rfl⟩
  have HS : Hid (p = W % 2 ^ f ∧ f ≤ 15 ∧ W < 4294967296) := Lib.hid ⟨hpe, by omega, by omega⟩
  rw [← hpe] at hp hm hto
  have HP := Lib.hid hpe
  clear hpe
  obtain ⟨e, he⟩ : ∃ e, e = T p := ⟨_, rfl⟩
  rw [← he] at hm hto
  have hkeep : ∀ w', Below w1.heap.size w1 w' → Hid (Blk w' g 130 #[.int .u64 (f : Int), .slice (some ⟨ge, 0, none⟩) N N]) ∧ w'.cell? ⟨g, 1, none⟩ = some (.slice (some ⟨ge, 0, none⟩) N N) ∧ w'.cell? ⟨ge, p * 3, none⟩ = some (.int .u16 ((e.v : Nat) : Int)) ∧ w'.cell? ⟨ge, p * 3 + 1, none⟩ = some (.int .u8 ((e.l : Nat) : Int)) ∧ w'.cell? ⟨ge, p * 3 + 2, none⟩ = some (.int .u8 ((e.m : Nat) : Int)) := by
    intro w' hb
    have h1 := HT1.out.below hb
    obtain ⟨c1, c2, c3⟩ := h1.el _ hp
    rw [← he] at c1 c2 c3
    exact ⟨Lib.hid h1.tab, by rw [h1.tab.cell]; rfl, c1, c2, c3⟩
  have HK := Lib.hid hkeep
  have HE := Lib.hid he
  clear hkeep he
  have hpi : ((p : Nat) : Int) < (N : Int) := by omega
  go_cut [9] (fun u wc => u = .pointer (some ⟨w1.heap.size, 0, none⟩) ∧ Hid (TabAt wc g ge f N T) ∧ Hid (Blk wc w1.heap.size 134 (ec e)) ∧ Hid (Blk wc w.heap.size 134 (ec ⟨i, n, 0⟩)) ∧ Hid (Only (fun k => k = ge) w wc))
  case first =>
    obtain ⟨k1, k2, k3, k4, k5⟩ := HK.out w1.drew (Below.refl _ _).drew
    go_region_held3 (fun w' => Hid (Blk w' g 130 #[.int .u64 (f : Int), .slice (some ⟨ge, 0, none⟩) N N]) ∧ w'.cell? ⟨g, 1, none⟩ = some (.slice (some ⟨ge, 0, none⟩) N N) ∧ w'.cell? ⟨ge, p * 3, none⟩ = some (.int .u16 ((e.v : Nat) : Int)) ∧ w'.cell? ⟨ge, p * 3 + 1, none⟩ = some (.int .u8 ((e.l : Nat) : Int)) ∧ w'.cell? ⟨ge, p * 3 + 2, none⟩ = some (.int .u8 ((e.m : Nat) : Int))) (first | exact ⟨by assumption, by assumption, by assumption, by assumption, by assumption⟩ | exact HK.out _ (Below.refl _ _).drew | exact HK.out _ ((Below.refl _ _).drew.alloc (Nat.le_refl _) _)) (first | (go_at_call 102; refine (start_at (u := .slice (some ⟨ge, 0, none⟩) N N) HS.out _ (HK.out _ (by first | exact (Below.refl _ _).drew | exact ((Below.refl _ _).alloc (Nat.le_refl _) _).drew)).1).mono ?_; rintro e2 w2 ⟨rfl, rfl⟩))
    all_goals
      go_wp2_with fail
      go_meet
      case rel => exact ⟨rfl, Lib.hid (HT1.out.below ((Below.refl _ _).alloc (Nat.le_refl _) _).drew), Lib.hid (Blk.new w1 _ _).drew, Lib.hid ((HX.out.alloc _).drew), Lib.hid ((HB1.out.alloc _).drew)⟩
  obtain ⟨rfl, HT2, HY2, HX2, HB2⟩ := hcut
  clear HT1 HB1 HX HK HS
  generalize wc = w2 at *
  generalize w1.heap.size = g5 at *
  obtain ⟨ev, el, em⟩ := e
  have ht1 : w2.cell? ⟨g, 1, none⟩ = some (.slice (some ⟨ge, 0, none⟩) N N) := by rw [HT2.out.tab.cell]; rfl
  have ht0 : w2.cell? ⟨g, 0, none⟩ = some (.int .u64 (f : Int)) := by rw [HT2.out.tab.cell]; rfl
  have x0 : w2.cell? ⟨w.heap.size, 0, none⟩ = some (.int .u16 (i : Int)) := by rw [HX2.out.cell]; rfl
  have x1 : w2.cell? ⟨w.heap.size, 1, none⟩ = some (.int .u8 (n : Int)) := by rw [HX2.out.cell]; rfl
  have x2 : w2.cell? ⟨w.heap.size, 2, none⟩ = some (.int .u8 0) := by rw [HX2.out.cell]; rfl
  have y0 : w2.cell? ⟨g5, 0, none⟩ = some (.int .u16 (ev : Int)) := by rw [HY2.out.cell]; rfl
  have y2 : w2.cell? ⟨g5, 2, none⟩ = some (.int .u8 (em : Int)) := by rw [HY2.out.cell]; rfl
  have hto : ev + 2 ^ em ≤ N := hto
  have hm : em ≤ 14 := hm
  have h0 := Nat.two_pow_pos em
  have hp2 : (2 : Int) ^ em = ((2 ^ em : Nat) : Int) := by push_cast; rfl
  obtain ⟨L, hLe⟩ : ∃ L, L = 2 ^ em := ⟨_, rfl⟩
  rw [← hLe] at hto h0 hp2
  have HL := Lib.hid hLe
  clear hLe
  have hs3 : IntKind.i64.wrap (L : Int) = (L : Int) := by rw [IntWalk.i64_in _ (by omega)]
  have hs4 : IntKind.i64.wrap ((n : Int) - (f : Int)) = ((n - f : Nat) : Int) := by rw [IntWalk.i64_in _ (by omega)]; omega
  have hvN : (ev : Int) ≤ (N : Int) := by omega
  have hLN : (L : Int) ≤ ((N - ev : Nat) : Int) := by omega
  go_upto_region 4 with (fail)
  go_still_tail 25, (by kernel_rfl)
  change wpList _ _ _ _ _ w2.drew
  have HT3 : Hid (TabAt w2.drew g ge f N T) := Lib.hid HT2.out.drew
  have HB3 : Hid (Only (fun k => k = ge) w w2.drew) := Lib.hid HB2.out.drew
  clear HT2 HB2 HX2 HY2 ht1 ht0 x0 x1 x2 y0 y2
  generalize w2.drew = w3 at *
  go_wp2_with fail
  have hdv : (W : Int) / 2 ^ f = ((W / 2 ^ f : Nat) : Int) := by push_cast; rfl
  rw [hdv]
  clear hdv
  refine (spread_any ge N ev (ev * 3) L (N - ev) (n - f) (W / 2 ^ f) T ⟨i, n, 0⟩ w3 HT3.out.row' (by omega) HD.out (by omega) hN rfl).mono ?_
  rintro r w4 ⟨rfl, hr, hb⟩
  have HT4 : Hid (TabAt w4 g ge f N (fun j => if ev ≤ j ∧ j < ev + L ∧ (j - ev) % 2 ^ (n - f) = W / 2 ^ f then ⟨i, n, 0⟩ else T j)) := Lib.hid ⟨hb.blk HT3.out.tab HT3.out.ne, hr⟩
  have HB4 := Lib.hid (HB3.out.trans hb (fun _ _ h => h))
  clear hr hb HT3 HB3
  go_wp2_with fail
  go_end0
  refine ⟨rfl, ?_, HB4.out⟩
  have h1 := HT4.out
  rw [HL.out] at h1
  rw [← HP.out, ← HE.out]
  exact h1
end Go.Proofs.YtjejlhpnhkacmaaGreatDoor.TabC
end

section
/-
  (*Table).link: the secondary tables.
-/
namespace Go.Proofs.YtjejlhpnhkacmaaGreatDoor.TabC
open Go.RowKit Go.My BitMath CanMath TabMath

/-! ### elements of three cells: make, copy -/
theorem info_el3 : (Tryz.prog.info? 134).map (fun i => (i.zero, i.size, i.bytes)) = some (some (.agg #[.int .u16 0, .int .u8 0, .int .u8 0]), 3, 4) := by kernel_rfl
theorem els_made (n : Nat) : Els (madeCells #[.int .u16 0, .int .u8 0, .int .u8 0] (n * 3)) n (fun _ => El.z) := by
  refine ⟨size_madeCells _ _, fun j hj => ?_, fun j hj => ?_, fun j hj => ?_⟩
  · unfold madeCells
    rw [Array.getElem?_map, Array.getElem?_range, if_pos (by omega)]
    simp [El.z]
  · unfold madeCells
    rw [Array.getElem?_map, Array.getElem?_range, if_pos (by omega)]
    simp [El.z, show (j * 3 + 1) % 3 = 1 from by omega]
  · unfold madeCells
    rw [Array.getElem?_map, Array.getElem?_range, if_pos (by omega)]
    simp [El.z, show (j * 3 + 2) % 3 = 2 from by omega]
theorem wpList_make_els (w : World) {ops : Array Oper} {rest : List Oper} {o : Oper} {a : Act} {Q : Exit → Act → World → Prop}
    (hg : o.guard = none) (l c : Operand) (hop : o.op = Op.makeSlice 128 l c) (kl kc : IntKind) (n : Nat) (hl : a.eval l = .int kl (n : Int)) (hc : a.eval c = .int kc (n : Int)) (hn : n ≤ 1000000)
    (hK : ∀ C, Els C n (fun _ => El.z) → wpList Tryz.prog ops Q rest (a.put o.dst (.slice (some ⟨w.heap.size, 0, none⟩) n n)) (w.alloc (.cells C 134))) : wpList Tryz.prog ops Q (o :: rest) a w := by
  obtain ⟨i, hi, hz0, hsz, hz3⟩ := info_parts info_el3
  refine wpList_plain hg fun K hK' => ?_
  have hrun := run_make (P := Tryz.prog) w 128 134 i _ Tryz.underlying128 hi hz0 kl kc (n : Int) (n : Int) (by omega) (Int.le_refl _) (by rw [hz3]; omega) (by omega)
  have h1 := hK' _ _ (hK _ (els_made n))
  unfold Oper.wp
  simp [execOp, hop, hl, hc, hrun, Result.andThen, hsz]
  exact h1
/-- copy(dst, src) of elements: src's are fewer. -/
theorem run_copy_els {P : Program} (w : World) (T ty elem : TypeId) (g dLen dCap : Nat) (a : Addr) (sLen sCap : Nat) (cur : Array Value) (t : TypeId) (cs : List Value)
    (hu : P.underlying T = some (.slice elem)) (hs : (P.info? elem).map (·.size) = some 3)
    (hg : w.heap[g]? = some (.cells cur t (0, 0))) (hle : sLen ≤ dLen) (hn : cs.length = sLen * 3)
    (hsrc : ∀ j v, cs[j]? = some v → w.cell? (a.add j) = some v) (hfit : cs.length ≤ cur.size) (h1 : ∀ v ∈ cs, v.oneCell' = true) :
    (Builtin.copy_ #[T, T] ty #[.slice (some ⟨g, 0, none⟩) dLen dCap, .slice (some a) sLen sCap]).run P w =
      .ok (goInt sLen) (w.setRow g (cs ++ cur.toList.drop cs.length).toArray) := by
  have hl := run_loadCells_list (P := P) w a cs hsrc
  have hst := run_storeCells_at P g 0 t cs 0 cur w hg (by simpa using hfit) h1
  have hm : Nat.min sLen dLen = sLen := Nat.min_eq_left hle
  cases hq : P.info? elem with
  | none => simp [hq] at hs
  | some i =>
    have hi : i.size = 3 := by simpa [hq] using hs
    simp [Builtin.copy_, run_underlying hu, Builtin.lenOf, Builtin.firstCells, sizeOf, typeInfo, hq, hi, hm, ← hn, hl, hst]
theorem wpList_copy_els (w : World) {ops : Array Oper} {rest : List Oper} {o : Oper} {a : Act} {Q : Exit → Act → World → Prop} (hgd : o.guard = none) (d s : Operand)
    (ho : o.op = .call { callee := .builtin .copy, args := #[d, s], argTypes := #[128, 128] })
    (g g2 n m dc sc : Nat) (T : Nat → El) (hd : a.eval d = .slice (some ⟨g, 0, none⟩) n dc) (hs : a.eval s = .slice (some ⟨g2, 0, none⟩) m sc) (hmn : m ≤ n)
    (hg : Row w g n (fun _ => El.z)) (hg2 : Row w g2 m T)
    (h : ∀ w', Row w' g n (fun j => if j < m then T j else El.z) → Only (fun k => k = g) w w' → wpList Tryz.prog ops Q rest (a.put o.dst (goInt m)) w') : wpList Tryz.prog ops Q (o :: rest) a w := by
  obtain ⟨C, hC, hE⟩ := hg
  obtain ⟨D, hD, hF⟩ := hg2
  refine wpList_plain hgd fun K hK => ?_
  have hsz : (Tryz.prog.info? 134).map (·.size) = some 3 := info_el
  have hlen : D.toList.length = m * 3 := by rw [Array.length_toList, hF.size]
  have hrun := run_copy_els (P := Tryz.prog) w 128 o.type 134 g n dc ⟨g2, 0, none⟩ m sc C _ D.toList Tryz.underlying128 hsz hC hmn hlen
    (fun j v hv => by
      have : (⟨g2, 0, none⟩ : Addr).add j = ⟨g2, 0 + j, none⟩ := addr_add ..
      rw [this, Nat.zero_add, hD.cell]
      simpa using hv) (by rw [hlen, hE.size]; omega)
    (fun v hv => by
      obtain ⟨i, hi, rfl⟩ := List.getElem_of_mem hv
      rw [hlen] at hi
      have h3 : i % 3 = 0 ∨ i % 3 = 1 ∨ i % 3 = 2 := by omega
      have e0 := hF.at0 (i / 3) (by omega)
      have e1 := hF.at1 (i / 3) (by omega)
      have e2 := hF.at2 (i / 3) (by omega)
      have hg : D.toList[i]? = D[i]? := by simp
      have key : ∀ u, D[i]? = some u → u.oneCell' = true → (D.toList[i]'(by rw [hlen]; exact hi)).oneCell' = true := by
        intro u hu h1
        rw [← hg, List.getElem?_eq_getElem (by rw [hlen]; exact hi)] at hu
        have hu := Option.some.inj hu
        rw [hu]; exact h1
      rcases h3 with h3 | h3 | h3
      · rw [show i / 3 * 3 = i from by omega] at e0; exact key _ e0 rfl
      · rw [show i / 3 * 3 + 1 = i from by omega] at e1; exact key _ e1 rfl
      · rw [show i / 3 * 3 + 2 = i from by omega] at e2; exact key _ e2 rfl)
  have hEl : Els (D.toList ++ C.toList.drop D.toList.length).toArray n (fun j => if j < m then T j else El.z) := by
    have hget : ∀ k, k < n * 3 → (D.toList ++ C.toList.drop D.toList.length).toArray[k]? = if k < m * 3 then D[k]? else C[k]? := by
      intro k hk
      rw [List.getElem?_toArray, List.getElem?_append, hlen]
      split
      · simp
      · rw [List.getElem?_drop, show m * 3 + (k - m * 3) = k from by omega]; simp
    refine ⟨by simp [hE.size, hF.size]; omega, fun j hj => ?_, fun j hj => ?_, fun j hj => ?_⟩
    · rw [hget _ (by omega)]
      by_cases hjm : j < m
      · rw [if_pos (by omega), if_pos hjm]; exact hF.at0 j hjm
      · rw [if_neg (by omega), if_neg hjm]; exact hE.at0 j hj
    · rw [hget _ (by omega)]
      by_cases hjm : j < m
      · rw [if_pos (by omega), if_pos hjm]; exact hF.at1 j hjm
      · rw [if_neg (by omega), if_neg hjm]; exact hE.at1 j hj
    · rw [hget _ (by omega)]
      by_cases hjm : j < m
      · rw [if_pos (by omega), if_pos hjm]; exact hF.at2 j hjm
      · rw [if_neg (by omega), if_neg hjm]; exact hE.at2 j hj
  have h2 := h (w.setRow g (D.toList ++ C.toList.drop D.toList.length).toArray) ⟨_, hC.row _, hEl⟩
    ⟨rfl, rfl, rfl, by show _ ≤ (w.heap.modify g _).size; rw [Array.size_modify]; exact Nat.le_refl _, fun k hk hne => setRow_block w g _ k hne⟩
  unfold Oper.wp
  simp [execOp, ho, resolve, invoke, builtin, hd, hs, hrun, Result.andThen]
  exact hK _ _ (by simpa using h2)

theorem RowIn.only {S : Nat → Prop} {w w' : World} {a : Option Addr} {len cap : Nat} {vs : List Value} (h : RowIn w a len cap vs) (ho : Only S w w') (hS : ∀ b off, a = some ⟨b, off, none⟩ → ¬ S b) : RowIn w' a len cap vs := by
  refine ⟨h.1, h.2, h.3, h.4, h.5.imp_right ?_⟩
  rintro ⟨b, off, ha, hs, hc⟩
  exact ⟨b, off, ha, Nat.lt_of_lt_of_le hs ho.size, fun i hi => by rw [ho.cell (p := ⟨b, off + i, none⟩) hs (hS b off ha)]; exact hc i hi⟩
/-- The codes as they are read. -/
def wds (ls : List Nat) : List Value := (List.range ls.length).map fun i => CanC.uv (wd ls i)
theorem wds_len (ls : List Nat) : (wds ls).length = ls.length := by simp [wds]
theorem wds_get (ls : List Nat) (i : Nat) (h : i < ls.length) : (wds ls)[i]'(by rw [wds_len]; exact h) = CanC.uv (wd ls i) := by simp [wds]
theorem start_quiet (g f v nq : Nat) (u : Value) (w : World) (h : Blk w g 130 #[.int .u64 (f : Int), u]) (hf : f ≤ 15) (hv : v < 4294967296) :
    Calls Tryz.prog 102 #[.pointer (some ⟨g, 0, none⟩), .int .u32 (v : Int)] (w.drewN nq) fun e w' => e = .returned (.int .u32 ((v % 2 ^ f : Nat) : Int)) ∧ ∃ m, w' = w.drewN m :=
  (start_any g f v u (w.drewN nq) (h.same rfl) hf hv).mono fun _ _ ⟨he, hw⟩ => ⟨he, nq, hw.symm⟩
/-- One cell of an element turned. -/
theorem Row.set2 {w : World} {ge n : Nat} {T T' : Nat → El} (h : Row w ge n T) (j m : Nat) (hj : j < n) (hT : ∀ i, i < n → T' i = if i = j then ⟨(T j).v, (T j).l, m⟩ else T i) :
    Row (w.setCell ⟨ge, j * 3 + 2, none⟩ (.int .u8 ((m : Nat) : Int))) ge n T' := by
  obtain ⟨C, h4, h5⟩ := h
  have hs := h5.size
  refine ⟨_, h4.set_ _ _, by simp [hs], fun i hi => ?_, fun i hi => ?_, fun i hi => ?_⟩
  · rw [Array.getElem?_setIfInBounds, if_neg (by omega), hT i hi, h5.at0 i hi]
    by_cases he : i = j
    · subst he; rw [if_pos rfl]
    · rw [if_neg he]
  · rw [Array.getElem?_setIfInBounds, if_neg (by omega), hT i hi, h5.at1 i hi]
    by_cases he : i = j
    · subst he; rw [if_pos rfl]
    · rw [if_neg he]
  · rw [Array.getElem?_setIfInBounds, hT i hi]
    by_cases he : i = j
    · subst he; rw [if_pos rfl, if_pos (by rw [hs]; omega), if_pos rfl]
    · rw [if_neg (by omega), if_neg he, h5.at2 i hi]
theorem Row.set0 {w : World} {ge n : Nat} {T T' : Nat → El} (h : Row w ge n T) (j m : Nat) (hj : j < n) (hT : ∀ i, i < n → T' i = if i = j then ⟨m, (T j).l, (T j).m⟩ else T i) :
    Row (w.setCell ⟨ge, j * 3, none⟩ (.int .u16 ((m : Nat) : Int))) ge n T' := by
  obtain ⟨C, h4, h5⟩ := h
  have hs := h5.size
  refine ⟨_, h4.set_ _ _, by simp [hs], fun i hi => ?_, fun i hi => ?_, fun i hi => ?_⟩
  · rw [Array.getElem?_setIfInBounds, hT i hi]
    by_cases he : i = j
    · subst he; rw [if_pos rfl, if_pos (by rw [hs]; omega), if_pos rfl]
    · rw [if_neg (by omega), if_neg he, h5.at0 i hi]
  · rw [Array.getElem?_setIfInBounds, if_neg (by omega), hT i hi, h5.at1 i hi]
    by_cases he : i = j
    · subst he; rw [if_pos rfl]
    · rw [if_neg he]
  · rw [Array.getElem?_setIfInBounds, if_neg (by omega), hT i hi, h5.at2 i hi]
    by_cases he : i = j
    · subst he; rw [if_pos rfl]
    · rw [if_neg he]

/-- How far the first loop has come. -/
def L1 (ls : List Nat) (f k : Nat) (p : Nat) : El := ⟨0, 0, mo ls f k p⟩
/-- How far the second. -/
def L2 (ls : List Nat) (f k : Nat) (p : Nat) : El := ⟨if p < k ∧ 0 < M ls f p then S ls f p else 0, 0, M ls f p⟩
theorem L1_zero (ls : List Nat) (f : Nat) : L1 ls f 0 = fun _ => El.z := rfl
theorem L1_end (ls : List Nat) (f : Nat) : L1 ls f ls.length = L2 ls f 0 := by
  funext p; unfold L1 L2 M; rw [if_neg (by omega)]
theorem L1_skip (ls : List Nat) (f k : Nat) (h : ¬ f < ln ls k) : L1 ls f (k + 1) = L1 ls f k := by
  funext p; unfold L1; rw [mo, if_neg (fun hc => h hc.1)]
theorem L1_step (ls : List Nat) (f k p : Nat) (h : f < ln ls k) : L1 ls f (k + 1) p = if p = wd ls k % 2 ^ f then ⟨(L1 ls f k (wd ls k % 2 ^ f)).v, (L1 ls f k (wd ls k % 2 ^ f)).l, max (mo ls f k (wd ls k % 2 ^ f)) (ln ls k - f)⟩ else L1 ls f k p := by
  unfold L1; rw [mo]
  by_cases hp : p = wd ls k % 2 ^ f
  · rw [if_pos ⟨h, hp.symm⟩, if_pos hp, hp]
  · rw [if_neg (fun hc => hp hc.2.symm), if_neg hp]
theorem L2_step (ls : List Nat) (f k p : Nat) (h : 0 < M ls f k) : L2 ls f (k + 1) p = if p = k then ⟨S ls f k, (L2 ls f k k).l, (L2 ls f k k).m⟩ else L2 ls f k p := by
  unfold L2
  by_cases hp : p = k
  · subst hp; rw [if_pos ⟨by omega, h⟩, if_pos rfl]
  · rw [if_neg hp]
    have : (p < k + 1 ∧ 0 < M ls f p) ↔ (p < k ∧ 0 < M ls f p) := by omega
    simp only [this]
theorem L2_skip (ls : List Nat) (f k : Nat) (h : ¬ 0 < M ls f k) : L2 ls f (k + 1) = L2 ls f k := by
  funext p
  unfold L2
  by_cases hp : p = k
  · subst hp; rw [if_neg (fun hc => h hc.2), if_neg (fun hc => h hc.2)]
  · have : (p < k + 1 ∧ 0 < M ls f p) ↔ (p < k ∧ 0 < M ls f p) := by omega
    simp only [this]
theorem L2_end (ls : List Nat) (f : Nat) : (fun j => if j < 2 ^ f then L2 ls f (2 ^ f) j else El.z) = T0 ls f := by
  funext j
  unfold T0 L2
  by_cases hj : j < 2 ^ f
  · rw [if_pos hj, if_pos hj]
    simp only [hj, true_and]
  · rw [if_neg hj, if_neg hj]
theorem S_skip (ls : List Nat) (f k : Nat) (h : ¬ 0 < M ls f k) : S ls f (k + 1) = S ls f k := by rw [S, if_neg h]; rfl
end Go.Proofs.YtjejlhpnhkacmaaGreatDoor.TabC
end

section
/-
  (*Table).link, walked.
-/
namespace Go.Proofs.YtjejlhpnhkacmaaGreatDoor.TabC
open Go.RowKit Go.My BitMath CanMath TabMath CanC

/-- What link's loops keep. -/
structure LinkAt (w wr : World) (g ge f n : Nat) (T : Nat → El) : Prop where
  tab : TabAt wr g ge f n T
  only : Only (fun k => k = ge) w wr

set_option maxRecDepth 100000 in
set_option maxHeartbeats 8000000 in
theorem link_any (g ge f gw len cap : Nat) (a : Option Addr) (zs : List Int) (w : World) (h : TabAt w g ge f (2 ^ f) (fun _ => El.z)) (hf1 : 1 ≤ f) (hf : f ≤ 15)
    (hw : RowIn w (some ⟨gw, 0, none⟩) len len (wds (nat zs))) (hz : RowIn w a len cap (zs.map iv)) (hg : CanC.Good zs)
    (hgw : gw ≠ ge ∧ gw ≠ g) (ha : 0 < len → ∀ b off, a = some ⟨b, off, none⟩ → b ≠ ge ∧ b ≠ g) :
    Calls Tryz.prog 95 #[.pointer (some ⟨g, 0, none⟩), .slice (some ⟨gw, 0, none⟩) len len, .slice a len cap] w fun e w' =>
      e = .returned (.tuple #[]) ∧ ∃ ge', TabAt w' g ge' f (S (nat zs) f (2 ^ f)) (T0 (nat zs) f) ∧ w.heap.size ≤ ge' ∧ Only (fun k => k = ge ∨ k = g) w w' := by
  have hzl : zs.length = len := by have := hz.len_eq; simpa using this
  have HZ := Lib.hid hzl
  have HLS : Hid ((nat zs).length = len) := Lib.hid (by rw [nat_len]; exact hzl)
  have hlen : len ≤ 65536 := by rw [← hzl]; exact hg.1
  have HT := Lib.hid h
  have HW := Lib.hid hw
  have HR := Lib.hid hz
  have HG := Lib.hid hg
  have HA := Lib.hid ha
  have HGW := Lib.hid hgw
  have hp := pow_le15 hf
  have h0 := Nat.two_pow_pos f
  have hc3 : IntKind.i64.wrap (f : Int) = (f : Int) := by rw [IntWalk.i64_in _ (by omega)]
  clear h hw hz hg ha hgw hzl
  obtain ⟨P, hPe⟩ : ∃ P, P = 2 ^ f := ⟨_, rfl⟩
  rw [← hPe] at HT hp h0
  have HP := Lib.hid hPe
  clear hPe
  go_enter Tryz.func95, Tryz.ntmps95
  go_wp2_with fail
  go_loopw [6, 7, 8, 9, 16] (fun _ _ _ _ x wr => ∃ k : Nat, k ≤ len ∧ x = .int .i64 (k : Int) ∧ Hid (LinkAt w wr g ge f P (L1 (nat zs) f k))) (fun _ _ _ _ x _ => len - (intOf x).toNat)
  case atStart => exact ⟨0, Nat.zero_le _, rfl, Lib.hid ⟨HT.out, Only.refl _ _⟩⟩
  case round =>
    obtain ⟨k, hk, rfl, HL⟩ := hrel
    by_cases hlt : k < len
    · obtain ⟨b, off, rfl⟩ := HR.out.some_ (by omega)
      have hkz : k < zs.length := by rw [HZ.out]; exact hlt
      have hkn : k < (nat zs).length := by rw [HLS.out]; exact hlt
      obtain ⟨n, hn⟩ : ∃ n : Nat, zs[k] = (n : Int) := ⟨zs[k].toNat, by have := HG.out.2 _ (List.getElem_mem hkz); omega⟩
      have hn2 : ln (nat zs) k = n := by rw [ln_eq _ _ hkn, nat_get zs k hkz, hn]; rfl
      have hn15 : n ≤ 15 := by rw [← hn2]; exact ln_le HG.out.all k
      have hcz : wr.cell? ⟨b, off + k, none⟩ = some (.int .i64 (n : Int)) := by
        rw [HL.out.only.cell (p := ⟨b, off + k, none⟩) (HR.out.lt (by omega)) (HA.out (by omega) b off rfl).1, HR.out.get k (by simpa using hkz)]
        simp [iv, hn]
      have hcw : wr.cell? ⟨gw, k, none⟩ = some (.int .u32 ((wd (nat zs) k : Nat) : Int)) := by
        have h1 := HW.out.get k (by rw [wds_len]; exact hkn)
        rw [wds_get _ k hkn, Nat.zero_add] at h1
        rw [HL.out.only.cell (p := ⟨gw, k, none⟩) (HW.out.lt (by omega)) HGW.out.1, h1]; rfl
      have hwl : wd (nat zs) k < 32768 := by have h1 := wd_lt (nat zs) k; have h2 := pow_le15 hn15; rw [hn2] at h1; omega
      have ht0 : wr.cell? ⟨g, 0, none⟩ = some (.int .u64 (f : Int)) := by rw [HL.out.tab.tab.cell]; rfl
      have ht1 : wr.cell? ⟨g, 1, none⟩ = some (.slice (some ⟨ge, 0, none⟩) P P) := by rw [HL.out.tab.tab.cell]; rfl
      have hc4 : IntKind.i64.wrap ((n : Int) - (f : Int)) = (n : Int) - (f : Int) := by rw [IntWalk.i64_in _ (by omega)]
      by_cases hmore : f < n
      · go_wp2_with fail
        obtain ⟨p, hpe⟩ : ∃ p, p = wd (nat zs) k % 2 ^ f := ⟨_, rfl⟩
        have hpl : p < P := by rw [hpe, HP.out]; exact Nat.mod_lt _ (Nat.two_pow_pos f)
        have HQ : Hid (∀ nq, Calls Tryz.prog 102 #[.pointer (some ⟨g, 0, none⟩), .int .u32 ((wd (nat zs) k : Nat) : Int)] (wr.drewN nq) fun e w' => e = .returned (.int .u32 ((p : Nat) : Int)) ∧ ∃ m, w' = wr.drewN m) := Lib.hid (fun nq => by rw [hpe]; exact start_quiet g f _ nq _ wr HL.out.tab.tab hf (by omega))
        obtain ⟨mx, hmx⟩ : ∃ mx, mx = max (mo (nat zs) f k p) (n - f) := ⟨_, rfl⟩
        have HS : Hid (∀ j, L1 (nat zs) f (k + 1) j = if j = p then ⟨(L1 (nat zs) f k p).v, (L1 (nat zs) f k p).l, mx⟩ else L1 (nat zs) f k j) := Lib.hid (fun j => by
          rw [hmx, hpe, ← hn2]; exact L1_step (nat zs) f k j (by rw [hn2]; exact hmore))
        obtain ⟨⟨_, _, c2⟩, hfz⟩ := HL.out.tab.row'.el p hpl
        have f2 := hfz (p * 3 + 2)
        have hmol := mo_le (nat zs) f HG.out.all k p
        have c2 : wr.cell? ⟨ge, p * 3 + 2, none⟩ = some (.int .u8 ((mo (nat zs) f k p : Nat) : Int)) := c2
        clear hfz hpe
        generalize mo (nat zs) f k p = mv at *
        have e1 : IntKind.u8.wrap ((n : Int) - (f : Int)) = ((n - f : Nat) : Int) := by rw [IntKind.wrap_u8]; omega
        have e2 : (if mv < n - f then ((n - f : Nat) : Int) else (mv : Int)) = (mx : Int) := by split <;> omega
        have hpi : (p : Int) < (P : Int) := by omega
        clear hmx
        generalize wd (nat zs) k = wv at *
        go_quiet ((go_at_call 102; exact HQ.out _))
        have hb := quiet_below wr nq
        have HL2 : Hid (LinkAt w (wr.drewN nq) g ge f P (L1 (nat zs) f k)) := Lib.hid ⟨HL.out.tab.below hb, HL.out.only.then_below hb⟩
        have c3 : (wr.drewN nq).cell? ⟨ge, p * 3 + 2, none⟩ = some (.int .u8 (mv : Int)) := c2
        have f3 : (wr.drewN nq).frozen? ⟨ge, p * 3 + 2, none⟩ = false := f2
        clear hb HL c2 f2 ht0 ht1 hcz hcw HQ
        generalize wr.drewN nq = w2 at *
        have HR2 : Hid (Row (w2.setCell ⟨ge, p * 3 + 2, none⟩ (.int .u8 (mx : Int))) ge P (L1 (nat zs) f (k + 1))) := Lib.hid (HL2.out.tab.row'.set2 p mx hpl (fun j _ => HS.out j))
        have HB2 : Hid (Blk (w2.setCell ⟨ge, p * 3 + 2, none⟩ (.int .u8 (mx : Int))) g 130 #[.int .u64 (f : Int), .slice (some ⟨ge, 0, none⟩) P P]) := Lib.hid (HL2.out.tab.tab.same (Below.heap_setCell _ _ _ _ HL2.out.tab.ne))
        have HO2 : Hid (Only (fun k => k = ge) w (w2.setCell ⟨ge, p * 3 + 2, none⟩ (.int .u8 (mx : Int)))) := Lib.hid (HL2.out.only.setCell (p := ⟨ge, p * 3 + 2, none⟩) (fun _ => rfl) _)
        clear HL2 HS
        go_wp2_with fail
        go_roundw
        case rel => exact ⟨k + 1, by omega, by go_num, Lib.hid ⟨⟨HB2.out, HR2.out⟩, HO2.out⟩⟩
        case measure => simp [intOf]; omega
      · have HL2 : Hid (LinkAt w wr g ge f P (L1 (nat zs) f (k + 1))) := Lib.hid (by rw [L1_skip _ _ _ (by rw [hn2]; exact hmore)]; exact HL.out)
        go_wp2_with fail
        go_roundw
        case rel => exact ⟨k + 1, by omega, by go_num, HL2⟩
        case measure => simp [intOf]; omega
    · obtain rfl : k = len := by omega
      have HL2 : Hid (LinkAt w wr g ge f P (L2 (nat zs) f 0)) := Lib.hid (by have h1 := HL.out; rw [← HLS.out, L1_end] at h1; exact h1)
      have ht1 : wr.cell? ⟨g, 1, none⟩ = some (.slice (some ⟨ge, 0, none⟩) P P) := by rw [HL2.out.tab.tab.cell]; rfl
      clear HL
      go_wp2_with fail
      clear ht1
      go_loopw [10, 11, 12, 62] (fun sz _ _ x wr => ∃ k : Nat, k ≤ P ∧ x = .int .i64 (k : Int) ∧ sz = .int .i64 ((S (nat zs) f k : Nat) : Int) ∧ Hid (LinkAt w wr g ge f P (L2 (nat zs) f k))) (fun _ _ _ x _ => P - (intOf x).toNat)
      case atStart => exact ⟨0, Nat.zero_le _, rfl, by rw [S, ← HP.out], HL2⟩
      case round =>
        clear HL2
        obtain ⟨q, hq, rfl, rfl, HL⟩ := hrel
        have hSl : S (nat zs) f q ≤ 65536 := by
          have h1 := S_top (nat zs) f hf HG.out.all
          have h2 := S_mono (nat zs) f (show q ≤ 2 ^ f by rw [← HP.out]; exact hq)
          have h3 := HP.out
          omega
        by_cases hqP : q < P
        · obtain ⟨⟨d0, d1, d2⟩, hfz⟩ := HL.out.tab.row'.el q hqP
          have f0 := hfz (q * 3)
          have c0 : wr.cell? ⟨ge, q * 3, none⟩ = some (.int .u16 0) := by rw [d0]; simp [L2]
          have c1 : wr.cell? ⟨ge, q * 3 + 1, none⟩ = some (.int .u8 0) := by rw [d1]; simp [L2]
          have c2 : wr.cell? ⟨ge, q * 3 + 2, none⟩ = some (.int .u8 ((M (nat zs) f q : Nat) : Int)) := d2
          clear hfz d0 d1 d2
          have hMl := M_le (nat zs) f HG.out.all q
          by_cases hM : 0 < M (nat zs) f q
          · have HSN : Hid (S (nat zs) f q + 2 ^ M (nat zs) f q = S (nat zs) f (q + 1)) := Lib.hid (S_next _ _ _ hM)
            have hSs : S (nat zs) f q < 65536 := S_small (nat zs) f q hf HG.out.all (by rw [← HP.out]; exact hqP) hM
            have HSE : Hid (∀ j, L2 (nat zs) f (q + 1) j = if j = q then ⟨S (nat zs) f q, (L2 (nat zs) f q q).l, (L2 (nat zs) f q q).m⟩ else L2 (nat zs) f q j) := Lib.hid (fun j => L2_step _ _ _ j hM)
            generalize M (nat zs) f q = m at *
            generalize S (nat zs) f q = s at *
            have g1 : ((m : Int) == 0) = false := by simp; omega
            have g2 : IntKind.u16.wrap (s : Int) = (s : Int) := by rw [IntKind.wrap_u16]; omega
            have hm2 : 2 ^ m ≤ 2 ^ 14 := Nat.pow_le_pow_right (by omega) (by omega)
            have hp2 : (2 : Int) ^ m = ((2 ^ m : Nat) : Int) := by push_cast; rfl
            generalize 2 ^ m = d at *
            have g3 : min m 64 = m := by omega
            have g4 : IntKind.i64.wrap (2 ^ m) = (d : Int) := by rw [hp2, IntWalk.i64_in _ (by omega)]
            have g5 : (1 : Int) * 2 ^ m = (d : Int) := by rw [hp2]; omega
            go_upto_region 12 with (fail)
            obtain ⟨w4, hw4⟩ : ∃ w4, w4 = wr.alloc (.cells #[.int .u16 0, .int .u8 0, .int .u8 (m : Int)] 134) := ⟨_, rfl⟩
            rw [← hw4]
            have HL4 : Hid (LinkAt w w4 g ge f P (L2 (nat zs) f q)) := Lib.hid (by rw [hw4]; exact ⟨HL.out.tab.alloc _, HL.out.only.alloc _⟩)
            have hx : Blk w4 wr.heap.size 134 #[.int .u16 0, .int .u8 0, .int .u8 (m : Int)] := by rw [hw4]; exact Blk.new wr _ _
            have x0 : w4.cell? ⟨wr.heap.size, 0, none⟩ = some (.int .u16 0) := by rw [hx.cell]; rfl
            have x1 : w4.cell? ⟨wr.heap.size, 1, none⟩ = some (.int .u8 0) := by rw [hx.cell]; rfl
            have x2 : w4.cell? ⟨wr.heap.size, 2, none⟩ = some (.int .u8 (m : Int)) := by rw [hx.cell]; rfl
            have hne : wr.heap.size ≠ ge := by have := HL.out.tab.lt.2; omega
            have x3 : (w4.setCell ⟨ge, q * 3, none⟩ (.int .u16 (s : Int))).cell? ⟨wr.heap.size, 2, none⟩ = some (.int .u8 (m : Int)) := by
              rw [(hx.same (Below.heap_setCell _ _ _ _ hne)).cell]; rfl
            have ht1 : w4.cell? ⟨g, 1, none⟩ = some (.slice (some ⟨ge, 0, none⟩) P P) := by rw [HL4.out.tab.tab.cell]; rfl
            obtain ⟨⟨d0, _, _⟩, hfz⟩ := HL4.out.tab.row'.el q hqP
            have k0 : w4.cell? ⟨ge, q * 3, none⟩ = some (.int .u16 0) := by rw [d0]; simp [L2]
            have k1 := hfz (q * 3)
            clear hw4 HL c0 c1 c2 f0 hx hne d0 hfz
            generalize wr.heap.size = g6 at *
            have HR5 : Hid (Row (w4.setCell ⟨ge, q * 3, none⟩ (.int .u16 (s : Int))) ge P (L2 (nat zs) f (q + 1))) := Lib.hid (HL4.out.tab.row'.set0 q s hqP (fun j _ => HSE.out j))
            have HB5 : Hid (Blk (w4.setCell ⟨ge, q * 3, none⟩ (.int .u16 (s : Int))) g 130 #[.int .u64 (f : Int), .slice (some ⟨ge, 0, none⟩) P P]) := Lib.hid (HL4.out.tab.tab.same (Below.heap_setCell _ _ _ _ HL4.out.tab.ne))
            have HO5 : Hid (Only (fun k => k = ge) w (w4.setCell ⟨ge, q * 3, none⟩ (.int .u16 (s : Int)))) := Lib.hid (HL4.out.only.setCell (p := ⟨ge, q * 3, none⟩) (fun _ => rfl) _)
            have hqi : (q : Int) < (P : Int) := by omega
            clear HL4 HSE
            go_wp2_with fail
            go_roundw
            case rel => exact ⟨q + 1, by omega, by go_num, by rw [← HSN.out]; go_num, Lib.hid ⟨⟨HB5.out, HR5.out⟩, HO5.out⟩⟩
            case measure => simp [intOf]; omega
          · have HSN : Hid (S (nat zs) f q = S (nat zs) f (q + 1)) := Lib.hid (S_skip _ _ _ hM).symm
            have HLE : Hid (L2 (nat zs) f (q + 1) = L2 (nat zs) f q) := Lib.hid (L2_skip _ _ _ hM)
            have hM0 : M (nat zs) f q = 0 := by omega
            rw [hM0] at c2
            clear hM hM0 hMl
            have HL3 : Hid (LinkAt w (wr.alloc (.cells #[.int .u16 0, .int .u8 0, .int .u8 0] 134)) g ge f P (L2 (nat zs) f (q + 1))) := Lib.hid (by rw [HLE.out]; exact ⟨HL.out.tab.alloc _, HL.out.only.alloc _⟩)
            clear HL
            rw [HSN.out]
            clear HSN hSl
            go_wp2_with fail
            go_roundw
            case rel => exact ⟨q + 1, by omega, by go_num, rfl, HL3⟩
            case measure => simp [intOf]; omega
        · obtain rfl : q = P := by omega
          have HSP : Hid (S (nat zs) f q = S (nat zs) f (2 ^ f)) := Lib.hid (by rw [← HP.out])
          have HLE : Hid ((fun j => if j < q then L2 (nat zs) f q j else El.z) = T0 (nat zs) f) := Lib.hid (by rw [HP.out]; exact L2_end _ _)
          have hqS : q ≤ S (nat zs) f q := by have h1 := S_ge (nat zs) f q; have h2 := HP.out; omega
          obtain ⟨s, hse⟩ : ∃ s, s = S (nat zs) f q := ⟨_, rfl⟩
          rw [← hse] at HSP hqS hSl ⊢
          clear hse
          go_wp2_with (at_make; refine wpList_make_els _ rfl (.tmp 85) (.tmp 85) rfl .i64 .i64 s rfl rfl (by omega) ?_)
          intro C hE
          obtain ⟨w5, hw5⟩ : ∃ w5, w5 = wr.alloc (.cells C 134) := ⟨_, rfl⟩
          rw [← hw5]
          have HL5 : Hid (LinkAt w w5 g ge f q (L2 (nat zs) f q)) := Lib.hid (by rw [hw5]; exact ⟨HL.out.tab.alloc _, HL.out.only.alloc _⟩)
          have HR5 : Hid (Row w5 wr.heap.size s (fun _ => El.z)) := Lib.hid (by rw [hw5]; exact ⟨C, Blk.new wr _ _, hE⟩)
          have HN5 : Hid (w.heap.size ≤ wr.heap.size ∧ g ≠ wr.heap.size ∧ ge ≠ wr.heap.size) := Lib.hid (by
            have h1 := HL.out.tab.lt
            exact ⟨HL.out.only.size, by omega, by omega⟩)
          have ht1 : w5.cell? ⟨g, 1, none⟩ = some (.slice (some ⟨ge, 0, none⟩) q q) := by rw [HL5.out.tab.tab.cell]; rfl
          clear hw5 hE HL
          generalize wr.heap.size = gn at *
          go_wp2_with (refine wpList_copy_els _ rfl (.tmp 87) (.tmp 91) rfl gn ge s q s q (L2 (nat zs) f q) rfl rfl hqS HR5.out HL5.out.tab.row' ?_)
          intro w6 hr6 ho6
          have HR6 : Hid (Row w6 gn s (T0 (nat zs) f)) := Lib.hid (by rw [← HLE.out]; exact hr6)
          have HB6 : Hid (Blk w6 g 130 #[.int .u64 (f : Int), .slice (some ⟨ge, 0, none⟩) q q]) := Lib.hid (ho6.blk HL5.out.tab.tab HN5.out.2.1)
          have HO6 : Hid (Only (fun k => k = ge ∨ k = g) w w6) := Lib.hid ((HL5.out.only.mono (fun _ _ h => .inl h)).trans ho6 (fun k hk h => by have := HN5.out.1; omega))
          have t1 : w6.cell? ⟨g, 1, none⟩ = some (.slice (some ⟨ge, 0, none⟩) q q) := by rw [HB6.out.cell]; rfl
          have t2 : w6.frozen? ⟨g, 1, none⟩ = false := HB6.out.frozen 1
          have HB7 : Hid (Blk (w6.setCell ⟨g, 1, none⟩ (.slice (some ⟨gn, 0, none⟩) s s)) g 130 #[.int .u64 (f : Int), .slice (some ⟨gn, 0, none⟩) s s]) := Lib.hid (HB6.out.set_ 1 _)
          have HR7 : Hid (Row (w6.setCell ⟨g, 1, none⟩ (.slice (some ⟨gn, 0, none⟩) s s)) gn s (T0 (nat zs) f)) := Lib.hid (HR6.out.same (Below.heap_setCell _ _ _ _ (fun h => HN5.out.2.1 h.symm)))
          have HO7 : Hid (Only (fun k => k = ge ∨ k = g) w (w6.setCell ⟨g, 1, none⟩ (.slice (some ⟨gn, 0, none⟩) s s))) := Lib.hid (HO6.out.setCell (p := ⟨g, 1, none⟩) (fun _ => .inr rfl) _)
          clear hr6 ho6 HL5 HR5 ht1 HB6 HR6 HO6
          go_wp2_with fail
          go_end0
          exact ⟨rfl, gn, by rw [← HSP.out]; exact ⟨HB7.out, HR7.out⟩, HN5.out.1, HO7.out⟩
end Go.Proofs.YtjejlhpnhkacmaaGreatDoor.TabC
end

section
/-
  A table of lengths: its symbols placed; what is found in it.
-/
namespace Go.Proofs.YtjejlhpnhkacmaaGreatDoor.TabC
open Go.RowKit Go.My BitMath CanMath TabMath CanC

section
variable {ls : List Nat} (hall : ∀ x ∈ ls, x ≤ 15) (hk : kr ls ≤ 32768) (hlen : ls.length ≤ 65536) (f : Nat) (hf1 : 1 ≤ f) (hf : f ≤ 15)
include hall hf in
theorem top_le : S ls f (2 ^ f) ≤ 65536 := by
  have h1 := S_top ls f hf hall
  have h2 := pow_le15 hf
  omega
include hall hk hlen hf1 hf in
theorem place_tab (g ge k : Nat) (w : World) (h : TabAt w g ge f (S ls f (2 ^ f)) (TT ls f k)) (hn : 1 ≤ ln ls k) :
    Calls Tryz.prog 96 #[.pointer (some ⟨g, 0, none⟩), .int .i64 (k : Int), .int .u32 ((wd ls k : Nat) : Int), .int .i64 ((ln ls k : Nat) : Int)] w fun r w' =>
      r = .returned (.tuple #[]) ∧ TabAt w' g ge f (S ls f (2 ^ f)) (TT ls f (k + 1)) ∧ Only (fun k => k = ge) w w' := by
  have hkl := ln_lt hn
  have htop := top_le hall f hf
  have h15 := ln_le hall k
  by_cases hs : ln ls k ≤ f
  · have e : TT ls f (k + 1) = fun j => if j < 2 ^ f ∧ j % 2 ^ ln ls k = wd ls k then ⟨k, ln ls k, 0⟩ else TT ls f k j := by
      rw [TT, put, if_neg (by omega), if_pos hs]
    rw [e]
    exact place_short g ge f _ k (ln ls k) (wd ls k) (TT ls f k) w h hf htop (by omega) hs (wd_lt ls k) (S_ge ls f _)
  · have hto := tt_to hall hk f k k (by omega)
    have e : TT ls f (k + 1) = fun j => if (TT ls f k (wd ls k % 2 ^ f)).v ≤ j ∧ j < (TT ls f k (wd ls k % 2 ^ f)).v + 2 ^ (TT ls f k (wd ls k % 2 ^ f)).m ∧ (j - (TT ls f k (wd ls k % 2 ^ f)).v) % 2 ^ (ln ls k - f) = wd ls k / 2 ^ f then ⟨k, ln ls k, 0⟩ else TT ls f k j := by
      rw [TT, put, if_neg (by omega), if_neg hs]
    rw [e]
    have hp2 : wd ls k % 2 ^ f < 2 ^ f := Nat.mod_lt _ (Nat.two_pow_pos f)
    have hge := S_ge ls f (2 ^ f)
    have hM := M_ge ls f k (by omega)
    refine place_long g ge f _ k (ln ls k) (wd ls k) (TT ls f k) w h hf1 htop (by omega) (by omega) h15 (wd_lt ls k) (by omega) ?_ ?_
    · rw [hto]; have := M_le ls f hall (wd ls k % 2 ^ f); dsimp only; omega
    · rw [hto]; exact S_in ls f _ hp2 (by omega)
include hall hk hlen hf1 hf in
theorem find_tab (g ge v : Nat) (n : Int) (w : World) (h : TabAt w g ge f (S ls f (2 ^ f)) (TT ls f ls.length)) (hv : v < 4294967296) :
    Calls Tryz.prog 85 #[.pointer (some ⟨g, 0, none⟩), .int .u32 (v : Int), .int .i64 n] w fun e w' => e = .returned (ansV (who ls (v % 2 ^ cl n)) (cl n)) ∧ Below w.heap.size w w' := by
  have hlook : ∀ u, lookT (TT ls f ls.length) f u = who ls u := fun u => (show lookT (TT ls f ls.length) f u = TabMath.look ls f u from rfl).trans (look_who hall hk f u)
  rw [← hlook]
  refine find_any g ge f _ v n _ w h hf hv fun u hu => ?_
  have hp : u % 2 ^ f < 2 ^ f := Nat.mod_lt _ (Nat.two_pow_pos f)
  have hge := S_ge ls f (2 ^ f)
  have hw : lookT (TT ls f ls.length) f u = El.z ∨ (0 < (lookT (TT ls f ls.length) f u).l ∧ (lookT (TT ls f ls.length) f u).l ≤ 15 ∧ (lookT (TT ls f ls.length) f u).v < 65536) := by
    rw [hlook]
    rcases who_cases hall hk u with ⟨i, hi, e⟩ | ⟨_, e⟩
    · right
      rw [e]
      have := ln_lt hi.1
      exact ⟨hi.1, ln_le hall i, by dsimp only; omega⟩
    · exact .inl e
  by_cases hM : 0 < M ls f (u % 2 ^ f)
  · have e := tt_keep hall hk f ls.length _ hp hM
    refine ⟨by omega, ?_, ?_, ?_, hw⟩
    · rw [e]; have := M_le ls f hall (u % 2 ^ f); dsimp only; omega
    · intro _
      rw [e]
      have h1 := S_in ls f _ hp hM
      have h2 := Nat.mod_lt (u / 2 ^ f) (Nat.two_pow_pos (M ls f (u % 2 ^ f)))
      dsimp only
      omega
    · rw [e]; exact S_small ls f _ hf hall hp hM
  · have h1 := tt_first hall hk f u (by omega) ls.length
    have e : TT ls f ls.length (u % 2 ^ f) = who ls u := by
      rcases who_cases hall hk u with ⟨i, hi, e⟩ | ⟨hn, e⟩
      · rw [e, h1.1 i (ln_lt hi.1) hi]
      · rw [e, h1.2 (fun i _ => hn i)]
    rw [e]
    rcases who_cases hall hk u with ⟨i, hi, e⟩ | ⟨_, e⟩
    · rw [e]
      have := ln_lt hi.1
      exact ⟨by omega, by dsimp only; omega, fun h => absurd h (by simp), by dsimp only; omega, hw⟩
    · rw [e]
      exact ⟨by omega, by simp [El.z], fun h => absurd h (by simp [El.z]), by simp [El.z], hw⟩
end

/-- The codes' words, the first k turned round. -/
def wk (ls : List Nat) (k : Nat) : List Value := (List.range ls.length).map fun i => CanC.uv (if i < k then wd ls i else codeW ls i)
theorem wk_len (ls : List Nat) (k : Nat) : (wk ls k).length = ls.length := by simp [wk]
theorem wk_get (ls : List Nat) (k i : Nat) (h : i < ls.length) : (wk ls k)[i]'(by rw [wk_len]; exact h) = CanC.uv (if i < k then wd ls i else codeW ls i) := by simp [wk]
theorem wk_zero (ls : List Nat) : wk ls 0 = allWords ls := by
  apply List.ext_getElem
  · rw [wk_len, allWords_len]
  · intro i h1 h2
    rw [wk_len] at h1
    rw [wk_get _ _ _ h1, allWords_get _ _ h1, if_neg (by omega)]
theorem wk_end (ls : List Nat) : wk ls ls.length = wds ls := by
  apply List.ext_getElem
  · rw [wk_len, wds_len]
  · intro i h1 h2
    rw [wk_len] at h1
    rw [wk_get _ _ _ h1, wds_get _ _ h1, if_pos h1]
theorem wk_set (ls : List Nat) (k : Nat) : (wk ls k).set k (CanC.uv (wd ls k)) = wk ls (k + 1) := by
  apply List.ext_getElem
  · simp [wk]
  · intro i h1 h2
    rw [List.getElem_set]
    rw [wk_len] at h2
    rw [wk_get _ _ _ h2, wk_get _ _ _ h2]
    by_cases h : k = i
    · subst h; rw [if_pos rfl, if_pos (by omega)]
    · rw [if_neg h]
      have : (i < k + 1) ↔ (i < k) := by omega
      simp only [this]
theorem rc_code (ls : List Nat) (hall : ∀ x ∈ ls, x ≤ 15) (hk : kr ls ≤ 32768) (i : Nat) (h : i < ls.length) : codeW ls i < 2 ^ ln ls i ∧ rc (ln ls i) (codeW ls i) = wd ls i := by
  rw [codeW_eq ls i h, ← ln_eq ls i h]
  by_cases h0 : ln ls i = 0
  · rw [if_pos h0]
    unfold wd
    rw [h0]
    exact ⟨by simp, rfl⟩
  · rw [if_neg h0]
    exact ⟨code_small hall hk i (by omega), rfl⟩

/-- A table of these lengths lies at g. -/
structure IsTab (B : Nat) (w : World) (g : Nat) (ls : List Nat) (f : Nat) : Prop where
  base : B ≤ g
  at_ : ∃ ge, B ≤ ge ∧ TabAt w g ge f (S ls f (2 ^ f)) (TT ls f ls.length)
theorem IsTab.below {B : Nat} {w w' : World} {g : Nat} {ls : List Nat} {f : Nat} (h : IsTab B w g ls f) (hb : Below w.heap.size w w') : IsTab B w' g ls f := by
  obtain ⟨h1, ge, h2, h3⟩ := h
  exact ⟨h1, ge, h2, h3.below hb⟩
theorem find_is {B : Nat} {g f v : Nat} {n : Int} {zs : List Int} {w : World} (h : IsTab B w g (nat zs) f) (hg : CanC.Good zs) (hk : kr (nat zs) ≤ 32768) (hf1 : 1 ≤ f) (hf : f ≤ 15) (hv : v < 4294967296) :
    Calls Tryz.prog 85 #[.pointer (some ⟨g, 0, none⟩), .int .u32 (v : Int), .int .i64 n] w fun e w' => e = .returned (ansV (who (nat zs) (v % 2 ^ cl n)) (cl n)) ∧ Below w.heap.size w w' := by
  obtain ⟨_, ge, _, h3⟩ := h
  exact find_tab hg.all hk (by rw [nat_len]; exact hg.1) f hf1 hf g ge v n w h3 hv
end Go.Proofs.YtjejlhpnhkacmaaGreatDoor.TabC
end

section
/-
  table.New.
-/
namespace Go.Proofs.YtjejlhpnhkacmaaGreatDoor.TabC
open Go.RowKit Go.My BitMath CanMath TabMath CanC

section
variable {a : Option Addr} {len cap : Nat} {zs : List Int} {w : World}
set_option maxRecDepth 100000 in
set_option maxHeartbeats 2000000 in
theorem new_bad (f : Int) (h : RowIn w a len cap (zs.map iv)) (hg : ¬ CanC.Good zs) :
    Calls Tryz.prog 83 #[.slice a len cap, .int .i64 f] w fun e w' => e = .returned (.tuple #[.pointer none, .int .i64 7]) ∧ Below w.heap.size w w' := by
  have HG := Lib.hid hg
  have HR := Lib.hid h
  clear hg h
  go_enter Tryz.func83, Tryz.ntmps83
  go_wp2_with fail
  refine (codes_bad HR.out HG.out).mono ?_
  rintro e w2 ⟨rfl, hb⟩
  have HB := Lib.hid hb
  clear hb
  go_wp2_with fail
  go_ret2
  exact ⟨rfl, HB.out⟩
set_option maxRecDepth 100000 in
set_option maxHeartbeats 2000000 in
theorem new_over (f : Int) (h : RowIn w a len cap (zs.map iv)) (hg : CanC.Good zs) (hk : 32768 < kr (nat zs)) :
    Calls Tryz.prog 83 #[.slice a len cap, .int .i64 f] w fun e w' => e = .returned (.tuple #[.pointer none, .int .i64 2]) ∧ Below w.heap.size w w' := by
  have HG := Lib.hid hg
  have HK := Lib.hid hk
  have HR := Lib.hid h
  clear hg h hk
  go_enter Tryz.func83, Tryz.ntmps83
  go_wp2_with fail
  refine (codes_over HR.out HG.out HK.out).mono ?_
  rintro e w2 ⟨rfl, hb⟩
  have HB := Lib.hid hb
  clear hb
  go_wp2_with fail
  go_ret2
  exact ⟨rfl, HB.out⟩
set_option maxRecDepth 100000 in
set_option maxHeartbeats 2000000 in
theorem new_arg (f : Int) (h : RowIn w a len cap (zs.map iv)) (hg : CanC.Good zs) (hk : kr (nat zs) ≤ 32768) (hf : f < 1 ∨ 15 < f) :
    Calls Tryz.prog 83 #[.slice a len cap, .int .i64 f] w fun e w' => e = .returned (.tuple #[.pointer none, .int .i64 1]) ∧ Below w.heap.size w w' := by
  have HG := Lib.hid hg
  have HK := Lib.hid hk
  have HR := Lib.hid h
  clear hg h hk
  by_cases hf1 : f < 1
  · go_enter Tryz.func83, Tryz.ntmps83
    go_wp2_with fail
    refine (codes_ok _ _ _ zs _ HR.out HG.out HK.out).mono ?_
    rintro e w2 ⟨gw, rfl, _, _, hb⟩
    have HB := Lib.hid hb
    clear hb
    go_wp2_with fail
    go_ret2
    exact ⟨rfl, HB.out⟩
  · have d1 : decide (f < 1) = false := by simp; omega
    have d2 : decide (f > 15) = true := by simp; omega
    go_enter Tryz.func83, Tryz.ntmps83
    go_wp2_with fail
    refine (codes_ok _ _ _ zs _ HR.out HG.out HK.out).mono ?_
    rintro e w2 ⟨gw, rfl, _, _, hb⟩
    have HB := Lib.hid hb
    clear hb
    go_wp2_with fail
    go_ret2
    exact ⟨rfl, HB.out⟩

/-- What New's loops keep. -/
structure NewAt (B : Nat) (w wr : World) (gw len : Nat) (vs : List Value) : Prop where
  base : B ≤ gw
  own : OwnV 81 B wr (.slice (some ⟨gw, 0, none⟩) len len) vs
  below : Below w.heap.size w wr

structure FillAt (w wr : World) (gw len g ge f : Nat) (ls : List Nat) (k : Nat) : Prop where
  tab : TabAt wr g ge f (S ls f (2 ^ f)) (TT ls f k)
  words : RowIn wr (some ⟨gw, 0, none⟩) len len (wds ls)
  below : Below w.heap.size w wr

set_option maxRecDepth 100000 in
set_option maxHeartbeats 8000000 in
theorem new_ok (f : Nat) (h : RowIn w a len cap (zs.map iv)) (hg : CanC.Good zs) (hk : kr (nat zs) ≤ 32768) (hf1 : 1 ≤ f) (hf : f ≤ 15) :
    Calls Tryz.prog 83 #[.slice a len cap, .int .i64 (f : Int)] w fun e w' => ∃ g, e = .returned (.tuple #[.pointer (some ⟨g, 0, none⟩), .int .i64 0]) ∧ IsTab w.heap.size w' g (nat zs) f ∧ Below w.heap.size w w' := by
  have hzl : zs.length = len := by have := h.len_eq; simpa using this
  have HZ := Lib.hid hzl
  have HLS : Hid ((nat zs).length = len) := Lib.hid (by rw [nat_len]; exact hzl)
  have hlen : len ≤ 65536 := by rw [← hzl]; exact hg.1
  have HG := Lib.hid hg
  have HK := Lib.hid hk
  have HR := Lib.hid h
  have d1 : decide ((f : Int) < 1) = false := by simp; omega
  have d2 : decide ((f : Int) > 15) = false := by simp; omega
  clear hg h hk hzl
  go_enter Tryz.func83, Tryz.ntmps83
  go_wp2_with fail
  refine (codes_ok _ _ _ zs _ HR.out HG.out HK.out).mono ?_
  rintro e w2 ⟨gw, rfl, hgw, hown, hb⟩
  rw [HZ.out] at hown ⊢
  have HN : Hid (NewAt w.heap.size w w2 gw len (wk (nat zs) 0)) := Lib.hid ⟨hgw, by rw [wk_zero]; exact hown, hb⟩
  clear hgw hown hb
  go_wp2_with fail
  clear d1 d2
  go_loopw [8, 9, 29] (fun _ _ x wr => ∃ k : Nat, k ≤ len ∧ x = .int .i64 (k : Int) ∧ Hid (NewAt w.heap.size w wr gw len (wk (nat zs) k))) (fun _ _ x _ => len - (intOf x).toNat)
  case atStart => exact ⟨0, Nat.zero_le _, rfl, HN⟩
  case round =>
    clear HN
    obtain ⟨k, hk, rfl, HN⟩ := hrel
    by_cases hlt : k < len
    · obtain ⟨b, off, rfl⟩ := HR.out.some_ (by omega)
      have hkz : k < zs.length := by rw [HZ.out]; exact hlt
      have hkn : k < (nat zs).length := by rw [HLS.out]; exact hlt
      obtain ⟨n, hn⟩ : ∃ n : Nat, zs[k] = (n : Int) := ⟨zs[k].toNat, by have := HG.out.2 _ (List.getElem_mem hkz); omega⟩
      have hn2 : ln (nat zs) k = n := by rw [ln_eq _ _ hkn, nat_get zs k hkz, hn]; rfl
      have hn15 : n ≤ 15 := by rw [← hn2]; exact ln_le HG.out.all k
      have hcz : wr.cell? ⟨b, off + k, none⟩ = some (.int .i64 (n : Int)) := by
        rw [HN.out.below.cell (p := ⟨b, off + k, none⟩) (HR.out.lt (by omega)), HR.out.get k (by simpa using hkz)]
        simp [iv, hn]
      have hwl : (wk (nat zs) k).length = len := by rw [wk_len, HLS.out]
      have hcw : wr.cell? ⟨gw, k, none⟩ = some (.int .u32 ((codeW (nat zs) k : Nat) : Int)) := by
        have h1 := HN.out.own.cell hwl k (by rw [hwl]; exact hlt)
        rw [wk_get _ _ _ hkn, if_neg (by omega)] at h1
        exact h1
      have hfw : wr.frozen? ⟨gw, k, none⟩ = false := HN.out.own.free hwl k
      obtain ⟨r1, r2⟩ := rc_code (nat zs) HG.out.all HK.out k hkn
      rw [hn2] at r1 r2
      have HN2 : Hid (NewAt w.heap.size w (wr.setCell ⟨gw, k, none⟩ (.int .u32 ((wd (nat zs) k : Nat) : Int))) gw len (wk (nat zs) (k + 1))) := Lib.hid ⟨HN.out.base, by
        have h1 := HN.out.own.store hwl k (CanC.uv (wd (nat zs) k))
        rw [wk_set] at h1
        exact h1, HN.out.below.setCell (p := ⟨gw, k, none⟩) HN.out.base _⟩
      have HQ := Lib.hid (turned_any (codeW (nat zs) k) n wr hn15 r1)
      rw [r2] at HQ
      clear hn hn2 r1 r2 hwl HN
      generalize codeW (nat zs) k = cv at *
      go_wp2_with fail
      refine HQ.out.mono ?_
      rintro e w3 ⟨rfl, rfl⟩
      clear HQ
      go_wp2_with fail
      go_roundw
      case rel => exact ⟨k + 1, by omega, by go_num, HN2⟩
      case measure => simp [intOf]; omega
    · obtain rfl : k = len := by omega
      have HW : Hid (RowIn wr (some ⟨gw, 0, none⟩) k k (wds (nat zs))) := Lib.hid (by
        have h1 := HN.out.own
        rw [← HLS.out, wk_end, HLS.out] at h1
        exact h1.rowIn (by rw [wds_len, HLS.out]))
      have HB := Lib.hid HN.out.below
      have HGW := Lib.hid HN.out.base
      have hp := pow_le15 hf
      have h0 := Nat.two_pow_pos f
      have hp2 : (2 : Int) ^ f = ((2 ^ f : Nat) : Int) := by push_cast; rfl
      obtain ⟨P, hPe⟩ : ∃ P, P = 2 ^ f := ⟨_, rfl⟩
      rw [← hPe] at hp h0 hp2
      have HP := Lib.hid hPe
      have HGL : Hid (gw < wr.heap.size) := Lib.hid (HN.out.own.lt gw rfl)
      clear hPe HN
      have g1 : IntKind.u64.wrap (f : Int) = (f : Int) := by rw [IntKind.wrap_u64]; omega
      have g3 : min f 64 = f := by omega
      have g4 : IntKind.i64.wrap (2 ^ f) = (P : Int) := by rw [hp2, IntWalk.i64_in _ (by omega)]
      have g5 : (1 : Int) * 2 ^ f = (P : Int) := by rw [hp2]; omega
      go_wp2_with (at_make; refine wpList_make_els _ rfl (.tmp 47) (.tmp 47) rfl .i64 .i64 P rfl rfl (by omega) ?_)
      intro C hE
      obtain ⟨w5, hw5⟩ : ∃ w5, w5 = wr.alloc (.cells C 134) := ⟨_, rfl⟩
      rw [← hw5]
      have HR5 : Hid (Row w5 wr.heap.size P (fun _ => El.z)) := Lib.hid (by rw [hw5]; exact ⟨C, Blk.new wr _ _, hE⟩)
      have HB5 : Hid (Below wr.heap.size wr w5) := Lib.hid (by rw [hw5]; exact (Below.refl _ _).alloc (Nat.le_refl _) _)
      have HL5 : Hid (wr.heap.size < w5.heap.size) := Lib.hid HR5.out.lt
      clear hw5 hE
      go_wp2_with fail
      obtain ⟨w6, hw6⟩ : ∃ w6, w6 = w5.alloc (.cells #[.int .u64 (f : Int), .slice (some ⟨wr.heap.size, 0, none⟩) P P] 130) := ⟨_, rfl⟩
      rw [← hw6]
      have HT6 : Hid (TabAt w6 w5.heap.size wr.heap.size f (2 ^ f) (fun _ => El.z)) := Lib.hid (by rw [hw6, ← HP.out]; exact ⟨Blk.new w5 _ _, HR5.out.same (Below.heap_alloc _ _ _ HR5.out.lt)⟩)
      have HB6 : Hid (Below wr.heap.size wr w6) := Lib.hid (by rw [hw6]; exact HB5.out.alloc (Nat.le_of_lt HL5.out) _)
      have HBW : Hid (Below w.heap.size w w6) := Lib.hid (HB.out.trans (HB6.out.mono HB.out.size))
      have HW6 : Hid (RowIn w6 (some ⟨gw, 0, none⟩) k k (wds (nat zs))) := Lib.hid (HW.out.below (Nat.le_refl _) HB6.out)
      have HR6 : Hid (RowIn w6 a k cap (zs.map iv)) := Lib.hid (HR.out.below (Nat.le_refl _) HBW.out)
      have HS6 : Hid (w.heap.size ≤ wr.heap.size ∧ gw < wr.heap.size ∧ wr.heap.size < w5.heap.size ∧ w5.heap.size < w6.heap.size) := Lib.hid ⟨HB.out.size, HGL.out, HL5.out, HT6.out.lt.1⟩
      clear hw6 HR5 HB5 HL5 HB6 HB HGL HW
      generalize w5.heap.size = g at *
      generalize wr.heap.size = ge at *
      refine (link_any g ge f gw k cap a zs w6 HT6.out hf1 hf HW6.out HR6.out HG.out ⟨by have := HS6.out; omega, by have := HS6.out; omega⟩ (fun hk0 b off hab => by
        have h1 := HR.out
        rw [hab] at h1
        have h2 := h1.lt hk0
        have h3 := HS6.out
        exact ⟨by omega, by omega⟩)).mono ?_
      rintro e w7 ⟨rfl, ge2, ht7, hge2, ho7⟩
      have HBW7 : Hid (Below w.heap.size w w7) := Lib.hid (HBW.out.trans (ho7.below (by have := HS6.out; omega) (fun k hk => by have := HS6.out; omega)))
      have HW7 : Hid (RowIn w7 (some ⟨gw, 0, none⟩) k k (wds (nat zs))) := Lib.hid (RowIn.only HW6.out ho7 (fun b off hab h => by
        injection hab with hab
        injection hab with hab
        have := HS6.out
        omega))
      have HT7 : Hid (TabAt w7 g ge2 f (S (nat zs) f (2 ^ f)) (TT (nat zs) f 0)) := Lib.hid ht7
      have HS7 : Hid (w.heap.size ≤ g ∧ w.heap.size ≤ ge2 ∧ gw ≠ ge2) := Lib.hid (by have := HS6.out; have := HBW.out.size; exact ⟨by omega, by omega, by omega⟩)
      clear ht7 hge2 ho7 HT6 HBW HW6 HR6 HS6
      have HF : Hid (FillAt w w7 gw k g ge2 f (nat zs) 0) := Lib.hid ⟨HT7.out, HW7.out, HBW7.out⟩
      clear HT7 HW7 HBW7 hp2 g1 g3 g4 g5
      go_wp2_with fail
      go_loopw [11, 12, 57] (fun _ _ x wr => ∃ q : Nat, q ≤ k ∧ x = .int .i64 (q : Int) ∧ Hid (FillAt w wr gw k g ge2 f (nat zs) q)) (fun _ _ x _ => k - (intOf x).toNat)
      case atStart => exact ⟨0, Nat.zero_le _, rfl, HF⟩
      case round =>
        clear HF
        obtain ⟨q, hq, rfl, HF⟩ := hrel
        by_cases hqk : q < k
        · obtain ⟨b, off, rfl⟩ := HR.out.some_ (by omega)
          have hkz : q < zs.length := by rw [HZ.out]; exact hqk
          have hkn : q < (nat zs).length := by rw [HLS.out]; exact hqk
          obtain ⟨n, hn⟩ : ∃ n : Nat, zs[q] = (n : Int) := ⟨zs[q].toNat, by have := HG.out.2 _ (List.getElem_mem hkz); omega⟩
          have hn2 : ln (nat zs) q = n := by rw [ln_eq _ _ hkn, nat_get zs q hkz, hn]; rfl
          have hn15 : n ≤ 15 := by rw [← hn2]; exact ln_le HG.out.all q
          have hcz : wr.cell? ⟨b, off + q, none⟩ = some (.int .i64 (n : Int)) := by
            rw [HF.out.below.cell (p := ⟨b, off + q, none⟩) (HR.out.lt (by omega)), HR.out.get q (by simpa using hkz)]
            simp [iv, hn]
          have hcw : wr.cell? ⟨gw, q, none⟩ = some (.int .u32 ((wd (nat zs) q : Nat) : Int)) := by
            have h1 := HF.out.words.get q (by rw [wds_len]; exact hkn)
            rw [wds_get _ q hkn, Nat.zero_add] at h1
            rw [h1]; rfl
          by_cases hn0 : 0 < n
          · have HQ : Hid (Calls Tryz.prog 96 #[.pointer (some ⟨g, 0, none⟩), .int .i64 (q : Int), .int .u32 ((wd (nat zs) q : Nat) : Int), .int .i64 (n : Int)] wr fun r w' =>
                r = .returned (.tuple #[]) ∧ TabAt w' g ge2 f (S (nat zs) f (2 ^ f)) (TT (nat zs) f (q + 1)) ∧ Only (fun k => k = ge2) wr w') := Lib.hid (by
              have h1 := place_tab HG.out.all HK.out (by rw [HLS.out]; exact hlen) f hf1 hf g ge2 q wr HF.out.tab (by rw [hn2]; exact hn0)
              rw [hn2] at h1
              exact h1)
            clear hn hn2
            generalize wd (nat zs) q = wv at *
            go_wp2_with fail
            refine HQ.out.mono ?_
            rintro e w8 ⟨rfl, ht8, ho8⟩
            have HF8 : Hid (FillAt w w8 gw k g ge2 f (nat zs) (q + 1)) := Lib.hid ⟨ht8, RowIn.only HF.out.words ho8 (fun b off hab h => by
              injection hab with hab
              injection hab with hab
              have := HS7.out
              omega), HF.out.below.trans (ho8.below HF.out.below.size (fun k hk => by rw [hk]; exact HS7.out.2.1))⟩
            clear HQ ht8 ho8 HF hcz hcw
            go_wp2_with fail
            go_roundw
            case rel => exact ⟨q + 1, by omega, by go_num, HF8⟩
            case measure => simp [intOf]; omega
          · have HF8 : Hid (FillAt w wr gw k g ge2 f (nat zs) (q + 1)) := Lib.hid ⟨by rw [TT, put, if_pos (by omega)]; exact HF.out.tab, HF.out.words, HF.out.below⟩
            clear hn hn2 hcw HF
            go_wp2_with fail
            go_roundw
            case rel => exact ⟨q + 1, by omega, by go_num, HF8⟩
            case measure => simp [intOf]; omega
        · obtain rfl : q = k := by omega
          go_wp2_with fail
          go_ret2
          exact ⟨g, rfl, ⟨HS7.out.1, ge2, HS7.out.2.1, by have h1 := HF.out.tab; rw [HLS.out]; exact h1⟩, HF.out.below⟩
end
end Go.Proofs.YtjejlhpnhkacmaaGreatDoor.TabC
end
