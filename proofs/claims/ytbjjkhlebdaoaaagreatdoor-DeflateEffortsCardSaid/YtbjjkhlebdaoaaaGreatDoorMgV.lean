import Derived.Test.YtbjjkhlebdaoaaaGreatDoorMgDb

section
/-
  Bits without long matches are read as wide, too.
-/
namespace Go.Proofs.YtbjjkhlebdaoaaaGreatDoor.DfC
open Go.RowKit Go.My BitMath BlkC MatMath
open LzMath (Tok May Mat GoodT tot ex)
open InfMath (Rd lp symL lite litc dstc xtr cst tks tkb blk)

/-- No match is longer than this. -/
def Short (f : Nat → Tok) (n : Nat) : Prop := ∀ i, i < n → (f i).len ≤ 257
section
variable {f : Nat → Tok} {n : Nat}
theorem lp_wide {m : Nat} (h : m ≤ 257) : lp m true = lp m false := by
  unfold lp
  rw [if_neg (by simp; omega), if_neg (by simp; omega)]
theorem sym_wide {t : Tok} (h : t.len ≤ 257) : symL true t = symL false t := by
  unfold symL
  rw [lp_wide (m := t.len.toNat) (by omega)]
theorem litc_wide (h : Short f n) : ∀ k, k ≤ n → litc true f k = litc false f k
  | 0, _ => rfl
  | k + 1, hk => by
    funext s
    have ih := congrFun (litc_wide h k (by omega)) s
    rw [litc, litc, sym_wide (h k (by omega)), ih]
theorem lite_wide (h : Short f n) : lite true f n = lite false f n := by
  funext s
  unfold lite
  rw [congrFun (litc_wide h n (Nat.le_refl _)) s]
theorem xtr_wide (h : Short f n) : ∀ k, k ≤ n → xtr true f k = xtr false f k
  | 0, _ => rfl
  | k + 1, hk => by
    have := h k (by omega)
    rw [xtr, xtr, xtr_wide h k (by omega), lp_wide (m := (f k).len.toNat) (by omega)]
theorem cst_wide (h : Short f n) (A B : Nat → Nat) : cst true f n A B = cst false f n A B := by
  unfold cst
  rw [lite_wide h, xtr_wide h n (Nat.le_refl _)]
theorem tks_wide (h : Short f n) (L D : List Nat) : ∀ k, k ≤ n → tks L D true f k = tks L D false f k
  | 0, _ => rfl
  | k + 1, hk => by
    have := h k (by omega)
    have e : tkb L D true (f k) = tkb L D false (f k) := by unfold tkb; rw [lp_wide (m := (f k).len.toNat) (by omega)]
    rw [tks, tks, tks_wide h L D k (by omega), e]
theorem blk_wide (h : Short f n) (L D : List Nat) : blk L D true f n = blk L D false f n := by
  unfold blk
  rw [tks_wide h L D n (Nat.le_refl _)]
theorem bits_wide {p : Nat} {last : Bool} {X : List Bool} (h : Short f n) (hb : Bits false p f n last X) : Bits true p f n last X := by
  unfold Bits at hb ⊢
  simp only [lite_wide h, cst_wide h, blk_wide h]
  exact hb
theorem good_wide (h : GoodT false f n) : GoodT true f n := by
  intro i hi
  obtain ⟨hm, hd⟩ := h i hi
  refine ⟨?_, hd⟩
  rcases hm with hl | ⟨m0, m1, m2, m3, m4⟩
  · exact .inl hl
  · exact .inr ⟨m0, m1, by unfold LzMath.ml at *; simp at *; omega, m3, by unfold LzMath.md at *; simp at *; omega⟩
theorem bits_rd {wide : Bool} {p : Nat} {last : Bool} {X : List Bool} (hG : GoodT wide f n) (hb : Bits wide p f n last X) : Rd wide p X (ex f n) last := by
  obtain ⟨L0, D0, Sh, k1, k2, b1, b2, t1, t2, b3, hsp, e⟩ := hb
  rw [e]
  split
  · exact Rd.stored wide last _ _ _ (Nat.le_refl _)
  · split
    · exact Rd.fixed hG
    · have H := hok_of hG b1 b2 t1 t2 hsp b3
      exact Rd.own H.1 H.2.1 H.2.2.1 hG H.2.2.2.1 H.2.2.2.2
/-- Of fewer than 259 bytes no match has 258. -/
theorem short_of {wide : Bool} (hG : GoodT wide f n) (h : tot f n ≤ 258) : Short f n := by
  intro i hi
  obtain ⟨hm, hd⟩ := hG i hi
  rcases hm with hl | ⟨-, m1, -, m3, -⟩
  · rw [hl.1]; omega
  · have h1 := LzMath.tot_mono f (i + 1) n hi
    have h2 : tot f (i + 1) = tot f i + LzMath.sz (f i) := rfl
    have h3 : LzMath.sz (f i) = (f i).len.toNat := by unfold LzMath.sz; rw [if_neg (by omega)]
    omega
end
theorem Dfl.wide {n : Nat} {s P : List UInt8} (h : Dfl n false s P) (hs : s.length ≤ 258) : ∃ X z, bitsOf P = X ++ z ∧ Rd true 0 X s true := by
  rcases h with ⟨-, rfl⟩ | ⟨-, X, K, rfl, hm, -, -, -, hb⟩
  · exact ⟨InfMath.stbs 0 s true, [], by rw [List.append_nil]; exact (InfMath.stbs_zero true _ 0 s (Nat.le_refl _) rfl).symm, Rd.stored true true _ 0 s (Nat.le_refl _)⟩
  · have ha := tk_all hm
    have hg : GoodT false (tk (plw n false) s) K := tk_good hm
    have hr := bits_rd (good_wide hg) (bits_wide (short_of hg (by rw [ha.1]; exact hs)) hb)
    rw [ha.2] at hr
    exact ⟨X, List.replicate ((8 - X.length % 8) % 8) false, bitsOf_pack X, hr⟩
end Go.Proofs.YtbjjkhlebdaoaaaGreatDoor.DfC
end
