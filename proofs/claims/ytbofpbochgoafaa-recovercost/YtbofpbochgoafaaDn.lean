/- What follows of a right task's parts; sums of rows beside other calls. -/
import Derived.Test.YtbofpbochgoafaaPr
import Derived.Test.YtbofpbochgoafaaBl
namespace Go.Proofs.Ytbofpbochgoafaa
open Go.RowKit

theorem Ways.long {t : Tk} {d s : Int} {n : Nat} (h : Fine t) (hw : Ways t d n s) (hd : d ≤ t.C) : s ≤ t.C := by
  by_cases hm : t.Mode = 1
  · rw [hw.retry hm]
    rcases h.mode with ⟨_, _, _, _⟩ | ⟨_, _, _, _⟩ <;> omega
  · rw [(hw.whole hm).2]; exact hd
theorem pl_range {t : Tk} {d s : Int} {n : Nat} (h : Fine t) (hw : Ways t d n s) {i : Nat} {y : Int} (hy : (pl s t.Cost d n)[i]? = some y) : 1 ≤ y ∧ y ≤ s + t.Cost := by
  have hlt := (List.getElem?_eq_some_iff.1 hy).1
  rw [length_pl] at hlt
  rw [pl_at hlt] at hy
  cases hy
  have h1 := hw.cuts.least (c := t.Cost) hlt
  have h2 := pf_most s t.Cost d i
  have := h.nums.2.2.1
  omega
theorem pl_small {t : Tk} {d s : Int} {n : Nat} (h : Fine t) (hw : Ways t d n s) (hd : d ≤ t.C) (hC : t.C ≤ 3000) : ∀ (i : Nat) (y : Int), (pl s t.Cost d n)[i]? = some y → 0 ≤ y ∧ y ≤ 5000 := by
  intro i y hy
  have h1 := pl_range h hw hy
  have h2 := hw.long h hd
  have := h.nums.2.2.2.1
  omega
/-- A lesser demand's parts beside those of C. -/
theorem parts_less {t : Tk} {x y s r : Int} {n m : Nat} (h : Fine t) (hx : Ways t x n s) (hy : Ways t y m r) (hd : x ≤ y) :
    (pl s t.Cost x n).sum ≤ (pl r t.Cost y m).sum ∧ x ≤ (pl s t.Cost x n).sum ∧ n ≤ m ∧ 1 ≤ n := by
  have hn := hx.mono hy hd
  have hc := h.nums.2.2.1
  have h1 : (n : Int) * t.Cost ≤ (m : Int) * t.Cost := Int.mul_le_mul_of_nonneg_right (by omega) hc
  have h0 : 0 ≤ (n : Int) * t.Cost := Int.mul_nonneg (by omega) hc
  rw [hx.cuts.sum, hy.cuts.sum]
  exact ⟨by omega, by omega, hn, hx.cuts.1⟩
theorem parts_whole {t : Tk} {s : Int} {n : Nat} (h : Fine t) (hw : Ways t t.C n s) : (pl s t.Cost t.C n).sum = wholeV t := by
  rw [hw.cuts.sum, whole_eq h hw]
theorem extra_pos {t : Tk} (h : Fine t) : 1 ≤ extraV t := by
  have := h.nums.2.2.1
  unfold extraV
  rcases h.again with ⟨m, _, _⟩ | ⟨m, _, _⟩
  · rw [if_pos m]; omega
  · rw [if_neg (by omega)]; omega
/-- A sum, met beside calls that make memory. -/
theorem sumG {l : List Int} {g c n : Nat} {W : World} (hn : l.length = n) (hl : n ≤ 4000) (hx : ∀ (i : Nat) (x : Int), l[i]? = some x → 0 ≤ x ∧ x ≤ 5000) (hc : n ≤ c) (h : Rest W g 0 l) {v : Int} (hv : l.sum = v) :
    Calls Try.prog 11 #[.slice (some ⟨g, 0, none⟩) n c] W (Gives (.int .i64 v) W) :=
  (sum hn hl hx (h.ints (by omega))).mono (by
    rintro e w' ⟨rfl, rfl⟩
    exact ⟨by rw [hv], Below.refl _ _⟩)
end Go.Proofs.Ytbofpbochgoafaa
