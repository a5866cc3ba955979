/- What RecoverRest counts. -/
import Derived.Test.YtbofpbochgoafaaSx
namespace Go.Proofs.Ytbofpbochgoafaa
open Go.RowKit

/-- A run that goes on, i ticks behind its begin. -/
structure GoodI (t : Tk) (d s : Int) (n k : Nat) (l f : Int) (i : Nat) : Prop where
  good : Good t d s n k l f
  few : f ≤ i
section
variable {t : Tk} {d s l f l' f' ev m : Int} {n k k' i : Nat} {b b' q : Bool}
theorem GoodI.first (h : Sm t d n s) : GoodI t d s n 0 (lenV t s d 0) 0 0 := ⟨Good.first h, by simp⟩
theorem GoodI.goes (c : GoodI t d s n k l f i) (h : Sm t d n s) (st : Stp t d s n k l b f q k' l' b' f' ev) (he : ev ≠ 4) : GoodI t d s n k' l' f' (i + 1) := by
  obtain ⟨g, g1, g2⟩ := c.good.goes h st he
  have := c.few
  exact ⟨g, by omega⟩
/-- A run that isn't struck, with m ticks left in all behind i. -/
structure RestI (t : Tk) (d s : Int) (n k : Nat) (l f m : Int) (i : Nat) : Prop where
  good : Good t d s n k l f
  few : f ≤ 300
  all : (i : Int) + l + lateV s t.Cost d n k = m
theorem RestI.most (c : RestI t d s n k l f m i) (h : Sm t d n s) : (i : Int) + 1 ≤ m ∧ l ≤ 1000 := by
  have h1 := c.all
  have h2 := c.good.l1
  have h3 := (h.late k).1
  exact ⟨by omega, c.good.most h⟩
theorem RestI.goes (c : RestI t d s n k l f m i) (h : Sm t d n s) (st : Stp t d s n k l false f false k' l' b' f' ev) (he : ev ≠ 4) : RestI t d s n k' l' f' m (i + 1) ∧ b' = false := by
  obtain ⟨g, g1, g2⟩ := c.good.goes h st he
  have c1 := c.all
  have c2 := c.few
  cases st with
  | runs hl => exact ⟨⟨g, c2, by omega⟩, rfl⟩
  | fails hl hb ev hev => cases hb
  | done hl hb hk => exact absurd rfl he
  | passed hl hb hk => have := h.len_next hk; exact ⟨⟨g, c2, by omega⟩, rfl⟩
theorem RestI.ends (c : RestI t d s n k 1 f m i) (hk : n ≤ k + 1) : (i : Int) + 1 = m := by
  have c1 := c.all
  rw [late_none hk] at c1
  omega
end
end Go.Proofs.Ytbofpbochgoafaa
