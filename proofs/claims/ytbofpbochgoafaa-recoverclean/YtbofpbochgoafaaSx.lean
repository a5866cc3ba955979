/- A tick of a run, whichever; what each statement counts of it. -/
import Derived.Test.YtbofpbochgoafaaRs
namespace Go.Proofs.Ytbofpbochgoafaa
open Go.RowKit

/-- What a tick makes of a run, and what it comes to. -/
inductive Stp (t : Tk) (d s : Int) (n k : Nat) (l : Int) (b : Bool) (f : Int) (q : Bool) : Nat → Int → Bool → Int → Int → Prop where
  | runs (h : 1 < l) : Stp t d s n k l b f q k (l - 1) (b || q) f 0
  | fails (h : l = 1) (hb : (b || q) = true) (ev : Int) (hev : ev = 2 ∨ ev = 3) : Stp t d s n k l b f q (backK t k) (lenV t s d (backK t k)) false (f + 1) ev
  | done (h : l = 1) (hb : (b || q) = false) (hk : n ≤ k + 1) : Stp t d s n k l b f q k 0 false f 4
  | passed (h : l = 1) (hb : (b || q) = false) (hk : k + 1 < n) : Stp t d s n k l b f q (k + 1) (lenV t s d (k + 1)) false f 1
/-- It answers a run and what the tick came to. -/
def Stepped (t : Tk) (d s : Int) (n k : Nat) (l : Int) (b : Bool) (f : Int) (q : Bool) (w : World) (e : Ending) (w' : World) : Prop :=
  ∃ k' l' b' f' ev, e = .returned (.tuple #[aggR t d (k' : Nat) l' b' f', .int .i64 ev]) ∧ Below w.heap.size w w' ∧ Stp t d s n k l b f q k' l' b' f' ev
theorem step {t : Tk} {d s l f : Int} {n k : Nat} {b : Bool} (q : Bool) (h : Sm t d n s) (hk : IsPart t n k) (l1 : 1 ≤ l) (l2 : l ≤ 1000) (f0 : 0 ≤ f) (f1 : f ≤ 1000000000) (w : World) :
    Calls Try.prog 10 #[aggR t d (k : Int) l b f, .bool q] w (Stepped t d s n k l b f q w) := by
  by_cases hl : 1 < l
  · exact (step_runs q hl l2 w).mono (fun e w' ⟨he, hb⟩ => ⟨k, _, _, _, _, he, hb, .runs hl⟩)
  · have hl : l = 1 := by omega
    subst hl
    cases hq : (b || q) with
    | true =>
      refine (step_fails q hq h hk f0 f1 w).mono (fun e w' ⟨he, hb⟩ => ⟨backK t k, _, _, _, _, he, hb, .fails rfl hq _ ?_⟩)
      unfold evV; split
      · exact .inr rfl
      · exact .inl rfl
    | false =>
      have hb : b = false := by cases b <;> simp_all
      have hq' : q = false := by cases q <;> simp_all
      subst hb hq'
      by_cases hn : n ≤ k + 1
      · exact (step_done h hk hn w).mono (fun e w' ⟨he, hb⟩ => ⟨k, _, _, _, _, he, hb, .done rfl rfl hn⟩)
      · refine (step_passed h (by omega) w).mono (fun e w' ⟨he, hb⟩ => ⟨k + 1, _, _, _, _, ?_, hb, .passed rfl rfl (by omega)⟩)
        rw [he]; rfl
section
variable {t : Tk} {d s l f l' f' ev : Int} {n k k' : Nat} {b b' q : Bool}
theorem Sm.many (h : Sm t d n s) (hk : k + 1 < n) : t.Mode = 1 := by
  by_cases hm : t.Mode = 1
  · exact hm
  · have := (h.single hm).1; omega
theorem Sm.len_next (h : Sm t d n s) (hk : k + 1 < n) : lenV t s d (k + 1) + lateV s t.Cost d n (k + 1) = lateV s t.Cost d n k := by
  rw [len_first (.inr (h.many hk)), late_next hk]
theorem Sm.len_back (h : Sm t d n s) (k : Nat) : lenV t s d (backK t k) + lateV s t.Cost d n (backK t k) ≤ extraV t + lateV s t.Cost d n k := by
  have hlate := (h.late k).1
  by_cases hm : t.Mode = 1
  · have e1 : backK t k = k := if_pos hm
    rw [e1]
    have := h.len_extra (k := k) (.inl hm)
    omega
  · have e1 : backK t k = 1 := if_neg hm
    rw [e1]
    have := h.len_extra (k := 1) (.inr rfl)
    have hn := (h.single hm).1
    have h0 : lateV s t.Cost d n 1 = 0 := late_none (by omega)
    omega
/-- What a run that goes on is. -/
structure Good (t : Tk) (d s : Int) (n k : Nat) (l f : Int) : Prop where
  part : IsPart t n k
  l1 : 1 ≤ l
  l2 : l ≤ lenV t s d k
  f0 : 0 ≤ f
theorem Good.first (h : Sm t d n s) : Good t d s n 0 (lenV t s d 0) 0 := ⟨h.first, (h.len h.first).1, Int.le_refl _, Int.le_refl _⟩
theorem Good.most (g : Good t d s n k l f) (h : Sm t d n s) : l ≤ 1000 := Int.le_trans g.l2 (h.len g.part).2
theorem Good.goes (g : Good t d s n k l f) (h : Sm t d n s) (st : Stp t d s n k l b f q k' l' b' f' ev) (he : ev ≠ 4) : Good t d s n k' l' f' ∧ f ≤ f' ∧ f' ≤ f + 1 := by
  cases st with
  | runs hl => exact ⟨⟨g.part, by omega, by have := g.l2; omega, g.f0⟩, by omega, by omega⟩
  | fails hl hb ev hev =>
    have hp := back_part g.part
    exact ⟨⟨hp, (h.len hp).1, Int.le_refl _, by have := g.f0; omega⟩, by omega, by omega⟩
  | done hl hb hk => exact absurd rfl he
  | passed hl hb hk =>
    have hp : IsPart t n (k + 1) := .inl hk
    exact ⟨⟨hp, (h.len hp).1, Int.le_refl _, g.f0⟩, by omega, by omega⟩

/-- What RecoverCost counts: i ticks, j of them struck. -/
structure CostI (t : Tk) (d s : Int) (n N k : Nat) (l : Int) (b : Bool) (f : Int) (i : Nat) (j : Int) : Prop where
  good : Good t d s n k l f
  fj : f + (if b then 1 else 0) ≤ j
  ji : j ≤ i
  jN : j ≤ N
  le : (i : Int) + l + lateV s t.Cost d n k ≤ (pl s t.Cost d n).sum + f * extraV t
  eq : f = 0 → (i : Int) + l + lateV s t.Cost d n k = (pl s t.Cost d n).sum
theorem Sm.sum_first (h : Sm t d n s) : (pl s t.Cost d n).sum = lenV t s d 0 + lateV s t.Cost d n 0 := by
  rw [len_first (.inl rfl)]
  exact late_first (by have := h.nums; omega)
theorem CostI.first (h : Sm t d n s) (N : Nat) : CostI t d s n N 0 (lenV t s d 0) false 0 0 0 := by
  have hs := h.sum_first
  refine ⟨Good.first h, by simp, by simp, by simp, ?_, fun _ => ?_⟩
  · rw [hs, Int.zero_mul]; simp
  · rw [hs]; simp
variable {N i : Nat} {j : Int}
theorem CostI.few (c : CostI t d s n N k l b f i j) (h : Sm t d n s) (hN : N ≤ 300) : (i : Int) ≤ 550500 ∧ f ≤ 300 ∧ 0 ≤ j ∧ 0 ≤ f * extraV t ∧ f * extraV t ≤ 300 * 1000 := by
  have h1 := c.good.f0
  have h2 := c.fj
  have h3 := c.jN
  have h4 := c.le
  have h5 := c.good.l1
  have h6 := h.late k
  have h7 := h.sum
  obtain ⟨e1, e2⟩ := h.extra
  have hf : f ≤ 300 := by
    have : (0 : Int) ≤ if b then 1 else 0 := by cases b <;> simp
    omega
  have p0 : 0 ≤ f * extraV t := Int.mul_nonneg h1 (by omega)
  have p1 : f * extraV t ≤ 300 * 1000 := Int.mul_le_mul hf e2 (by omega) (by omega)
  have hj : 0 ≤ j := by
    have : (0 : Int) ≤ if b then 1 else 0 := by cases b <;> simp
    omega
  exact ⟨by omega, hf, hj, p0, p1⟩
theorem CostI.goes (c : CostI t d s n N k l b f i j) (h : Sm t d n s) (hq : q = true → i < N) (st : Stp t d s n k l b f q k' l' b' f' ev) (he : ev ≠ 4) :
    CostI t d s n N k' l' b' f' (i + 1) (if q then j + 1 else j) := by
  obtain ⟨g', g1, g2⟩ := c.good.goes h st he
  have c1 := c.fj
  have c2 := c.ji
  have c3 := c.jN
  have c4 := c.le
  have c5 := c.eq
  have hj2 : (if q then j + 1 else j) ≤ ((i + 1 : Nat) : Int) := by cases q <;> simp <;> omega
  have hj3 : (if q then j + 1 else j) ≤ (N : Int) := by
    cases q with
    | true => have := hq rfl; simp; omega
    | false => simpa using c3
  refine ⟨g', ?_, hj2, hj3, ?_, ?_⟩
  · cases st with
    | runs hl => cases b <;> cases q <;> simp at c1 ⊢ <;> omega
    | fails hl hb ev hev => cases b <;> cases q <;> simp at c1 hb ⊢ <;> omega
    | done hl hb hk => exact absurd rfl he
    | passed hl hb hk => cases b <;> cases q <;> simp at c1 hb ⊢ <;> omega
  · cases st with
    | runs hl => omega
    | fails hl hb ev hev =>
      have := h.len_back k
      rw [Int.add_mul, Int.one_mul]
      omega
    | done hl hb hk => exact absurd rfl he
    | passed hl hb hk =>
      have := h.len_next hk
      omega
  · intro hf
    cases st with
    | runs hl => have := c5 hf; omega
    | fails hl hb ev hev => have := c.good.f0; omega
    | done hl hb hk => exact absurd rfl he
    | passed hl hb hk =>
      have := h.len_next hk
      have := c5 hf
      omega
theorem CostI.ends (c : CostI t d s n N k 1 false f i j) (hk : n ≤ k + 1) :
    f ≤ j ∧ ((i : Int) + 1 ≤ (pl s t.Cost d n).sum + f * extraV t) ∧ (f = 0 → (i : Int) + 1 = (pl s t.Cost d n).sum) := by
  have c1 := c.fj
  have c4 := c.le
  have c5 := c.eq
  rw [late_none hk] at c4 c5
  refine ⟨by simpa using c1, by omega, fun hf => by have := c5 hf; omega⟩
end
end Go.Proofs.Ytbofpbochgoafaa
