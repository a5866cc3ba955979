/- A run of a small task, as plain numbers: how long a part is, what is behind it. -/
import Derived.Test.YtbofpbochgoafaaDn
import Derived.Test.YtbofpbochgoafaaPr
namespace Go.Proofs.Ytbofpbochgoafaa
open Go.RowKit

/-- A small task, and a demand of it, cut into n parts of s. -/
structure Sm (t : Tk) (d : Int) (n : Nat) (s : Int) : Prop where
  fine : Fine t
  ways : Ways t d n s
  dC : d ≤ t.C
  C : t.C ≤ 500
  A : t.A ≤ 500
  Cost : t.Cost ≤ 500
/-- There is such a part. -/
def IsPart (t : Tk) (n k : Nat) : Prop := k < n ∨ (t.Mode ≠ 1 ∧ k = 1)
/-- How long a part is. -/
def lenV (t : Tk) (s d : Int) (k : Nat) : Int := if t.Mode ≠ 1 ∧ k = 1 then t.A + t.Cost else pf s t.Cost d k
/-- What lies behind a part. -/
def lateV (s c d : Int) (n k : Nat) : Int := ((pl s c d n).drop (k + 1)).sum
section
variable {t : Tk} {d s : Int} {n k : Nat}
theorem late_none {c : Int} (h : n ≤ k + 1) : lateV s c d n k = 0 := by
  unfold lateV
  rw [List.drop_of_length_le (by rw [length_pl]; exact h)]; rfl
theorem take_pl {c : Int} (h : k ≤ n) : (pl s c d n).take k = pl s c d k := by
  unfold pl
  rw [← List.map_take, List.take_range, Nat.min_eq_left h]
theorem sum_cut {l : List Int} (k : Nat) : (l.take k).sum + (l.drop k).sum = l.sum := by
  rw [← List.sum_append, List.take_append_drop]
theorem late_next {c : Int} (h : k + 1 < n) : lateV s c d n k = pf s c d (k + 1) + lateV s c d n (k + 1) := by
  unfold lateV
  have h1 : k + 1 < (pl s c d n).length := by rw [length_pl]; exact h
  rw [List.drop_eq_getElem_cons h1, List.sum_cons]
  congr 1
  have h2 := pl_at (s := s) (c := c) (d := d) h
  rw [List.getElem?_eq_getElem h1] at h2
  exact Option.some.inj h2
theorem late_first {c : Int} (h : 0 < n) : (pl s c d n).sum = pf s c d 0 + lateV s c d n 0 := by
  unfold lateV
  have h1 : 0 < (pl s c d n).length := by rw [length_pl]; exact h
  have h0 : pl s c d n = (pl s c d n).drop 0 := rfl
  rw [h0, List.drop_eq_getElem_cons h1, List.sum_cons]
  congr 1
  have h2 := pl_at (s := s) (c := c) (d := d) h
  rw [List.getElem?_eq_getElem h1] at h2
  exact Option.some.inj h2
theorem Sm.nums (h : Sm t d n s) : 1 ≤ d ∧ d ≤ 500 ∧ 1 ≤ s ∧ s ≤ 500 ∧ 1 ≤ n ∧ n ≤ 500 ∧ 0 ≤ t.Cost := by
  have h1 := h.ways.pos
  have h2 := h.ways.long h.fine h.dC
  have h3 := h.ways.cuts.few
  have h4 := h.ways.cuts
  have h5 := h.dC
  have h6 := h.C
  have h7 := h.fine.nums.2.2.1
  refine ⟨h1, by omega, h4.2.1, by omega, h4.1, by omega, h7⟩
theorem Sm.sum (h : Sm t d n s) : d ≤ (pl s t.Cost d n).sum ∧ (pl s t.Cost d n).sum ≤ 250500 := by
  rw [h.ways.cuts.sum]
  obtain ⟨h1, h2, h3, h4, h5, h6, h7⟩ := h.nums
  have p0 : 0 ≤ (n : Int) * t.Cost := Int.mul_nonneg (by omega) h7
  have p1 : (n : Int) * t.Cost ≤ 500 * 500 := Int.mul_le_mul (by omega) h.Cost h7 (by omega)
  omega
theorem Sm.single (h : Sm t d n s) (hm : t.Mode ≠ 1) : n = 1 ∧ s = d := h.ways.whole hm
theorem Sm.len (h : Sm t d n s) (hk : IsPart t n k) : 1 ≤ lenV t s d k ∧ lenV t s d k ≤ 1000 := by
  obtain ⟨h1, h2, h3, h4, h5, h6, h7⟩ := h.nums
  have h8 := h.Cost
  have h9 := h.A
  unfold lenV
  by_cases hc : t.Mode ≠ 1 ∧ k = 1
  · rw [if_pos hc]
    rcases h.fine.again with ⟨m, _, _⟩ | ⟨_, m, _⟩
    · exact absurd m hc.1
    · omega
  · rw [if_neg hc]
    have hlt : k < n := by rcases hk with hk | hk
                           · exact hk
                           · exact absurd hk hc
    have a1 := h.ways.cuts.least (c := t.Cost) hlt
    have a2 := pf_most s t.Cost d k
    omega
theorem Sm.len_extra (h : Sm t d n s) (hb : t.Mode = 1 ∨ k = 1) : lenV t s d k ≤ extraV t := by
  unfold lenV extraV
  by_cases hm : t.Mode = 1
  · rw [if_neg (fun hc => hc.1 hm), if_pos hm]
    have := pf_most s t.Cost d k
    have := h.ways.retry hm
    omega
  · rw [if_pos ⟨hm, by omega⟩, if_neg hm]; omega
theorem len_first (hk : k = 0 ∨ t.Mode = 1) : lenV t s d k = pf s t.Cost d k := by
  unfold lenV
  rw [if_neg (fun hc => by rcases hk with hk | hk; omega; exact hc.1 hk)]
theorem Sm.late (h : Sm t d n s) (k : Nat) : 0 ≤ lateV s t.Cost d n k ∧ lateV s t.Cost d n k ≤ 250500 := by
  have hs := h.sum
  have hp : ∀ l : List Int, (∀ x ∈ l, 0 ≤ x) → 0 ≤ l.sum := fun l => by
    induction l with
    | nil => intro _; simp
    | cons x l ih => intro hx; rw [List.sum_cons]; have := hx x (by simp); have := ih (fun y hy => hx y (by simp [hy])); omega
  have hx : ∀ x ∈ pl s t.Cost d n, 0 ≤ x := fun x hx => by
    obtain ⟨i, hi⟩ := List.getElem?_of_mem hx
    have := pl_range h.fine h.ways hi
    omega
  have a1 := sum_cut (l := pl s t.Cost d n) (k + 1)
  have a2 := hp _ (fun x hx' => hx x (List.mem_of_mem_take hx') : ∀ x ∈ (pl s t.Cost d n).take (k + 1), 0 ≤ x)
  have a3 := hp _ (fun x hx' => hx x (List.mem_of_mem_drop hx') : ∀ x ∈ (pl s t.Cost d n).drop (k + 1), 0 ≤ x)
  unfold lateV
  omega
theorem Sm.extra (h : Sm t d n s) : 1 ≤ extraV t ∧ extraV t ≤ 1000 := by
  refine ⟨extra_pos h.fine, ?_⟩
  have h1 := h.A
  have h2 := h.Cost
  obtain ⟨_, _, h3, h4, _, _, _⟩ := h.nums
  unfold extraV
  by_cases hm : t.Mode = 1
  · rw [if_pos hm]
    have := h.ways.retry hm
    omega
  · rw [if_neg hm]; omega
theorem Sm.first (h : Sm t d n s) : IsPart t n 0 := .inl (by have := h.nums; omega)
/-- What of a task lies behind a part of Retry. -/
theorem Sm.mid (h : Sm t d n s) (hk : k + 1 < n) : s < d - (k : Int) * s := h.ways.cuts.full hk
theorem Sm.end_ (h : Sm t d n s) (hk : n = k + 1) : d - (k : Int) * s ≤ s := by
  have := h.ways.cuts.2.2.2
  rw [hk, show ((k + 1 : Nat) : Int) = (k : Int) + 1 by omega, Int.add_mul, Int.one_mul] at this
  omega
end
/-- The task that is left behind a part. -/
def left_ (t : Tk) (e : Int) : Tk := { t with C := e, Seg := if e < t.Seg then e else t.Seg }
section
variable {t : Tk} {d s : Int} {n k : Nat}
theorem Sm.rest (h : Sm t d n s) (hm : t.Mode = 1) (hk : k + 1 < n) :
    let e := d - (k : Int) * s - s
    Fine (left_ t e) ∧ Ways (left_ t e) e (n - (k + 1)) (left_ t e).Seg ∧ 1 ≤ e ∧ e ≤ 500 ∧ lateV s t.Cost d n k = e + ((n - (k + 1) : Nat) : Int) * t.Cost := by
  intro e
  have hs := h.ways.retry hm
  obtain ⟨h1, h2, h3, h4, h5, h6, h7⟩ := h.nums
  have hmid := h.mid hk
  have he : 1 ≤ e := by show 1 ≤ d - (k : Int) * s - s; omega
  have h0 : 0 ≤ (k : Int) * s := Int.mul_nonneg (by omega) (by omega)
  have he5 : e ≤ d - s := by show d - (k : Int) * s - s ≤ d - s; omega
  obtain ⟨m, hmn⟩ : ∃ m, n = k + 1 + m := ⟨n - (k + 1), by omega⟩
  have hcut := h.ways.cuts
  have hc : Cuts e s m := by
    obtain ⟨_, c2, c3, c4⟩ := hcut
    rw [hmn, show ((k + 1 + m : Nat) : Int) = (k : Int) + 1 + m by omega, Int.add_mul, Int.add_mul, Int.one_mul] at c3 c4
    refine ⟨by omega, c2, ?_, ?_⟩ <;> (show _ ; first | (show (m : Int) * s < d - (k : Int) * s - s + s; omega) | (show d - (k : Int) * s - s ≤ (m : Int) * s; omega))
  have hsub : n - (k + 1) = m := by omega
  rw [hsub]
  obtain ⟨f1, f2, f3, f4, f5, f6⟩ := h.fine.times
  have hA : t.A = 0 := by rcases h.fine.mode with ⟨_, _, _, x⟩ | ⟨x, _⟩ <;> omega
  have hseg : (left_ t e).Seg = if e < t.Seg then e else t.Seg := rfl
  have hseg1 : 1 ≤ (left_ t e).Seg ∧ (left_ t e).Seg ≤ e := by rw [hseg]; split <;> omega
  have hdC := h.dC
  refine ⟨⟨⟨he, by show e ≤ t.D; omega, f3, f4, f5, f6⟩, .inl ⟨hm, hseg1.1, hseg1.2, hA⟩⟩, ⟨?_, fun _ => rfl, fun hn => absurd hm hn⟩, he, by omega, ?_⟩
  · rw [hseg]
    by_cases hlt : e < t.Seg
    · rw [if_pos hlt]
      have : m = 1 := by
        have e1 : Cuts e s 1 := ⟨Nat.le_refl _, h3, by simp; omega, by simp; omega⟩
        exact hc.same e1
      rw [this]; exact cuts_one he
    · rw [if_neg hlt, ← hs]; exact hc
  · have a1 := sum_cut (l := pl s t.Cost d n) (k + 1)
    rw [take_pl (by omega), hcut.sum, sum_low (k + 1) (by rw [show ((k + 1 : Nat) : Int) = (k : Int) + 1 by omega, Int.add_mul, Int.one_mul]; omega) h3] at a1
    unfold lateV
    rw [hmn, show ((k + 1 + m : Nat) : Int) = (k : Int) + 1 + m by omega, Int.add_mul, Int.add_mul, Int.one_mul, show ((k + 1 : Nat) : Int) = (k : Int) + 1 by omega, Int.add_mul, Int.one_mul, Int.mul_add] at a1
    rw [hmn]
    show _ = d - (k : Int) * s - s + (m : Int) * t.Cost
    omega
/-- The first parts' sum. -/
def uptoV (s c d : Int) (n k : Nat) : Int := ((pl s c d n).take k).sum
end
end Go.Proofs.Ytbofpbochgoafaa
