/- What follows of a right set; places of a task. -/
import Derived.Test.YtklnokhabomnfaaRr
namespace Go.Proofs.Ytklnokhabomnfaa

structure Good (b : Int) (l : List Tk) : Prop where
  b0 : 1 ≤ b
  b1 : b ≤ 1000
  n0 : 1 ≤ l.length
  n1 : l.length ≤ 16
  fine : ∀ t ∈ l, Fine t
  dist : Dist l
  prio : ∀ t ∈ l, 0 ≤ t.Prio ∧ t.Prio ≤ 255
theorem prio_of {e : List Tk} {t : Tk} (h : bad1 e t = 0) : (0 ≤ t.Prio ∧ t.Prio ≤ 255) ∧ ∀ x ∈ e, x.Prio ≠ t.Prio := by
  obtain ⟨_, _, _, _, h5⟩ := bad1_zero h
  unfold bPrio prioIn hasPrio at h5
  simp only [Bool.or_eq_false_iff, Bool.not_eq_false', Bool.and_eq_true, decide_eq_true_eq, List.any_eq_false] at h5
  exact ⟨h5.1, fun x hx => h5.2 x hx⟩
theorem good_of {b : Int} {l : List Tk} (h : (whyF b l).1 = 0) : Good b l := by
  obtain ⟨⟨h0, h1⟩, ⟨h2, h3⟩, h4⟩ := (right_iff b l).1 h
  have far : ∀ (i j : Nat) (t u : Tk), l[i]? = some t → l[j]? = some u → i < j → t.Prio ≠ u.Prio := fun i j t u hi hj hij =>
    (prio_of (h4 j u hj)).2 t (List.mem_of_getElem? (i := i) (by rw [List.getElem?_take, if_pos hij]; exact hi))
  refine ⟨h0, h1, h2, h3, fun t ht => ?_, fun i j t u hi hj he => ?_, fun t ht => ?_⟩
  · obtain ⟨i, hi⟩ := List.getElem?_of_mem ht
    exact fine_of (h4 i t hi)
  · rcases Nat.lt_trichotomy i j with hlt | heq | hgt
    · exact absurd he (far i j t u hi hj hlt)
    · exact heq
    · exact absurd he.symm (far j i u t hj hi hgt)
  · obtain ⟨i, hi⟩ := List.getElem?_of_mem ht
    exact (prio_of (h4 i t hi)).1
theorem place_of {i : Int} {n : Nat} (hn : 1 ≤ n) : ∃ k : Nat, k < n ∧ i % (n : Int) = (k : Int) := by
  have h1 := Int.emod_nonneg i (show (n : Int) ≠ 0 by omega)
  have h2 := Int.emod_lt_of_pos i (show (0 : Int) < n by omega)
  exact ⟨(i % (n : Int)).toNat, by omega, by omega⟩
theorem gap_of (g : Int) : 1 ≤ 1 + g % 1049576 ∧ 1 + g % 1049576 ≤ 1049576 := by
  have h1 := Int.emod_nonneg g (show (1049576 : Int) ≠ 0 by omega)
  have h2 := Int.emod_lt_of_pos g (show (0 : Int) < 1049576 by omega)
  omega
end Go.Proofs.Ytklnokhabomnfaa
