/- How the last jobs went, as functions of lists: how many were met, how many misses there may be yet, the last so many. -/
import Derived.Test.YthdjflmligoelaaMem
namespace Go.Proofs.Ythdjflmligoelaa
open Go.RowKit

/-- How many were met. -/
def mets : List Bool → Nat
  | [] => 0
  | b :: l => (if b then 1 else 0) + mets l
/-- How many misses there may be, one behind the other, till fewer than m are left. -/
def dist (m : Nat) : List Bool → Nat
  | [] => 0
  | b :: l => if m ≤ mets (b :: l) then 1 + dist m l else 0
/-- The last n of l, ahead of which all were met. -/
def lst (n : Nat) (l : List Bool) : List Bool := (List.replicate n true ++ l).drop l.length

theorem mets_app (a b : List Bool) : mets (a ++ b) = mets a + mets b := by
  induction a with
  | nil => simp [mets]
  | cons x a ih => simp only [List.cons_append, mets, ih]; omega
theorem mets_le (l : List Bool) : mets l ≤ l.length := by
  induction l with
  | nil => simp [mets]
  | cons x a ih => simp only [List.length_cons, mets]; split <;> omega
theorem mets_all (n : Nat) : mets (List.replicate n true) = n := by
  induction n with
  | zero => rfl
  | succ n ih => rw [List.replicate_succ, mets, ih]; simp; omega
theorem mets_none (n : Nat) : mets (List.replicate n false) = 0 := by
  induction n with
  | zero => rfl
  | succ n ih => rw [List.replicate_succ, mets, ih]; simp
theorem mets_at {l : List Bool} {k : Nat} {b : Bool} (h : l[k]? = some b) : mets (l.take (k + 1)) = mets (l.take k) + (if b then 1 else 0) ∧ mets (l.drop k) = (if b then 1 else 0) + mets (l.drop (k + 1)) := by
  have hk := (List.getElem?_eq_some_iff.1 h).1
  have hb : l[k] = b := (List.getElem?_eq_some_iff.1 h).2
  refine ⟨?_, ?_⟩
  · rw [List.take_add_one, h, mets_app]; simp [mets]
  · rw [List.drop_eq_getElem_cons hk, mets, hb]
theorem mets_drop_le (l : List Bool) (j : Nat) : mets (l.drop j) ≤ mets l := by
  have := mets_app (l.take j) (l.drop j)
  rw [List.take_append_drop] at this
  omega
/-- Behind just so many misses fewer than m are left. -/
theorem dist_iff {m : Nat} (m1 : 1 ≤ m) (l : List Bool) (j : Nat) : m ≤ mets (l.drop j) ↔ j < dist m l := by
  induction l generalizing j with
  | nil => simp [mets, dist]; omega
  | cons x l ih =>
    cases j with
    | zero => rw [List.drop_zero, dist]; split <;> omega
    | succ j =>
      rw [List.drop_succ_cons, ih j, dist]
      split
      · omega
      · rename_i h
        refine ⟨fun hj => ?_, fun hj => by omega⟩
        have h1 := (ih j).2 hj
        have h2 := mets_drop_le l j
        have h3 : mets l ≤ mets (x :: l) := by simp only [mets]; omega
        omega
theorem dist_zero {m : Nat} (m1 : 1 ≤ m) {l : List Bool} (h : mets l < m) : dist m l = 0 := by
  have := dist_iff m1 l 0
  rw [List.drop_zero] at this
  omega
theorem dist_pos {m : Nat} (m1 : 1 ≤ m) {l : List Bool} (h : m ≤ mets l) : 0 < dist m l := by
  have := dist_iff m1 l 0
  rw [List.drop_zero] at this
  omega
theorem dist_fails {m : Nat} (m1 : 1 ≤ m) (l : List Bool) : mets l < m ↔ dist m l = 0 := by
  have := dist_iff m1 l 0
  rw [List.drop_zero] at this
  omega
theorem dist_at {m j : Nat} (m1 : 1 ≤ m) {l : List Bool} (h1 : mets (l.drop (j + 1)) < m) (h2 : m ≤ mets (l.drop j)) : dist m l = j + 1 := by
  have := (dist_iff m1 l j).1 h2
  have h := dist_iff m1 l (j + 1)
  omega
theorem dist_miss {m : Nat} (m1 : 1 ≤ m) (l : List Bool) : dist m (l ++ [false]) = dist m l := by
  induction l with
  | nil => simp [dist, mets]; omega
  | cons x l ih =>
    have e : mets (x :: (l ++ [false])) = mets (x :: l) := by simp only [mets, mets_app]; simp
    rw [List.cons_append, dist, dist, ih, e]
theorem dist_more {m : Nat} (m1 : 1 ≤ m) (l : List Bool) (b : Bool) : dist m l ≤ dist m (l ++ [b]) := by
  rcases Nat.lt_or_ge 0 (dist m l) with h | h
  · have h1 := (dist_iff m1 l (dist m l - 1)).2 (by omega)
    have h2 : dist m l - 1 < l.length := by
      rcases Nat.lt_or_ge (dist m l - 1) l.length with h | h
      · exact h
      · rw [List.drop_eq_nil_of_le h, mets] at h1; omega
    have h3 : m ≤ mets ((l ++ [b]).drop (dist m l - 1)) := by
      rw [List.drop_append_of_le_length (by omega), mets_app]; omega
    have := (dist_iff m1 _ _).1 h3
    omega
  · omega
/-- Behind a miss: one less. -/
theorem dist_behind {m : Nat} (x : Bool) (l : List Bool) (h : 0 < dist m (x :: l)) : dist m (x :: l) = dist m l + 1 := by
  rw [dist] at h ⊢
  split
  · omega
  · rename_i hn; rw [if_neg hn] at h; omega
theorem dist_bound {m : Nat} (l : List Bool) (h : m ≤ l.length + 1) : dist m l + m ≤ l.length + 1 := by
  induction l with
  | nil => simp [dist] at h ⊢; exact h
  | cons x l ih =>
    rw [dist]
    have hm := mets_le (x :: l)
    rw [List.length_cons] at h hm ⊢
    split
    · have := ih (by omega); omega
    · omega
theorem dist_full {m n : Nat} (m1 : 1 ≤ m) (h : m ≤ n + 1) : dist m (List.replicate n true) + m = n + 1 := by
  induction n with
  | zero => simp [dist]; omega
  | succ n ih =>
    rw [List.replicate_succ, dist, ← List.replicate_succ, mets_all]
    split
    · have := ih (by omega); omega
    · omega
theorem dist_less {m : Nat} (m1 : 1 ≤ m) (l : List Bool) : dist (m + 1) l ≤ dist m l := by
  rcases Nat.lt_or_ge 0 (dist (m + 1) l) with h | h
  · have h1 := (dist_iff (show 1 ≤ m + 1 by omega) l (dist (m + 1) l - 1)).2 (by omega)
    have := (dist_iff m1 l (dist (m + 1) l - 1)).1 (by omega)
    omega
  · omega
theorem dist_length {m : Nat} (m1 : 1 ≤ m) (l : List Bool) : dist m l ≤ l.length := by
  rcases Nat.lt_or_ge l.length (dist m l) with h | h
  · have h1 := (dist_iff m1 l l.length).2 h
    rw [List.drop_length, mets] at h1; omega
  · exact h

theorem length_lst (n : Nat) (l : List Bool) : (lst n l).length = n := by unfold lst; simp
theorem lst_nil (n : Nat) : lst n [] = List.replicate n true := by unfold lst; simp
theorem lst_snoc {n : Nat} (h : 1 ≤ n) (l : List Bool) (b : Bool) : lst n (l ++ [b]) = (lst n l).drop 1 ++ [b] := by
  unfold lst
  rw [List.drop_drop, ← List.append_assoc, List.length_append, List.length_singleton, List.drop_append_of_le_length (by simp; omega)]
theorem lst_take {n k : Nat} {l : List Bool} {b : Bool} (h : 1 ≤ n) (hb : l[k]? = some b) : lst n (l.take (k + 1)) = (lst n (l.take k)).drop 1 ++ [b] := by
  rw [← lst_snoc h, List.take_add_one, hb]; rfl
theorem lst_misses {n j : Nat} (h : j ≤ n) (l : List Bool) : mets (lst n (l ++ List.replicate j false)) = mets ((lst n l).drop j) := by
  unfold lst
  rw [List.drop_drop, ← List.append_assoc, List.length_append, List.length_replicate, List.drop_append_of_le_length (by simp; omega), mets_app, mets_none]; omega
theorem replicate_snoc {α : Type} (n : Nat) (a : α) : List.replicate n a ++ [a] = List.replicate (n + 1) a := by rw [List.replicate_succ']
end Go.Proofs.Ythdjflmligoelaa
