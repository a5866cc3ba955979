/- What follows of a right set: its beginnings, its tasks by themselves, at the limits. -/
import Derived.Test.YtkldpbehjbecnaaSp
namespace Go.Proofs.Ytkldpbehjbecnaa

theorem whyG_upto (L : List Tk) : ∀ k, k ≤ L.length → (∀ i t, i < k → L[i]? = some t → bad1 (L.take i) t = 0) → whyG [] L = whyG (L.take k) (L.drop k) := by
  intro k
  induction k with
  | zero => intro _ _; rfl
  | succ k ih =>
    intro hk h
    have hx : L[k]? = some (L[k]'(by omega)) := List.getElem?_eq_getElem _
    rw [ih (by omega) (fun i t hi => h i t (by omega)), whyG_next hx (h k _ (by omega) hx)]
section
variable {b : Int} {l : List Tk}
theorem parts_right (h : (whyF b l).1 = 0) {k : Nat} (h1 : 1 ≤ k) (hk : k ≤ l.length) : (whyF b (l.take k)).1 = 0 := by
  obtain ⟨hb, hl, ha⟩ := (right_iff b l).1 h
  refine (right_iff _ _).2 ⟨hb, by rw [List.length_take]; omega, fun i t hi => ?_⟩
  rw [List.getElem?_take] at hi
  split at hi
  · rename_i hik
    rw [List.take_take, Nat.min_eq_left (by omega)]
    exact ha i t hi
  · cases hi
theorem parts_burst : whyF 0 l = (1, -1) := whyF_burst (by omega)
theorem twice_many (h : (whyF b l).1 = 0) {t : Tk} (hk : 16 ≤ l.length) : whyF b (l.take 16 ++ [t]) = (2, -1) :=
  whyF_count ((right_iff b l).1 h).1 (by simp; omega)
theorem twice_name (h : (whyF b l).1 = 0) {k : Nat} (h1 : 1 ≤ k) (hk : k ≤ l.length) (hk16 : k < 16) {t : Tk} (ht : l[k - 1]? = some t) : whyF b (l.take k ++ [t]) = (3, (k : Int)) := by
  obtain ⟨hb, hl, ha⟩ := (right_iff b l).1 h
  have hlen : (l.take k).length = k := by rw [List.length_take]; omega
  rw [whyF_go hb (by simp; omega), whyG_upto _ k (by simp; omega) (fun i x hi hx => ?_), whyG_stop (t := t) (by rw [List.getElem?_append_right (by omega), hlen]; simp) ?_]
  · rw [bad1_name ?_]
    rw [List.take_left' hlen]
    unfold bName hasName
    rw [List.any_eq_true.2 ⟨t, List.mem_of_getElem? (i := k - 1) (by rw [List.getElem?_take, if_pos (by omega)]; exact ht), by simp⟩]
    simp
  · rw [bad1_name ?_]
    · decide
    · rw [List.take_left' hlen]
      unfold bName hasName
      rw [List.any_eq_true.2 ⟨t, List.mem_of_getElem? (i := k - 1) (by rw [List.getElem?_take, if_pos (by omega)]; exact ht), by simp⟩]
      simp
  · rw [List.getElem?_append_left (by omega), List.getElem?_take, if_pos hi] at hx
    rw [List.take_append_of_le_length (by omega), List.take_take, Nat.min_eq_left (by omega)]
    exact ha i x hx

/-- Of whatever earlier ones a task is right by itself, too. -/
theorem alone (h : (whyF b l).1 = 0) {i : Nat} {t : Tk} (ht : l[i]? = some t) : nm t.name = true ∧ bTimes t = false ∧ bMode t = false ∧ bFirm t = false ∧ prioIn t = true := by
  have := bad1_zero (((right_iff b l).1 h).2.2 i t ht)
  obtain ⟨h1, h2, h3, h4, h5⟩ := this
  unfold bName at h1
  unfold bPrio at h5
  simp only [Bool.or_eq_false_iff, Bool.not_eq_false'] at h1 h5
  exact ⟨h1.1, h2, h3, h4, h5.1⟩
theorem bad1_alone (t : Tk) : bad1 [] t = if nm t.name then (if bTimes t then 4 else if bMode t then 5 else if bFirm t then 6 else if prioIn t then 0 else 7) else 3 := by
  unfold bad1 bName bPrio hasName hasPrio
  cases h1 : nm t.name <;> cases h5 : prioIn t <;> simp
theorem whyF_one {b : Int} (hb : 1 ≤ b ∧ b ≤ 1000) (t : Tk) : (whyF b [t]).1 = bad1 [] t := by
  rw [whyF_go hb (by simp)]
  unfold whyG
  by_cases h : bad1 [] t = 0
  · rw [if_pos h, h]; rfl
  · rw [if_neg h]
theorem whyF_two {b : Int} (hb : 1 ≤ b ∧ b ≤ 1000) (t u : Tk) (h : bad1 [] t = 0) : whyF b [t, u] = if bad1 [t] u = 0 then (0, -1) else (bad1 [t] u, 1) := by
  rw [whyF_go hb (by simp)]
  unfold whyG
  rw [if_pos h]
  show whyG [t] [u] = _
  unfold whyG
  by_cases h2 : bad1 [t] u = 0
  · rw [if_pos h2, if_pos h2]; rfl
  · rw [if_neg h2, if_neg h2]; rfl
end
end Go.Proofs.Ytkldpbehjbecnaa
