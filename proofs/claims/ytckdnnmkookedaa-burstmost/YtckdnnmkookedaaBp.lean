/- What follows of bursts: which faults begin one; how many can strike; how many faults they have. -/
import Derived.Test.YtckdnnmkookedaaRt
namespace Go.Proofs.Ytckdnnmkookedaa
set_option linter.unusedVariables false

theorem starts_split (b : Int) (l : List Int) (k : Nat) : startsF b l = startsF b (l.take k) ++ goS b (lastO none (startsF b (l.take k))) (l.drop k) := by
  have := goS_app b (l.take k) (l.drop k) none
  rw [List.take_append_drop] at this
  exact this
theorem drop_at {l : List Int} {i : Nat} {x : Int} (h : l[i]? = some x) : l.drop i = x :: l.drop (i + 1) := by
  have hlt := (List.getElem?_eq_some_iff.1 h).1
  rw [List.drop_eq_getElem_cons hlt]
  have := (List.getElem?_eq_some_iff.1 h).2
  rw [this]
/-- A fault that begins a burst stands where the beginnings so far end. -/
theorem parts_opens {b : Int} {l : List Int} {i : Nat} {x : Int} (h : l[i]? = some x) (ho : opensB b (lastO none (startsF b (l.take i))) x = true) : (startsF b l)[(startsF b (l.take i)).length]? = some x := by
  rw [starts_split b l i, drop_at h, List.getElem?_append_right (Nat.le_refl _), Nat.sub_self]
  simp only [goS]
  rw [if_pos ho]
  rfl
/-- One that doesn't, isn't there. -/
theorem parts_shut {b : Int} {l : List Int} (hg : Good l) {i : Nat} {x : Int} (h : l[i]? = some x) (ho : opensB b (lastO none (startsF b (l.take i))) x = false) :
    ∀ z, (startsF b l)[(startsF b (l.take i)).length]? = some z → x < z := by
  intro z hz
  rw [starts_split b l i, drop_at h, List.getElem?_append_right (Nat.le_refl _), Nat.sub_self] at hz
  simp only [goS] at hz
  rw [if_neg (by rw [ho]; simp)] at hz
  have hm := goS_sub _ _ _ _ (List.mem_of_getElem? hz)
  have hp := hg.2.sublist (List.drop_sublist i l)
  rw [drop_at h] at hp
  exact (List.pairwise_cons.1 hp).1 z hm
/-- The last beginning so far. -/
theorem parts_last {b : Int} {l : List Int} {i : Nat} (h : 0 < (startsF b (l.take i)).length) : lastO none (startsF b (l.take i)) = (startsF b l)[(startsF b (l.take i)).length - 1]? := by
  rw [lastO_at _ _ h]
  conv => rhs; rw [starts_split b l i]
  rw [List.getElem?_append_left (by omega)]
theorem parts_len (b : Int) (l : List Int) (i : Nat) : (startsF b (l.take i)).length ≤ (startsF b l).length := by
  rw [starts_split b l i, List.length_append]; omega
theorem goS_none {b s : Int} : ∀ {t : List Int}, (∀ x ∈ t, x - s < b) → goS b (some s) t = []
  | [], _ => rfl
  | x :: t, h => by
    have := h x List.mem_cons_self
    simp only [goS]
    rw [if_neg (show ¬ opensB b (some s) x = true by simp [opensB]; omega)]
    exact goS_none (fun y hy => h y (List.mem_cons_of_mem _ hy))
/-- Faults that all lie within the length are one burst. -/
theorem one_burst {b : Int} {l : List Int} (hg : Good l) {x y : Int} (hx : l[0]? = some x) (hy : l[l.length - 1]? = some y) (h : y - x < b) : (startsF b l).length = 1 := by
  cases l with
  | nil => simp at hx
  | cons z t =>
    obtain rfl : z = x := by simpa using hx
    unfold startsF
    simp only [goS]
    rw [if_pos (show opensB b none z = true from rfl), goS_none]
    · rfl
    · intro w hw
      have hle : w ≤ y := by
        obtain ⟨j, hj⟩ := List.getElem?_of_mem hw
        have hjlt := (List.getElem?_eq_some_iff.1 hj).1
        have hj' : (z :: t)[j + 1]? = some w := by simpa using hj
        rcases Nat.lt_or_ge (j + 1) ((z :: t).length - 1) with hlt | hge
        · have hp := List.pairwise_iff_getElem.1 hg.2 (j + 1) ((z :: t).length - 1) (by simp; omega) (by simp) hlt
          have e1 := (List.getElem?_eq_some_iff.1 hj').2
          have e2 := (List.getElem?_eq_some_iff.1 hy).2
          rw [e1, e2] at hp
          omega
        · have : j + 1 = (z :: t).length - 1 := by simp at hge ⊢; omega
          rw [this, hy] at hj'
          have := Option.some.inj hj'
          omega
      omega
end Go.Proofs.Ytckdnnmkookedaa
