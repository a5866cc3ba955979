/- In any ticks no more bursts have a fault than are told, and no more faults are than the length times that. -/
import Derived.Test.YtckdnnmkookedaaBp
namespace Go.Proofs.Ytckdnnmkookedaa
set_option linter.unusedVariables false

/-- Can a burst that begins at s have a fault from a on, below z? -/
def hitB (n a z s : Int) : Bool := decide (a < s + n ∧ s < z ∧ a < z)
theorem apart_pair {g : Int} (hg : 0 ≤ g) : ∀ {l : List Int}, Apart g l → l.Pairwise (fun x y => g ≤ y - x)
  | [], _ => List.Pairwise.nil
  | [x], _ => by simp
  | x :: y :: t, h => by
    have ih := apart_pair hg h.2
    refine List.pairwise_cons.2 ⟨fun z hz => ?_, ih⟩
    have h1 := h.1
    rcases List.mem_cons.1 hz with rfl | hz
    · exact h1
    · have := (List.pairwise_cons.1 ih).1 z hz
      omega
/-- So many of a list lie in a range, if each is g or more behind the one ahead. -/
theorem count_range {g : Int} (hg : 0 ≤ g) {P : Int → Bool} : ∀ (l : List Int) (u v : Int), (∀ x ∈ l, P x = true → u ≤ x ∧ x ≤ v) → l.Pairwise (fun x y => g ≤ y - x) → 0 < l.countP P → ((l.countP P : Int) - 1) * g ≤ v - u
  | [], u, v, _, _, h => by simp at h
  | x :: t, u, v, hr, hp, h => by
    rw [List.countP_cons] at h ⊢
    obtain ⟨h1, h2⟩ := List.pairwise_cons.1 hp
    by_cases hx : P x = true
    · rw [if_pos hx] at h ⊢
      obtain ⟨hux, hxv⟩ := hr x List.mem_cons_self hx
      rcases Nat.eq_zero_or_pos (t.countP P) with h0 | h0
      · rw [h0]
        simp
        omega
      · have := count_range hg t (u + g) v (fun y hy hPy => ⟨by have := h1 y hy; omega, (hr y (List.mem_cons_of_mem _ hy) hPy).2⟩) h2 h0
        have e : (((t.countP P + 1 : Nat) : Int) - 1) * g = ((t.countP P : Int) - 1) * g + g := by
          rw [show ((t.countP P + 1 : Nat) : Int) - 1 = ((t.countP P : Int) - 1) + 1 by omega, Int.add_mul, Int.one_mul]
        rw [e]
        omega
    · rw [if_neg hx, Nat.add_zero] at h ⊢
      exact count_range hg t u v (fun y hy => hr y (List.mem_cons_of_mem _ hy)) h2 h
/-- No more bursts have a fault than are told. -/
theorem hits_most {l : List Int} {n a z g : Int} (h1 : Apart g l) (hn : 1 ≤ n) (hg : 1 ≤ g) (hz : a ≤ z) : ((l.countP (hitB n a z) : Nat) : Int) ≤ mostF (z - a) n g := by
  rcases Nat.eq_zero_or_pos (l.countP (hitB n a z)) with h0 | h0
  · rw [h0]
    exact mostF_nonneg (by omega) hn hg
  · have haz : a < z := by
      obtain ⟨x, hx, hP⟩ := List.countP_pos_iff.1 h0
      simp [hitB] at hP
      omega
    have := count_range (g := g) (by omega) l (a - n + 1) (z - 1) (fun x _ hP => by simp [hitB] at hP; omega) (apart_pair (by omega) h1) h0
    rw [mostF_pos (by omega)]
    have h2 : ((l.countP (hitB n a z) : Int) - 1) ≤ (z - a + n - 2) / g := (Int.le_ediv_iff_mul_le (by omega)).2 (by omega)
    omega
/-- The faults between two times are no more than those of the bursts that can have one. -/
theorem faults_hits {n a z : Int} (hn : 1 ≤ n) : ∀ (t : List Int) (s m : Int), s < m → (∀ x ∈ t, m ≤ x) → t.Pairwise (fun x y => x < y) →
    ((inF a z t : Nat) : Int) ≤ n * ((goS n (some s) t).countP (hitB n a z) : Nat) + (if hitB n a z s = true then max 0 (s + n - m) else 0)
  | [], s, m, hs, _, _ => by
    simp only [inF, goS, List.countP_nil]
    split <;> omega
  | x :: t, s, m, hs, hm, hp => by
    obtain ⟨h1, h2⟩ := List.pairwise_cons.1 hp
    have hmx := hm x List.mem_cons_self
    have hcnt : ((inF a z (x :: t) : Nat) : Int) = (inF a z t : Nat) + (if a ≤ x ∧ x < z then 1 else 0) := by
      simp only [inF, List.countP_cons]
      by_cases hq : a ≤ x ∧ x < z
      · simp [hq]
      · rw [if_neg hq]; simp [hq]
    rw [hcnt]
    simp only [goS]
    by_cases ho : opensB n (some s) x = true
    · rw [if_pos ho]
      have ih := faults_hits (a := a) (z := z) hn t x (x + 1) (by omega) (fun y hy => by have := h1 y hy; omega) h2
      rw [List.countP_cons]
      have hnn : 0 ≤ (if hitB n a z s = true then max 0 (s + n - m) else 0 : Int) := by split <;> omega
      by_cases hq : a ≤ x ∧ x < z
      · have hx : hitB n a z x = true := by simp [hitB]; omega
        rw [if_pos hx] at ih ⊢
        rw [if_pos hq, show ((List.countP (hitB n a z) (goS n (some x) t) + 1 : Nat) : Int) = (List.countP (hitB n a z) (goS n (some x) t) : Nat) + 1 by omega, Int.mul_add, Int.mul_one]
        omega
      · rw [if_neg hq]
        by_cases hx : hitB n a z x = true
        · rw [if_pos hx] at ih ⊢
          rw [show ((List.countP (hitB n a z) (goS n (some x) t) + 1 : Nat) : Int) = (List.countP (hitB n a z) (goS n (some x) t) : Nat) + 1 by omega, Int.mul_add, Int.mul_one]
          omega
        · rw [if_neg hx] at ih ⊢
          rw [Nat.add_zero]
          omega
    · rw [if_neg ho]
      have hlt : ¬ n ≤ x - s := by simpa [opensB] using ho
      have ih := faults_hits (a := a) (z := z) hn t s (x + 1) (by omega) (fun y hy => by have := h1 y hy; omega) h2
      by_cases hq : a ≤ x ∧ x < z
      · have hx : hitB n a z s = true := by simp [hitB]; omega
        rw [if_pos hx] at ih ⊢
        rw [if_pos hq]
        omega
      · rw [if_neg hq]
        by_cases hx : hitB n a z s = true
        · rw [if_pos hx] at ih ⊢
          omega
        · rw [if_neg hx] at ih ⊢
          omega
theorem faults_most {l : List Int} {n a z g : Int} (hr : l.Pairwise (fun x y => x < y)) (hn : 1 ≤ n) (hg : 1 ≤ g) (hz : a ≤ z) (h1 : Apart g (startsF n l)) : ((inF a z l : Nat) : Int) ≤ n * mostF (z - a) n g := by
  have hm := hits_most h1 hn hg hz
  have key : ((inF a z l : Nat) : Int) ≤ n * ((startsF n l).countP (hitB n a z) : Nat) := by
    cases l with
    | nil => simp [inF, startsF, goS]
    | cons x t =>
      have ho : opensB n none x = true := rfl
      obtain ⟨p1, p2⟩ := List.pairwise_cons.1 hr
      have ih := faults_hits (a := a) (z := z) hn t x (x + 1) (by omega) (fun y hy => by have := p1 y hy; omega) p2
      unfold startsF
      simp only [goS]
      rw [if_pos ho, List.countP_cons]
      have hcnt : ((inF a z (x :: t) : Nat) : Int) = (inF a z t : Nat) + (if a ≤ x ∧ x < z then 1 else 0) := by
        simp only [inF, List.countP_cons]
        by_cases hq : a ≤ x ∧ x < z
        · simp [hq]
        · rw [if_neg hq]; simp [hq]
      rw [hcnt]
      by_cases hx : hitB n a z x = true
      · rw [if_pos hx] at ih ⊢
        rw [show ((List.countP (hitB n a z) (goS n (some x) t) + 1 : Nat) : Int) = (List.countP (hitB n a z) (goS n (some x) t) : Nat) + 1 by omega, Int.mul_add, Int.mul_one]
        split <;> omega
      · have hq : ¬ (a ≤ x ∧ x < z) := fun hq => hx (by simp [hitB]; omega)
        rw [if_neg hx] at ih ⊢
        rw [if_neg hq, Nat.add_zero]
        omega
  have := Int.mul_le_mul_of_nonneg_left hm (show (0 : Int) ≤ n by omega)
  omega
end Go.Proofs.Ytckdnnmkookedaa
