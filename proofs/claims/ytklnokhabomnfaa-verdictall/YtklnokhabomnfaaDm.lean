/- A demand cut into parts, as a function of lists: how many, how long, their sum. -/
import Derived.Test.YtklnokhabomnfaaSp
namespace Go.Proofs.Ytklnokhabomnfaa
open Go.RowKit

/-- The part at place i of a demand d, cut into segments of s, each with c more. -/
def pf (s c d : Int) (i : Nat) : Int := (if d - (i : Int) * s < s then d - (i : Int) * s else s) + c
/-- The first n parts. -/
def pl (s c d : Int) (n : Nat) : List Int := (List.range n).map (pf s c d)
theorem length_pl (s c d : Int) (n : Nat) : (pl s c d n).length = n := by simp [pl]
theorem pl_at {s c d : Int} {n i : Nat} (h : i < n) : (pl s c d n)[i]? = some (pf s c d i) := by simp [pl, h]
theorem pl_succ (s c d : Int) (n : Nat) : pl s c d (n + 1) = pl s c d n ++ [pf s c d n] := by simp [pl, List.range_succ]
/-- A demand d is cut into n segments of s, the last one what is left. -/
def Cuts (d s : Int) (n : Nat) : Prop := 1 ≤ n ∧ 1 ≤ s ∧ (n : Int) * s < d + s ∧ d ≤ (n : Int) * s
theorem mul_up {a b s : Int} (h : a ≤ b) (hs : 1 ≤ s) : a * s ≤ b * s := Int.mul_le_mul_of_nonneg_right h (by omega)
section
variable {d s c e : Int} {n m i : Nat}
theorem Cuts.room (h : Cuts d s n) (hi : i < n) : (i : Int) * s < d := by
  obtain ⟨h1, h2, h3, h4⟩ := h
  have := mul_up (a := (i : Int) + 1) (b := n) (s := s) (by omega) h2
  rw [Int.add_mul, Int.one_mul] at this
  omega
theorem Cuts.full (h : Cuts d s n) (hi : i + 1 < n) : s < d - (i : Int) * s := by
  have := h.room hi
  rw [show ((i + 1 : Nat) : Int) = (i : Int) + 1 by omega, Int.add_mul, Int.one_mul] at this
  omega
theorem Cuts.least (h : Cuts d s n) (hi : i < n) : 1 + c ≤ pf s c d i := by
  have := h.room hi
  have h2 := h.2.1
  unfold pf
  generalize (i : Int) * s = x at this ⊢
  split <;> omega
theorem pf_most (s c d : Int) (i : Nat) : pf s c d i ≤ s + c := by
  unfold pf
  generalize (i : Int) * s = x
  split <;> omega
theorem pf_full (h : ¬ d - (i : Int) * s < s) : pf s c d i = s + c := by unfold pf; rw [if_neg h]
theorem pf_rest (h : d - (i : Int) * s ≤ s) : pf s c d i = d - (i : Int) * s + c := by
  unfold pf
  generalize (i : Int) * s = x at h ⊢
  split <;> omega
theorem Cuts.few (h : Cuts d s n) : (n : Int) ≤ d := by
  obtain ⟨h1, h2, h3, h4⟩ := h
  obtain ⟨k, rfl⟩ : ∃ k : Nat, n = k + 1 := ⟨n - 1, by omega⟩
  have := Int.mul_le_mul_of_nonneg_left (a := 1) (b := s) (c := (k : Int)) h2 (by omega)
  rw [show ((k + 1 : Nat) : Int) = (k : Int) + 1 by omega, Int.add_mul, Int.one_mul] at h3
  omega
theorem Cuts.mono (h : Cuts d s n) (k : Cuts e s m) (hd : d ≤ e) : n ≤ m := by
  refine Nat.le_of_not_lt fun hlt => ?_
  have := h.room hlt
  have := k.2.2.2
  omega
theorem Cuts.same (h : Cuts d s n) (k : Cuts d s m) : n = m := Nat.le_antisymm (h.mono k (Int.le_refl _)) (k.mono h (Int.le_refl _))
theorem sum_low : ∀ k : Nat, (k : Int) * s ≤ d → 1 ≤ s → (pl s c d k).sum = (k : Int) * (s + c)
  | 0, _, _ => by simp [pl]
  | k + 1, h, hs => by
    rw [show ((k + 1 : Nat) : Int) = (k : Int) + 1 by omega] at h ⊢
    rw [Int.add_mul, Int.one_mul] at h
    rw [pl_succ, List.sum_append, sum_low k (by omega) hs, pf_full (by omega)]
    simp [Int.add_mul]
theorem Cuts.sum (h : Cuts d s n) : (pl s c d n).sum = d + (n : Int) * c := by
  obtain ⟨k, rfl⟩ : ∃ k : Nat, n = k + 1 := ⟨n - 1, by have := h.1; omega⟩
  have hr := h.room (i := k) (by omega)
  have h4 := h.2.2.2
  rw [show ((k + 1 : Nat) : Int) = (k : Int) + 1 by omega] at h4 ⊢
  rw [Int.add_mul, Int.one_mul] at h4
  rw [pl_succ, List.sum_append, sum_low k (by omega) h.2.1, pf_rest (by omega)]
  simp only [List.sum_cons, List.sum_nil, Int.add_mul, Int.mul_add, Int.one_mul]
  omega
theorem cuts_ceil (hd : 1 ≤ d) (hs : 1 ≤ s) : ∃ n : Nat, (n : Int) = (d + s - 1) / s ∧ Cuts d s n := by
  have h0 : 0 ≤ (d + s - 1) / s := Int.ediv_nonneg (by omega) (by omega)
  have e := Int.mul_ediv_add_emod (d + s - 1) s
  have r0 := Int.emod_nonneg (d + s - 1) (show s ≠ 0 by omega)
  have r1 := Int.emod_lt_of_pos (d + s - 1) (show 0 < s by omega)
  refine ⟨((d + s - 1) / s).toNat, by omega, ?_⟩
  have e2 : ((((d + s - 1) / s).toNat : Nat) : Int) = (d + s - 1) / s := by omega
  have hge : 1 ≤ (d + s - 1) / s := (Int.le_ediv_iff_mul_le (by omega)).2 (by omega)
  rw [Int.mul_comm] at e
  refine ⟨by omega, hs, ?_, ?_⟩ <;> rw [e2] <;> omega
theorem cuts_one (hd : 1 ≤ d) : Cuts d d 1 := ⟨Nat.le_refl _, hd, by simp; omega, by simp⟩
end
/-- What is asked of a task's numbers. -/
structure Fine (t : Tk) : Prop where
  times : timesOk t
  mode : modeOk t
/-- How a demand of a task is cut. -/
structure Ways (t : Tk) (d : Int) (n : Nat) (s : Int) : Prop where
  cuts : Cuts d s n
  retry : t.Mode = 1 → s = t.Seg
  whole : t.Mode ≠ 1 → n = 1 ∧ s = d
theorem ways_of {t : Tk} {d : Int} (h : Fine t) (hd : 1 ≤ d) : ∃ n s, Ways t d n s := by
  by_cases hm : t.Mode = 1
  · have hs : 1 ≤ t.Seg := by rcases h.mode with h1 | h1 <;> omega
    obtain ⟨n, _, hc⟩ := cuts_ceil hd hs
    exact ⟨n, t.Seg, hc, fun _ => rfl, fun h => absurd hm h⟩
  · exact ⟨1, d, cuts_one hd, fun h => absurd h hm, fun _ => ⟨rfl, rfl⟩⟩
theorem Ways.mono {t : Tk} {d e s r : Int} {n m : Nat} (h : Ways t d n s) (k : Ways t e m r) (hd : d ≤ e) : n ≤ m := by
  by_cases hm : t.Mode = 1
  · have h1 := h.cuts
    have h2 := k.cuts
    rw [h.retry hm] at h1
    rw [k.retry hm] at h2
    exact h1.mono h2 hd
  · rw [(h.whole hm).1, (k.whole hm).1]; exact Nat.le_refl _
theorem fine_of {e : List Tk} {t : Tk} (h : bad1 e t = 0) : Fine t := by
  obtain ⟨_, h1, h2, _, _⟩ := bad1_zero h
  refine ⟨?_, ?_⟩
  · unfold bTimes at h1
    exact of_decide_eq_true (by cases hd : decide (timesOk t) with
      | true => rfl
      | false => rw [hd] at h1; cases h1)
  · unfold bMode at h2
    exact of_decide_eq_true (by cases hd : decide (modeOk t) with
      | true => rfl
      | false => rw [hd] at h2; cases h2)
/-- The sum of the first so many of a list. -/
theorem sum_next {l : List Int} {k : Nat} {x : Int} (h : l[k]? = some x) : (l.take (k + 1)).sum = (l.take k).sum + x := by
  rw [List.take_add_one, h]; simp
end Go.Proofs.Ytklnokhabomnfaa
