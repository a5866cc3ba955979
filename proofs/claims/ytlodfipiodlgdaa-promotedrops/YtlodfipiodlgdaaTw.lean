/- Two promoters beside each other; jobs that are dropped, each at its number. -/
import Derived.Test.YtlodfipiodlgdaaFl
namespace Go.Proofs.Ytlodfipiodlgdaa
open Go.RowKit

/-- Those whose numbers aren't of a rest; those that are left when the ones of that rest were dropped as far as some number. -/
def oth (m : List Ky) (d : Int) : List Ky := m.filter fun x => decide (idK x % 7 ≠ d)
def left_ (m : List Ky) (d : Int) (j : Nat) : List Ky := m.filter fun x => !(decide (idK x % 7 = d) && decide (idK x < (j : Int)))
section
variable {l : List Int} {off d : Int} {k j n : Nat} {m : List Ky}
theorem oth_put {x : Ky} (hs : Srt m) (h : idK x % 7 ≠ d) : oth (putK m x) d = putK (oth m d) x := filter_put (by simpa using h) hs
theorem oth_put_not {x : Ky} (h : idK x % 7 = d) : oth (putK m x) d = oth m d := by
  unfold oth putK
  rw [List.filter_append, List.filter_cons, if_neg (by simpa using h), ← List.filter_append, List.take_append_drop]
theorem oth_ids {id : Int} (h : id ∉ m.map idK) : id ∉ (oth m d).map idK := fun h' => by
  obtain ⟨x, hx, e⟩ := List.mem_map.1 h'
  exact h (List.mem_map.2 ⟨x, (List.mem_filter.1 hx).1, e⟩)
theorem oth_len (m : List Ky) (d : Int) : (oth m d).length ≤ m.length := List.length_filter_le _ _
theorem left_zero (h : Fill l off k m) : left_ m d 0 = m := List.filter_eq_self.2 fun x hx => by
  obtain ⟨i, _, e, _⟩ := h.at_ x hx
  have h0 : ¬ idK x < ((0 : Nat) : Int) := by omega
  rw [decide_eq_false h0, Bool.and_false]
  rfl
theorem left_in (h : Fill l off k m) (hj : j < k) : (j : Int) ∈ (left_ m d j).map idK := by
  obtain ⟨x, hx, e⟩ := List.mem_map.1 (h.all j hj)
  refine List.mem_map.2 ⟨x, List.mem_filter.2 ⟨hx, ?_⟩, e⟩
  have : ¬ idK x < (j : Int) := by omega
  simp [this]
theorem left_drop (hd : (j : Int) % 7 = d) : wo (left_ m d j) (j : Int) = left_ m d (j + 1) := by
  unfold wo left_
  rw [List.filter_filter]
  refine List.filter_congr fun x _ => ?_
  by_cases e : idK x = (j : Int)
  · have h1 : idK x % 7 = d := by rw [e]; exact hd
    have h2 : idK x < ((j + 1 : Nat) : Int) := by omega
    have h3 : ¬ idK x ≠ (j : Int) := fun h => h e
    rw [decide_eq_true h1, decide_eq_true h2, decide_eq_false h3]
    cases decide (idK x < (j : Int)) <;> rfl
  · by_cases h1 : idK x < (j : Int)
    · have h2 : idK x < ((j + 1 : Nat) : Int) := by omega
      simp only [h1, h2, e, ne_eq, not_false_eq_true, decide_true, Bool.and_true, Bool.true_and]
    · have h2 : ¬ idK x < ((j + 1 : Nat) : Int) := by omega
      simp only [h1, h2, e, ne_eq, not_false_eq_true, decide_true, decide_false, Bool.and_false, Bool.not_false, Bool.and_true]
theorem left_keep (hd : (j : Int) % 7 ≠ d) : left_ m d j = left_ m d (j + 1) := by
  unfold left_
  refine List.filter_congr fun x _ => ?_
  by_cases e : idK x = (j : Int)
  · have h1 : ¬ idK x % 7 = d := by rw [e]; exact hd
    simp only [h1, decide_false, Bool.false_and]
  · by_cases h1 : idK x < (j : Int)
    · have h2 : idK x < ((j + 1 : Nat) : Int) := by omega
      simp only [h1, h2]
    · have h2 : ¬ idK x < ((j + 1 : Nat) : Int) := by omega
      simp only [h1, h2]
theorem left_all (h : Fill l off k m) : left_ m d k = oth m d := by
  unfold left_ oth
  refine List.filter_congr fun x hx => ?_
  obtain ⟨i, hi, e, _⟩ := h.at_ x hx
  have h1 : idK x < (k : Int) := by omega
  simp [h1]
end
/-- Two promoters that share nothing. -/
structure Two (w0 : World) (Sa : Nat → Prop) (pa : Nat) (na : Int) (ma : List Ky) (Sb : Nat → Prop) (pb : Nat) (nb : Int) (mb : List Ky) (W : World) : Prop where
  a : Has w0 Sa pa 200 na ma W
  b : Has w0 Sb pb 200 nb mb W
  apart : ∀ k, Sa k → ¬ Sb k
section
variable {w0 W W' : World} {Sa Sb : Nat → Prop} {pa pb : Nat} {na nb : Int} {ma mb ma' : List Ky}
theorem Two.flip (h : Two w0 Sa pa na ma Sb pb nb mb W) : Two w0 Sb pb nb mb Sa pa na ma W := ⟨h.b, h.a, fun k h1 h2 => h.apart k h2 h1⟩
theorem Two.more (h : Two w0 Sa pa na ma Sb pb nb mb W) (hb : Below W.heap.size W W') : Two w0 Sa pa na ma Sb pb nb mb W' := ⟨h.a.more hb, h.b.more hb, h.apart⟩
theorem Two.drewN (h : Two w0 Sa pa na ma Sb pb nb mb W) (k : Nat) : Two w0 Sa pa na ma Sb pb nb mb (W.drewN k) := ⟨h.a.drewN k, h.b.drewN k, h.apart⟩
theorem Two.eqA (h : Two w0 Sa pa na ma Sb pb nb mb W) (e : ma = ma') : Two w0 Sa pa na ma' Sb pb nb mb W := e ▸ h
theorem Two.next {Sa' : Nat → Prop} {na' : Int} (h : Two w0 Sa pa na ma Sb pb nb mb W) (ha : Has w0 Sa' pa 200 na' ma' W') (hS : ∀ k, Sa' k → Sa k ∨ W.heap.size ≤ k) (ht : Turns Sa W W') : Two w0 Sa' pa na' ma' Sb pb nb mb W' :=
  ⟨ha, h.b.turns ht (fun k hk => (h.a.inS k hk).1) (fun k h1 h2 => h.apart k h2 h1), fun k h1 h2 => by
    rcases hS k h1 with h' | h'
    · exact h.apart k h' h2
    · have := (h.b.inS k h2).2
      omega⟩
end
end Go.Proofs.Ytlodfipiodlgdaa
