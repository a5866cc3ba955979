/- A set that is turned: it is right, too; the same times, the same late task. A set without its last task by priority. -/
import Derived.Test.YtklnokhabomnfaaVe
namespace Go.Proofs.Ytklnokhabomnfaa

/-- Where the task at place i of the turned list stood. -/
def frm (n k i : Nat) : Nat := if i < n - k then i + k else i - (n - k)
def turned {α : Type} (k : Nat) (l : List α) : List α := l.drop k ++ l.take k
section
variable {α : Type} {l : List α} {n k i : Nat}
theorem frm_lt (hk : k ≤ n) (hi : i < n) : frm n k i < n := by unfold frm; split <;> omega
theorem frm_ne {j : Nat} (hk : k ≤ n) (h : i < j) (hj : j < n) : frm n k i ≠ frm n k j := by unfold frm; split <;> split <;> omega
theorem frm_onto (hk : k ≤ n) {m : Nat} (hm : m < n) : ∃ i, i < n ∧ frm n k i = m := by
  by_cases h : m < k
  · exact ⟨m + (n - k), by omega, by unfold frm; rw [if_neg (by omega)]; omega⟩
  · exact ⟨m - k, by omega, by unfold frm; rw [if_pos (by omega)]; omega⟩
theorem frm_mod (hk : k < n) (hi : i < n) : (((i : Int) + (k : Int)) % (n : Int)) = ((frm n k i : Nat) : Int) := by
  unfold frm
  split
  · rw [Int.emod_eq_of_lt (by omega) (by omega)]; omega
  · rw [show (i : Int) + (k : Int) = ((i - (n - k) : Nat) : Int) + (n : Int) by omega, Int.add_emod_right, Int.emod_eq_of_lt (by omega) (by omega)]
theorem turned_len (k : Nat) (l : List α) : (turned k l).length = l.length := by
  unfold turned; rw [List.length_append, List.length_drop, List.length_take]; omega
theorem turned_at (hn : l.length = n) (hk : k ≤ n) (hi : i < n) : (turned k l)[i]? = l[frm n k i]? := by
  unfold turned frm
  by_cases h : i < n - k
  · rw [if_pos h, List.getElem?_append_left (by rw [List.length_drop]; omega), List.getElem?_drop, Nat.add_comm]
  · rw [if_neg h, List.getElem?_append_right (by rw [List.length_drop]; omega), List.length_drop, hn, List.getElem?_take, if_pos (by omega)]
end
section
variable {b g : Int} {l : List Tk} {ok : Bool} {late : Int} {R : List Int} {k : Nat}
theorem turned_right (h : (whyF b l).1 = 0) (hk : k ≤ l.length) : (whyF b (turned k l)).1 = 0 := by
  have hn := ((right_iff b l).1 h).2.1
  refine right_of h (by rw [turned_len]; exact hn.1) (by rw [turned_len]; exact hn.2) (frm l.length k) (fun i j h1 h2 => frm_ne hk h1 (by rwa [turned_len] at h2)) (fun i t' hi => ?_)
  have hlt := (List.getElem?_eq_some_iff.1 hi).1
  rw [turned_len] at hlt
  rw [turned_at rfl hk hlt] at hi
  obtain ⟨h1, h2, h3⟩ := own_right h hi
  exact ⟨t', hi, rfl, rfl, h1, h2, h3⟩
theorem turned_next (o : Tk) : nextV b (turned k l) o g = nextV b l o g := by
  have := next_turned (b := b) (g := g) (l := l.take k) (l' := l.drop k) (o := o)
  rw [List.take_append_drop] at this
  exact this
theorem Verd.turn (h : Verd b g l ok late R) (hk : k ≤ l.length) : ∃ late', Verd b g (turned k l) ok late' (turned k R) ∧ (ok = false → ∃ (m i : Nat) (o : Tk), late = (m : Int) ∧ l[m]? = some o ∧ late' = (i : Int) ∧ (turned k l)[i]? = some o) := by
  have up : ∀ {Q Q' : Nat → Prop}, Upto b g l Q R → (∀ i, i < l.length → (Q' i ↔ Q (frm l.length k i))) → Upto b g (turned k l) Q' (turned k R) := fun hu hq => by
    refine ⟨by rw [turned_len, turned_len]; exact hu.1, fun i o ho => ?_⟩
    have hlt := (List.getElem?_eq_some_iff.1 ho).1
    rw [turned_len] at hlt
    rw [turned_at rfl hk hlt] at ho
    rw [turned_at hu.1 hk hlt, turned_next, hq i hlt]
    exact hu.2 _ o ho
  cases ok
  · obtain ⟨m, o, rfl, ho, hr, hu⟩ := h.no
    obtain ⟨i, hi, rfl⟩ := frm_onto hk (List.getElem?_eq_some_iff.1 ho).1
    have ho' : (turned k l)[i]? = some o := by rw [turned_at rfl hk hi]; exact ho
    refine ⟨(i : Int), .inr ⟨rfl, i, o, rfl, ho', by rw [turned_next]; exact hr, up hu (fun j hj => ?_)⟩, fun _ => ⟨_, i, o, rfl, ho, rfl, ho'⟩⟩
    rw [turned_at rfl hk hj]
  · obtain ⟨e, _⟩ := h.yes
    rcases h with ⟨_, _, h⟩ | ⟨e, _⟩
    · exact ⟨-1, .inl ⟨rfl, rfl, up h (fun _ _ => Iff.rfl)⟩, fun e => by cases e⟩
    · cases e

/- Without the last task. -/
/-- Where the task at place i of the list without place m stood. -/
def skp (m i : Nat) : Nat := if i < m then i else i + 1
def without {α : Type} (m : Nat) (l : List α) : List α := l.take m ++ l.drop (m + 1)
theorem without_len {α : Type} {l : List α} {m : Nat} (hm : m < l.length) : (without m l).length = l.length - 1 := by
  unfold without; rw [List.length_append, List.length_drop, List.length_take]; omega
theorem without_at {α : Type} {l : List α} {m i : Nat} (hm : m < l.length) : (without m l)[i]? = l[skp m i]? := by
  unfold without skp
  by_cases h : i < m
  · rw [if_pos h, List.getElem?_append_left (by rw [List.length_take]; omega), List.getElem?_take, if_pos h]
  · rw [if_neg h, List.getElem?_append_right (by rw [List.length_take]; omega), List.getElem?_drop, List.length_take]
    congr 1; omega
theorem without_right {m : Nat} (h : (whyF b l).1 = 0) (hm : m < l.length) (hn2 : 2 ≤ l.length) : (whyF b (without m l)).1 = 0 := by
  have hn := ((right_iff b l).1 h).2.1
  refine right_of h (by rw [without_len hm]; omega) (by rw [without_len hm]; omega) (skp m) (fun i j h1 h2 => by unfold skp; split <;> split <;> omega) (fun i t' hi => ?_)
  rw [without_at hm] at hi
  obtain ⟨h1, h2, h3⟩ := own_right h hi
  exact ⟨t', hi, rfl, rfl, h1, h2, h3⟩
theorem split_at {α : Type} {l : List α} {m : Nat} {t : α} (h : l[m]? = some t) : l = l.take m ++ t :: l.drop (m + 1) := by
  obtain ⟨h1, h2⟩ := List.getElem?_eq_some_iff.1 h
  rw [← h2, List.getElem_cons_drop, List.take_append_drop]
/-- Without the last task by priority all others are accepted, too, with no greater times. -/
theorem Verd.without {m : Nat} {t : Tk} {is : Bool} {y : Int} {R' : List Int} (h : Verd b g l true late R) (hb : 0 ≤ b) (hb1 : 1 ≤ b) (hg : 1 ≤ g) (ht : l[m]? = some t) (hlast : ∀ o ∈ l, o.Prio ≤ t.Prio) (h' : Verd b g (without m l) is y R') :
    is = true ∧ ∀ i x, R'[i]? = some x → ∃ z, R[skp m i]? = some z ∧ x ≤ z := by
  have hm := (List.getElem?_eq_some_iff.1 ht).1
  have key : ∀ i o q ok', (Go.Proofs.Ytklnokhabomnfaa.without m l)[i]? = some o → Resp (nextV b (Go.Proofs.Ytklnokhabomnfaa.without m l) o g) o.D q ok' → ∃ z, R[skp m i]? = some z ∧ ok' = true ∧ q ≤ z := fun i o q ok' ho hq => by
    rw [without_at hm] at ho
    obtain ⟨z, hz, hr⟩ := h.yes.2 _ o ho
    have hle := hlast o (List.mem_of_getElem? ho)
    have := hr.less hq (fun x x0 _ => by
      have := next_without (b := b) (g := g) (w := x) (l := l.take m) (l' := l.drop (m + 1)) (o := o) (t := t) hb (mostF_nonneg x0 hb1 hg) hle
      rw [← split_at ht] at this
      exact this)
    exact ⟨z, hz, this.1, this.2⟩
  cases is
  · obtain ⟨i, o, _, ho, hr, _⟩ := h'.no
    obtain ⟨_, _, e, _⟩ := key i o 0 false ho hr
    cases e
  · refine ⟨rfl, fun i x hx => ?_⟩
    have hlt : i < (Go.Proofs.Ytklnokhabomnfaa.without m l).length := by rw [← h'.len]; exact (List.getElem?_eq_some_iff.1 hx).1
    have ho := List.getElem?_eq_getElem hlt
    obtain ⟨q, hq, hr⟩ := h'.yes.2 i _ ho
    rw [hx] at hq; cases hq
    obtain ⟨z, hz, _, hle⟩ := key i _ x true ho hr
    exact ⟨z, hz, hle⟩
/-- A greater gap. -/
theorem Verd.wider {c : Int} {is : Bool} {y : Int} {R' : List Int} (h : Verd b g l true late R) (hG : Good b l) (hg : 1 ≤ g) (hgc : g ≤ c) (h' : Verd b c l is y R') :
    is = true ∧ ∀ (i : Nat) (x : Int), R'[i]? = some x → ∃ z, R[i]? = some z ∧ x ≤ z := by
  have key : ∀ (i : Nat) (o : Tk) q ok', l[i]? = some o → Resp (nextV b l o c) o.D q ok' → ∃ z, R[i]? = some z ∧ ok' = true ∧ q ≤ z := fun i o q ok' ho hq => by
    obtain ⟨z, hz, hr⟩ := h.yes.2 _ o ho
    have := hr.less hq (fun x x0 _ => next_gap x0 hG.b0 hG.b1 hg hgc hG.fine)
    exact ⟨z, hz, this.1, this.2⟩
  cases is
  · obtain ⟨i, o, _, ho, hr, _⟩ := h'.no
    obtain ⟨_, _, e, _⟩ := key i o 0 false ho hr
    cases e
  · refine ⟨rfl, fun i x hx => ?_⟩
    have hlt : i < l.length := by rw [← h'.len]; exact (List.getElem?_eq_some_iff.1 hx).1
    have ho := List.getElem?_eq_getElem hlt
    obtain ⟨q, hq, hr⟩ := h'.yes.2 i _ ho
    rw [hx] at hq; cases hq
    obtain ⟨z, hz, _, hle⟩ := key i _ x true ho hr
    exact ⟨z, hz, hle⟩
/-- A time of an accepted task: from 1 to its deadline. -/
theorem Verd.times (h : Verd b g l true late R) (hG : Good b l) (hg : 1 ≤ g) {i : Nat} {o : Tk} {x : Int} (ho : l[i]? = some o) (hx : R[i]? = some x) : 1 ≤ x ∧ x ≤ o.D := by
  obtain ⟨q, hq, hr⟩ := h.yes.2 i o ho
  rw [hx] at hq; cases hq
  obtain ⟨r0, r1, r2, _⟩ := hr.at_
  have hfo := hG.fine o (List.mem_of_getElem? ho)
  have hD : o.D ≤ 1048576 := by obtain ⟨_, _, _, _, _, _⟩ := hfo.times; omega
  have := (next_range (w := x) (o := o) (g := g) r0 (by omega) hG.b0 hG.b1 hg hG.fine hfo (by have := hG.n1; omega)).2.1
  omega
end
end Go.Proofs.Ytklnokhabomnfaa
