/- Jobs that wait one behind the other, each numbered by its place; what is due and what stays. -/
import Derived.Test.YtlodfipiodlgdaaAw
namespace Go.Proofs.Ytlodfipiodlgdaa
open Go.RowKit

theorem due_all {l : List Ky} {t : Int} (h : ∀ d ∈ l, d.1 ≤ t) : due l t = l := List.filter_eq_self.2 fun d hd => by simpa using h d hd
theorem filter_put {k : Ky} {P : Ky → Bool} (hP : P k = true) : ∀ {m : List Ky}, Srt m → (putK m k).filter P = putK (m.filter P) k
  | [], _ => by simp [putK, posK, hP]
  | x :: l, h => by
    have hx := List.pairwise_cons.1 h
    have ih := filter_put hP hx.2
    by_cases hl : lt x k = true
    · rw [put_cons_lt hl]
      simp only [List.filter_cons]
      split
      · rw [put_cons_lt hl, ih]
      · exact ih
    · have hl' : lt x k = false := by simpa using hl
      rw [put_cons_no hl']
      have hall : ∀ y ∈ (x :: l).filter P, lt y k = false := fun y hy => by
        have hy' := (List.mem_filter.1 hy).1
        rcases List.mem_cons.1 hy' with rfl | hy'
        · exact hl'
        · exact lt_no.2 fun hyk => lt_no.1 hl' ((hx.1 y hy').trans hyk)
      have e : (k :: x :: l).filter P = k :: (x :: l).filter P := by rw [List.filter_cons, if_pos hP]
      rw [e]
      cases hp : (x :: l).filter P with
      | nil => rfl
      | cons y t => exact (put_cons_no (hall y (by rw [hp]; exact List.mem_cons_self))).symm
theorem due_stay_perm (m : List Ky) (t : Int) : (due m t ++ stay m t).Perm m := by
  have h := List.filter_append_perm (fun d : Ky => decide (d.1 ≤ t)) m
  have e : stay m t = m.filter fun d => !decide (d.1 ≤ t) := List.filter_congr fun d _ => by
    by_cases h : d.1 ≤ t
    · have : ¬ t < d.1 := by omega
      simp [h, this]
    · have : t < d.1 := by omega
      simp [h, this]
  rw [e]
  exact h
theorem due_stay_len (m : List Ky) (t : Int) : (due m t).length + (stay m t).length = m.length := by rw [← List.length_append]; exact (due_stay_perm m t).length_eq

/-- The first k of l wait, each numbered by its place, and promoted so much behind its number. -/
structure Fill (l : List Int) (off : Int) (k : Nat) (m : List Ky) : Prop where
  len : m.length = k
  at_ : ∀ x ∈ m, ∃ i : Nat, i < k ∧ idK x = (i : Int) ∧ ∃ v, l[i]? = some v ∧ x.1 = v + off
  all : ∀ i : Nat, i < k → (i : Int) ∈ m.map idK
section
variable {l : List Int} {off v : Int} {k : Nat} {m : List Ky}
theorem Fill.nil (l : List Int) (off : Int) : Fill l off 0 [] := ⟨rfl, fun x hx => by simp at hx, fun i hi => by omega⟩
theorem Fill.fresh (h : Fill l off k m) : (k : Int) ∉ m.map idK := fun hk => by
  obtain ⟨x, hx, e⟩ := List.mem_map.1 hk
  obtain ⟨i, hi, e', _⟩ := h.at_ x hx
  omega
theorem Fill.next (h : Fill l off k m) (hv : l[k]? = some v) : Fill l off (k + 1) (putK m (v + off, (k : Int))) := by
  refine ⟨by rw [length_put, h.len], fun x hx => ?_, fun i hi => ?_⟩
  · rcases mem_put.1 hx with rfl | hx
    · exact ⟨k, by omega, rfl, v, hv, rfl⟩
    · obtain ⟨i, hi, e⟩ := h.at_ x hx
      exact ⟨i, by omega, e⟩
  · by_cases e : i = k
    · subst e
      exact List.mem_map.2 ⟨(v + off, (i : Int)), mem_put.2 (.inl rfl), rfl⟩
    · obtain ⟨x, hx, e'⟩ := List.mem_map.1 (h.all i (by omega))
      exact List.mem_map.2 ⟨x, mem_put.2 (.inr hx), e'⟩
end
section
variable {w0 W : World} {S : Nat → Prop} {p : Nat} {m : List Ky}
/-- A job waits that may, isn't there and finds room. -/
theorem has_fill (id v d r : Int) (hr : 1 ≤ r) (hrd : r ≤ d) (hd : d ≤ 1000) (h0 : 0 ≤ v) (h1 : v < 256) (hid : id ∉ m.map idK) (hm : m.length < 200) (h : Has w0 S p 200 0 m W) :
    Calls Try.prog 9 #[.pointer (some ⟨p, 0, none⟩), .int .i64 id, .int .i64 v, .int .i64 d, .int .i64 r] W (Then (.tuple #[.int .i64 (v + (d - r)), .int .i64 0]) w0 S p 200 0 (putK m (v + (d - r), id)) W) := by
  have KW := has_wait id v d r (by omega) h
  have ho : okT 0 v d r ∧ id ∉ m.map idK ∧ m.length ≠ 200 := ⟨⟨by omega, by omega, by omega, by omega, by omega⟩, hid, by omega⟩
  have e1 : waitT 0 200 m id v d r = v + (d - r) := if_pos ho
  have e2 : waitE 0 200 m id v d r = 0 := by unfold waitE; rw [if_neg (not_not_intro ho.1), if_neg ho.2.1, if_neg ho.2.2]
  have e3 : waitM 0 200 m id v d r = putK m (v + (d - r), id) := if_pos ho
  rw [e1, e2, e3] at KW
  exact KW
end
end Go.Proofs.Ytlodfipiodlgdaa
