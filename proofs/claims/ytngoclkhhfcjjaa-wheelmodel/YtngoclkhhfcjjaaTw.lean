/- Two wheels beside each other; rows beside them. -/
import Derived.Test.YtngoclkhhfcjjaaPa
namespace Go.Proofs.Ytngoclkhhfcjjaa
open Go.RowKit

theorem filter_put {k : Ky} {P : Ky → Bool} (hP : P k = true) : ∀ {m : List Ky}, Srt m → (putK m k).filter P = putK (m.filter P) k
  | [], _ => by simp [putK, posK, hP]
  | x :: l, h => by
    have hx := List.pairwise_cons.1 h
    have ih := filter_put hP hx.2
    by_cases hl : lt x k = true
    · rw [put_cons_lt hl]
      simp only [List.filter_cons]
      split
      · rw [put_cons_lt hl, ih]
      · exact ih
    · have hl' : lt x k = false := by simpa using hl
      rw [put_cons_no hl']
      have hall : ∀ y ∈ (x :: l).filter P, lt y k = false := fun y hy => by
        have hy' := (List.mem_filter.1 hy).1
        rcases List.mem_cons.1 hy' with rfl | hy'
        · exact hl'
        · exact lt_no.2 fun hyk => lt_no.1 hl' ((hx.1 y hy').trans hyk)
      have e : (k :: x :: l).filter P = k :: (x :: l).filter P := by rw [List.filter_cons, if_pos hP]
      rw [e]
      cases hp : (x :: l).filter P with
      | nil => rfl
      | cons y t => exact (put_cons_no (hall y (by rw [hp]; exact List.mem_cons_self))).symm
theorem wo_put_same {m : List Ky} {d : Ky} {id : Int} (h : idK d = id) : wo (putK m d) id = wo m id := by
  unfold wo putK
  rw [List.filter_append, List.filter_cons, if_neg (by simpa using h), ← List.filter_append, List.take_append_drop]
theorem wo_ids {m : List Ky} {id i : Int} (h : i ≠ id) : i ∈ (wo m id).map idK ↔ i ∈ m.map idK := by
  constructor
  · intro h1
    obtain ⟨x, hx, e⟩ := List.mem_map.1 h1
    exact List.mem_map.2 ⟨x, (wo_mem.1 hx).1, e⟩
  · intro h1
    obtain ⟨x, hx, e⟩ := List.mem_map.1 h1
    exact List.mem_map.2 ⟨x, wo_mem.2 ⟨hx, by rw [e]; exact h⟩, e⟩
/-- What is added to a wheel without a number. -/
theorem addS_wo {m : List Ky} {d : Ky} {id now : Int} (hs : Srt m) (h : idK d ≠ id) : addS now (wo m id) d = wo (addS now m d) id := by
  unfold addS
  by_cases ha : d.1 < now ∨ 1099511627776 < d.1
  · rw [if_pos ha, if_pos ha]
  · rw [if_neg ha, if_neg ha]
    by_cases hid : idK d ∈ m.map idK
    · rw [if_pos hid, if_pos ((wo_ids h).2 hid)]
    · rw [if_neg hid, if_neg (fun h' => hid ((wo_ids h).1 h'))]
      exact (filter_put (by simpa using h) hs).symm
theorem addS_wo_same {m : List Ky} {d : Ky} {id now : Int} (h : idK d = id) : wo (addS now m d) id = wo m id := by
  unfold addS
  by_cases ha : d.1 < now ∨ 1099511627776 < d.1
  · rw [if_pos ha]
  · rw [if_neg ha]
    by_cases hid : idK d ∈ m.map idK
    · rw [if_pos hid]
    · rw [if_neg hid]
      exact wo_put_same h
theorem due_stay_perm (m : List Ky) (t : Int) : (due m t ++ stay m t).Perm m := by
  have h := List.filter_append_perm (fun d : Ky => decide (d.1 ≤ t)) m
  have e : stay m t = m.filter fun d => !decide (d.1 ≤ t) := List.filter_congr fun d _ => by
    by_cases h : d.1 ≤ t
    · have : ¬ t < d.1 := by omega
      simp [h, this]
    · have : t < d.1 := by omega
      simp [h, this]
  rw [e]
  exact h
theorem due_stay_len (m : List Ky) (t : Int) : (due m t).length + (stay m t).length = m.length := by rw [← List.length_append]; exact (due_stay_perm m t).length_eq
theorem Keys.turns {w w' : World} {S : Nat → Prop} {A : Option Addr} {c : Nat} {l : List Ky} (h : Keys w A c l) (ht : Turns S w w') (hS : ∀ x, A = some x → ¬ S x.block) : Keys w' A c l := by
  refine ⟨h.le, fun h0 => ?_⟩
  obtain ⟨b, off, ha, hlt, hc⟩ := h.form h0
  refine ⟨b, off, ha, Nat.lt_of_lt_of_le hlt ht.size, fun i t hi j v hj => ?_⟩
  have hh := ht.block b hlt (hS ⟨b, off, none⟩ ha)
  have : w'.cell? ⟨b, off + i * 2 + j, none⟩ = w.cell? ⟨b, off + i * 2 + j, none⟩ := by simp only [World.cell?, hh]
  rw [this]
  exact hc i t hi j v hj

theorem has_cancel_any {w0 W : World} {S : Nat → Prop} {p room : Nat} {now : Int} {m : List Ky} (id : Int) (h : Has w0 S p room now m W) :
    Calls Try.prog 12 #[.pointer (some ⟨p, 0, none⟩), .int .i64 id] W (Then (.bool (decide (id ∈ m.map idK))) w0 S p room now (wo m id) W) := by
  by_cases hid : id ∈ m.map idK
  · rw [decide_eq_true hid]
    exact has_cancel id hid h
  · rw [decide_eq_false hid, wo_none (ids_none.2 hid)]
    exact has_cancel_no id hid h
/-- Two wheels that share nothing. -/
structure Two (w0 : World) (Sa : Nat → Prop) (pa : Nat) (na : Int) (ma : List Ky) (Sb : Nat → Prop) (pb : Nat) (nb : Int) (mb : List Ky) (W : World) : Prop where
  a : Has w0 Sa pa 1024 na ma W
  b : Has w0 Sb pb 1024 nb mb W
  apart : ∀ k, Sa k → ¬ Sb k
section
variable {w0 W W' : World} {Sa Sb : Nat → Prop} {pa pb : Nat} {na nb : Int} {ma mb ma' : List Ky}
theorem Two.flip (h : Two w0 Sa pa na ma Sb pb nb mb W) : Two w0 Sb pb nb mb Sa pa na ma W := ⟨h.b, h.a, fun k h1 h2 => h.apart k h2 h1⟩
theorem Two.more (h : Two w0 Sa pa na ma Sb pb nb mb W) (hb : Below W.heap.size W W') : Two w0 Sa pa na ma Sb pb nb mb W' := ⟨h.a.more hb, h.b.more hb, h.apart⟩
theorem Two.drewN (h : Two w0 Sa pa na ma Sb pb nb mb W) (k : Nat) : Two w0 Sa pa na ma Sb pb nb mb (W.drewN k) := ⟨h.a.drewN k, h.b.drewN k, h.apart⟩
theorem Two.next {Sa' : Nat → Prop} {na' : Int} (h : Two w0 Sa pa na ma Sb pb nb mb W) (ha : Has w0 Sa' pa 1024 na' ma' W') (hS : ∀ k, Sa' k → Sa k ∨ W.heap.size ≤ k) (ht : Turns Sa W W') : Two w0 Sa' pa na' ma' Sb pb nb mb W' :=
  ⟨ha, h.b.turns ht (fun k hk => (h.a.inS k hk).1) (fun k h1 h2 => h.apart k h2 h1), fun k h1 h2 => by
    rcases hS k h1 with h' | h'
    · exact h.apart k h' h2
    · have := (h.b.inS k h2).2
      omega⟩
end
end Go.Proofs.Ytngoclkhhfcjjaa
