/- Entries by their times modulo 64: what is plain of them. -/
import Derived.Test.YtlodfipiodlgdaaSp
namespace Go.Proofs.Ytlodfipiodlgdaa

/-- The entries of a place. -/
def plc (m : List Ky) (j : Nat) : List Ky := m.filter fun d => decide (d.1 % 64 = (j : Int))
/-- The entries of the places ahead of one. -/
def upto (m : List Ky) (k : Nat) : List Ky := m.filter fun d => decide (d.1 % 64 < (k : Int))
theorem plc_sub (m : List Ky) (j : Nat) : (plc m j).Sublist m := List.filter_sublist
theorem plc_mem {m : List Ky} {j : Nat} {d : Ky} : d ∈ plc m j ↔ d ∈ m ∧ d.1 % 64 = (j : Int) := by unfold plc; rw [List.mem_filter]; simp
theorem upto_mem {m : List Ky} {j : Nat} {d : Ky} : d ∈ upto m j ↔ d ∈ m ∧ d.1 % 64 < (j : Int) := by unfold upto; rw [List.mem_filter]; simp
theorem plc_len (m : List Ky) (j : Nat) : (plc m j).length ≤ m.length := (plc_sub m j).length_le
theorem plc_good {m : List Ky} (h : Good m) (j : Nat) : Good (plc m j) := h.sub (plc_sub m j)
theorem upto_zero (m : List Ky) : upto m 0 = [] := List.filter_eq_nil_iff.2 fun d _ => by simp; omega
theorem upto_all (m : List Ky) : upto m 64 = m := List.filter_eq_self.2 fun d _ => by simp; omega
theorem upto_len (k : Nat) : ∀ m : List Ky, (upto m (k + 1)).length = (upto m k).length + (plc m k).length
  | [] => rfl
  | d :: m => by
    have ih := upto_len k m
    unfold upto plc at ih ⊢
    simp only [List.filter_cons]
    by_cases h1 : d.1 % 64 < (k : Int)
    · have h2 : d.1 % 64 < ((k + 1 : Nat) : Int) := by omega
      have h3 : ¬ d.1 % 64 = (k : Int) := by omega
      simp only [h1, h2, h3, decide_true, decide_false, if_true, Bool.false_eq_true, if_false, List.length_cons, ih]
      omega
    · by_cases h3 : d.1 % 64 = (k : Int)
      · have h2 : d.1 % 64 < ((k + 1 : Nat) : Int) := by omega
        simp only [h1, h2, decide_true, decide_false, if_true, Bool.false_eq_true, if_false, List.length_cons, ih]
        rw [if_pos (by simpa using h3)]
        simp only [List.length_cons]
        omega
      · have h2 : ¬ d.1 % 64 < ((k + 1 : Nat) : Int) := by omega
        simp only [h1, h2, h3, decide_false, Bool.false_eq_true, if_false, ih]
theorem upto_le (m : List Ky) (k : Nat) : (upto m k).length ≤ m.length := List.length_filter_le _ _

/-- An entry more: in its own place alone. -/
theorem plc_put {k : Ky} {j : Nat} (hj : k.1 % 64 = (j : Int)) : ∀ {m : List Ky}, Srt m → plc (putK m k) j = putK (plc m j) k
  | [], _ => by simp [putK, posK, plc, hj]
  | x :: l, h => by
    have hx := List.pairwise_cons.1 h
    have ih := plc_put hj hx.2
    by_cases hl : lt x k = true
    · rw [put_cons_lt hl]
      unfold plc at ih ⊢
      simp only [List.filter_cons]
      split
      · rw [put_cons_lt hl, ih]
      · exact ih
    · have hl' : lt x k = false := by simpa using hl
      rw [put_cons_no hl']
      have hall : ∀ y ∈ plc (x :: l) j, lt y k = false := fun y hy => by
        have hy' := (plc_mem.1 hy).1
        rcases List.mem_cons.1 hy' with rfl | hy'
        · exact hl'
        · exact lt_no.2 fun hyk => lt_no.1 hl' ((hx.1 y hy').trans hyk)
      have e : plc (k :: x :: l) j = k :: plc (x :: l) j := by
        unfold plc
        rw [List.filter_cons, if_pos (by simpa using hj)]
      rw [e]
      cases hp : plc (x :: l) j with
      | nil => rfl
      | cons y t => exact (put_cons_no (hall y (by rw [hp]; exact List.mem_cons_self))).symm
theorem plc_put_other {k : Ky} {j : Nat} (hj : ¬ k.1 % 64 = (j : Int)) (m : List Ky) : plc (putK m k) j = plc m j := by
  unfold plc putK
  rw [List.filter_append, List.filter_cons, if_neg (by simpa using hj), ← List.filter_append, List.take_append_drop]

/-- Without a number. -/
def wo (m : List Ky) (id : Int) : List Ky := m.filter fun d => decide (idK d ≠ id)
theorem wo_sub (m : List Ky) (id : Int) : (wo m id).Sublist m := List.filter_sublist
theorem wo_mem {m : List Ky} {id : Int} {d : Ky} : d ∈ wo m id ↔ d ∈ m ∧ idK d ≠ id := by unfold wo; rw [List.mem_filter]; simp
theorem plc_wo (m : List Ky) (id : Int) (j : Nat) : plc (wo m id) j = wo (plc m j) id := by
  unfold plc wo; rw [List.filter_filter, List.filter_filter]; exact List.filter_congr fun d _ => Bool.and_comm _ _
theorem wo_none {m : List Ky} {id : Int} (h : ∀ x ∈ m, idK x ≠ id) : wo m id = m := List.filter_eq_self.2 fun d hd => by simpa using h d hd
theorem wo_at {id : Int} : ∀ {l : List Ky} {i : Nat} {x : Ky}, (l.map idK).Nodup → l[i]? = some x → idK x = id → wo l id = l.take i ++ l.drop (i + 1)
  | [], i, x, _, h, _ => by simp at h
  | y :: l, 0, x, hn, h, hid => by
    have : y = x := by simpa using h
    subst this
    have hn' := (List.nodup_cons.1 (by simpa using hn : (idK y :: l.map idK).Nodup))
    have h0 : wo l id = l := wo_none fun z hz e => hn'.1 (List.mem_map.2 ⟨z, hz, e.trans hid.symm⟩)
    unfold wo at h0 ⊢
    rw [List.filter_cons, if_neg (by simpa using hid), h0]
    rfl
  | y :: l, i + 1, x, hn, h, hid => by
    have hn' := (List.nodup_cons.1 (by simpa using hn : (idK y :: l.map idK).Nodup))
    have hx : x ∈ l := List.mem_of_getElem? (by simpa using h)
    have hy : idK y ≠ id := fun e => hn'.1 (List.mem_map.2 ⟨x, hx, hid.trans e.symm⟩)
    have ih := wo_at hn'.2 (by simpa using h) hid
    unfold wo at ih ⊢
    rw [List.filter_cons, if_pos (by simpa using hy), ih]
    rfl
theorem wo_len {m : List Ky} {id : Int} (hn : (m.map idK).Nodup) (h : id ∈ m.map idK) : (wo m id).length + 1 = m.length := by
  obtain ⟨x, hx, hid⟩ := List.mem_map.1 h
  obtain ⟨i, hi⟩ := List.getElem?_of_mem hx
  have := (List.getElem?_eq_some_iff.1 hi).1
  rw [wo_at hn hi hid]
  simp; omega

/-- Those that are due by a time, those that aren't. -/
def due (m : List Ky) (by_ : Int) : List Ky := m.filter fun d => decide (d.1 ≤ by_)
def stay (m : List Ky) (by_ : Int) : List Ky := m.filter fun d => decide (by_ < d.1)
theorem due_mem {m : List Ky} {t : Int} {d : Ky} : d ∈ due m t ↔ d ∈ m ∧ d.1 ≤ t := by unfold due; rw [List.mem_filter]; simp
theorem stay_mem {m : List Ky} {t : Int} {d : Ky} : d ∈ stay m t ↔ d ∈ m ∧ t < d.1 := by unfold stay; rw [List.mem_filter]; simp
theorem due_sub (m : List Ky) (t : Int) : (due m t).Sublist m := List.filter_sublist
theorem stay_sub (m : List Ky) (t : Int) : (stay m t).Sublist m := List.filter_sublist
theorem pw_mono {R S : Ky → Ky → Prop} (h : ∀ a b, R a b → S a b) : ∀ {l : List Ky}, l.Pairwise R → l.Pairwise S
  | [], _ => List.Pairwise.nil
  | _ :: _, hp => List.pairwise_cons.2 ⟨fun y hy => h _ _ ((List.pairwise_cons.1 hp).1 y hy), pw_mono h (List.pairwise_cons.1 hp).2⟩
theorem srt_times {m : List Ky} (h : Srt m) : m.Pairwise fun a b => a.1 ≤ b.1 := by
  refine pw_mono (fun a b hab => ?_) h
  unfold Lt at hab; omega
theorem cut_due {t : Int} : ∀ {l : List Ky} {n : Nat}, Srt l → n ≤ l.length → (∀ i x, i < n → l[i]? = some x → x.1 ≤ t) → (∀ x, l[n]? = some x → t < x.1) → due l t = l.take n ∧ stay l t = l.drop n
  | [], n, _, _, _, _ => by simp [due, stay]
  | y :: l, 0, h, _, _, h2 => by
    have hx := List.pairwise_cons.1 (srt_times h)
    have hy := h2 y rfl
    constructor
    · unfold due
      refine List.filter_eq_nil_iff.2 fun d hd => ?_
      rcases List.mem_cons.1 hd with rfl | hd
      · simpa using hy
      · have := hx.1 d hd
        simp; omega
    · unfold stay
      refine List.filter_eq_self.2 fun d hd => ?_
      rcases List.mem_cons.1 hd with rfl | hd
      · simpa using hy
      · have := hx.1 d hd
        simp; omega
  | y :: l, n + 1, h, hn, h1, h2 => by
    have hx := List.pairwise_cons.1 h
    have hy := h1 0 y (by omega) rfl
    obtain ⟨e1, e2⟩ := cut_due (l := l) (n := n) hx.2 (by simpa using hn) (fun i x hi hx => h1 (i + 1) x (by omega) (by simpa using hx)) (fun x hx => h2 x (by simpa using hx))
    unfold due stay at *
    rw [List.filter_cons, List.filter_cons, if_pos (by simpa using hy), if_neg (by simpa using hy), e1, e2]
    exact ⟨rfl, rfl⟩

/-- The due ones of a place; all but these. -/
def dueAt (m : List Ky) (j : Nat) (t : Int) : List Ky := m.filter fun d => decide (d.1 % 64 = (j : Int)) && decide (d.1 ≤ t)
def butAt (m : List Ky) (j : Nat) (t : Int) : List Ky := m.filter fun d => !(decide (d.1 % 64 = (j : Int)) && decide (d.1 ≤ t))
theorem dueAt_eq (m : List Ky) (j : Nat) (t : Int) : dueAt m j t = due (plc m j) t := by
  unfold dueAt due plc; rw [List.filter_filter]; exact List.filter_congr fun d _ => Bool.and_comm _ _
theorem butAt_plc (m : List Ky) (j : Nat) (t : Int) : plc (butAt m j t) j = stay (plc m j) t := by
  unfold butAt stay plc
  rw [List.filter_filter, List.filter_filter]
  refine List.filter_congr fun d _ => ?_
  by_cases h1 : d.1 % 64 = (j : Int) <;> by_cases h2 : d.1 ≤ t
  · have : ¬ t < d.1 := by omega
    simp [h2, this]
  · have : t < d.1 := by omega
    simp [h1, h2, this]
  · simp [h1]
  · simp [h1]
theorem butAt_other {m : List Ky} {j i : Nat} (h : i ≠ j) (t : Int) : plc (butAt m j t) i = plc m i := by
  unfold butAt plc
  rw [List.filter_filter]
  refine List.filter_congr fun d _ => ?_
  by_cases h1 : d.1 % 64 = (i : Int)
  · simp [h1]
    omega
  · simp [h1]
theorem butAt_sub (m : List Ky) (j : Nat) (t : Int) : (butAt m j t).Sublist m := List.filter_sublist
theorem dueAt_mem {m : List Ky} {j : Nat} {t : Int} {d : Ky} : d ∈ dueAt m j t ↔ d ∈ m ∧ d.1 % 64 = (j : Int) ∧ d.1 ≤ t := by unfold dueAt; rw [List.mem_filter]; simp
theorem butAt_mem {m : List Ky} {j : Nat} {t : Int} {d : Ky} : d ∈ butAt m j t ↔ d ∈ m ∧ ¬ (d.1 % 64 = (j : Int) ∧ d.1 ≤ t) := by
  unfold butAt
  rw [List.mem_filter]
  by_cases h1 : d.1 % 64 = (j : Int) <;> by_cases h2 : d.1 ≤ t <;> simp [h1, h2]
theorem parts_perm (m : List Ky) (j : Nat) (t : Int) : (dueAt m j t ++ butAt m j t).Perm m := List.filter_append_perm _ _
theorem dueAt_len (m : List Ky) (j : Nat) (t : Int) : (dueAt m j t).length + (butAt m j t).length = m.length := by
  rw [← (parts_perm m j t).length_eq, List.length_append]
/-- Of all that was there: those that came, those that stay. -/
theorem all_due {x m n : List Ky} {t : Int} (hp : (x ++ n).Perm m) (hx : ∀ d ∈ x, d.1 ≤ t) (hn : ∀ d ∈ n, t < d.1) (hs : Srt m) (hns : n.Sublist m) : x.Perm (due m t) ∧ n = stay m t := by
  constructor
  · have h1 := hp.filter fun d => decide (d.1 ≤ t)
    rw [List.filter_append, List.filter_eq_self.2 (fun d hd => by simpa using hx d hd), List.filter_eq_nil_iff.2 (fun d hd => by have := hn d hd; simp; omega), List.append_nil] at h1
    exact h1
  · have h1 := hp.filter fun d => decide (t < d.1)
    rw [List.filter_append, List.filter_eq_nil_iff.2 (fun d hd => by have := hx d hd; simp; omega), List.filter_eq_self.2 (fun d hd => by simpa using hn d hd), List.nil_append] at h1
    exact srt_unique (hs.sublist hns) (hs.sublist (stay_sub m t)) h1
end Go.Proofs.Ytlodfipiodlgdaa
