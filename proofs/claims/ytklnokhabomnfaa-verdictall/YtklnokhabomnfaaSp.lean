/- Sets of tasks as plain lists: what is asked of a task, and why a set isn't right. -/
import Derived.Test.YtklnokhabomnfaaNm
namespace Go.Proofs.Ytklnokhabomnfaa

structure Tk where
  name : ByteArray
  T : Int
  D : Int
  C : Int
  A : Int
  Seg : Int
  Cost : Int
  M : Int
  K : Int
  Mode : Int
  Prio : Int

abbrev timesOk (t : Tk) : Prop := 1 ≤ t.C ∧ t.C ≤ t.D ∧ t.D ≤ t.T ∧ t.T ≤ 1048576 ∧ 0 ≤ t.Cost ∧ t.Cost ≤ 1000
abbrev modeOk (t : Tk) : Prop := (t.Mode = 1 ∧ 1 ≤ t.Seg ∧ t.Seg ≤ t.C ∧ t.A = 0) ∨ ((t.Mode = 2 ∨ t.Mode = 3) ∧ 1 ≤ t.A ∧ t.A ≤ t.D ∧ t.Seg = 0)
abbrev firmOk (t : Tk) : Prop := 1 ≤ t.M ∧ t.M ≤ t.K ∧ t.K ≤ 64
def bTimes (t : Tk) : Bool := !decide (timesOk t)
def bMode (t : Tk) : Bool := !decide (modeOk t)
def bFirm (t : Tk) : Bool := !decide (firmOk t)
def hasName (e : List Tk) (n : ByteArray) : Bool := e.any fun x => decide (x.name = n)
def hasPrio (e : List Tk) (p : Int) : Bool := e.any fun x => decide (x.Prio = p)
def prioIn (t : Tk) : Bool := decide (0 ≤ t.Prio) && decide (t.Prio ≤ 255)
def bName (e : List Tk) (t : Tk) : Bool := !nm t.name || hasName e t.name
def bPrio (e : List Tk) (t : Tk) : Bool := !prioIn t || hasPrio e t.Prio
/-- Which of the five questions has the first yes; 0: none. -/
def bad1 (e : List Tk) (t : Tk) : Int := if bName e t then 3 else if bTimes t then 4 else if bMode t then 5 else if bFirm t then 6 else if bPrio e t then 7 else 0
def whyG (e : List Tk) : List Tk → Int × Int
  | [] => (0, -1)
  | t :: r => if bad1 e t = 0 then whyG (e ++ [t]) r else (bad1 e t, (e.length : Int))
def whyF (b : Int) (l : List Tk) : Int × Int := if 1 ≤ b ∧ b ≤ 1000 then (if 1 ≤ l.length ∧ l.length ≤ 16 then whyG [] l else (2, -1)) else (1, -1)

theorem whyF_burst {b : Int} {l : List Tk} (h : ¬ (1 ≤ b ∧ b ≤ 1000)) : whyF b l = (1, -1) := if_neg h
theorem whyF_count {b : Int} {l : List Tk} (h : 1 ≤ b ∧ b ≤ 1000) (h' : ¬ (1 ≤ l.length ∧ l.length ≤ 16)) : whyF b l = (2, -1) := by unfold whyF; rw [if_pos h, if_neg h']
theorem whyF_go {b : Int} {l : List Tk} (h : 1 ≤ b ∧ b ≤ 1000) (h' : 1 ≤ l.length ∧ l.length ≤ 16) : whyF b l = whyG [] l := by unfold whyF; rw [if_pos h, if_pos h']
theorem take_next {l : List Tk} {k : Nat} {t : Tk} (h : l[k]? = some t) : l.take (k + 1) = l.take k ++ [t] := by rw [List.take_add_one, h]; rfl
theorem drop_next {l : List Tk} {k : Nat} {t : Tk} (h : l[k]? = some t) : l.drop k = t :: l.drop (k + 1) := by
  obtain ⟨h1, h2⟩ := List.getElem?_eq_some_iff.1 h
  rw [List.drop_eq_getElem_cons h1, h2]
theorem whyG_next {l : List Tk} {k : Nat} {t : Tk} (h : l[k]? = some t) (h0 : bad1 (l.take k) t = 0) : whyG (l.take k) (l.drop k) = whyG (l.take (k + 1)) (l.drop (k + 1)) := by
  rw [drop_next h, whyG, if_pos h0, take_next h]
theorem whyG_stop {l : List Tk} {k : Nat} {t : Tk} (h : l[k]? = some t) (h0 : bad1 (l.take k) t ≠ 0) : whyG (l.take k) (l.drop k) = (bad1 (l.take k) t, (k : Int)) := by
  have hk := (List.getElem?_eq_some_iff.1 h).1
  rw [drop_next h, whyG, if_neg h0, List.length_take, Nat.min_eq_left (by omega)]

/-- A set is right, place by place. -/
theorem whyG_fine (r : List Tk) : ∀ e : List Tk, (whyG e r).1 = 0 ↔ ∀ i t, r[i]? = some t → bad1 (e ++ r.take i) t = 0 := by
  induction r with
  | nil => intro e; simp [whyG]
  | cons t r ih =>
    intro e
    unfold whyG
    by_cases h : bad1 e t = 0
    · rw [if_pos h, ih]
      constructor
      · intro H i x hx
        cases i with
        | zero =>
          have : t = x := by simpa using hx
          subst this
          simpa using h
        | succ i =>
          have := H i x (by simpa using hx)
          simpa using this
      · intro H i x hx
        have := H (i + 1) x (by simpa using hx)
        simpa using this
    · rw [if_neg h]
      constructor
      · intro H; exact absurd H h
      · intro H
        exact absurd (by simpa using H 0 t rfl) h
theorem whyG_snd (r : List Tk) : ∀ e : List Tk, (whyG e r).1 = 0 → whyG e r = (0, -1) := by
  induction r with
  | nil => intro e _; rfl
  | cons t r ih =>
    intro e h
    unfold whyG at h ⊢
    by_cases h' : bad1 e t = 0
    · rw [if_pos h'] at h ⊢; exact ih _ h
    · rw [if_neg h'] at h; exact absurd h h'
theorem right_iff (b : Int) (l : List Tk) : (whyF b l).1 = 0 ↔ (1 ≤ b ∧ b ≤ 1000) ∧ (1 ≤ l.length ∧ l.length ≤ 16) ∧ ∀ i t, l[i]? = some t → bad1 (l.take i) t = 0 := by
  unfold whyF
  by_cases hb : 1 ≤ b ∧ b ≤ 1000
  · rw [if_pos hb]
    by_cases hl : 1 ≤ l.length ∧ l.length ≤ 16
    · rw [if_pos hl, whyG_fine]
      simp [hb, hl]
    · rw [if_neg hl]
      constructor
      · intro h; cases h
      · intro h; exact absurd h.2.1 hl
  · rw [if_neg hb]
    constructor
    · intro h; cases h
    · intro h; exact absurd h.1 hb
theorem right_eq {b : Int} {l : List Tk} (h : (whyF b l).1 = 0) : whyF b l = (0, -1) := by
  have h' := (right_iff b l).1 h
  have e := whyF_go h'.1 h'.2.1
  rw [e] at h ⊢
  exact whyG_snd _ _ h
theorem bad1_name {e : List Tk} {t : Tk} (h : bName e t = true) : bad1 e t = 3 := if_pos h
theorem bad1_times {e : List Tk} {t : Tk} (h : bName e t = false) (h2 : bTimes t = true) : bad1 e t = 4 := by simp [bad1, h, h2]
theorem bad1_mode {e : List Tk} {t : Tk} (h : bName e t = false) (h2 : bTimes t = false) (h3 : bMode t = true) : bad1 e t = 5 := by simp [bad1, h, h2, h3]
theorem bad1_firm {e : List Tk} {t : Tk} (h : bName e t = false) (h2 : bTimes t = false) (h3 : bMode t = false) (h4 : bFirm t = true) : bad1 e t = 6 := by simp [bad1, h, h2, h3, h4]
theorem bad1_prio {e : List Tk} {t : Tk} (h : bName e t = false) (h2 : bTimes t = false) (h3 : bMode t = false) (h4 : bFirm t = false) (h5 : bPrio e t = true) : bad1 e t = 7 := by simp [bad1, h, h2, h3, h4, h5]
theorem bad1_fine {e : List Tk} {t : Tk} (h : bName e t = false) (h2 : bTimes t = false) (h3 : bMode t = false) (h4 : bFirm t = false) (h5 : bPrio e t = false) : bad1 e t = 0 := by simp [bad1, h, h2, h3, h4, h5]
theorem bad1_zero {e : List Tk} {t : Tk} (h : bad1 e t = 0) : bName e t = false ∧ bTimes t = false ∧ bMode t = false ∧ bFirm t = false ∧ bPrio e t = false := by
  unfold bad1 at h
  cases h1 : bName e t <;> cases h2 : bTimes t <;> cases h3 : bMode t <;> cases h4 : bFirm t <;> cases h5 : bPrio e t <;> simp [h1, h2, h3, h4, h5] at h ⊢
end Go.Proofs.Ytklnokhabomnfaa
