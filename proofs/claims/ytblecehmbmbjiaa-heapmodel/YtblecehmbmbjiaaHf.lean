/- Heaps as functions from places to keys: what moving a key up or down does. -/
import Derived.Test.YtblecehmbmbjiaaSp
namespace Go.Proofs.Ytblecehmbmbjiaa

/-- The place above. -/
def up1 (j : Nat) : Nat := (j - 1) / 2
theorem up1_lt {j : Nat} (h : 0 < j) : up1 j < j := by unfold up1; omega
/-- No key is less than the one above it. -/
def Hp (n : Nat) (f : Nat → Ky) : Prop := ∀ j, 0 < j → j < n → ¬ Lt (f j) (f (up1 j))
/-- What is below i isn't less than what is above i. -/
def Gp (n : Nat) (f : Nat → Ky) (i : Nat) : Prop := ∀ j, 0 < i → 0 < j → j < n → up1 j = i → ¬ Lt (f j) (f (up1 i))
/-- A heap but for the key at i. -/
def Ex (n : Nat) (f : Nat → Ky) (i : Nat) : Prop := (∀ j, 0 < j → j < n → j ≠ i → up1 j ≠ i → ¬ Lt (f j) (f (up1 j))) ∧ Gp n f i
/-- A heap, but that the key at i may be less than the one above it. -/
def Ups (n : Nat) (f : Nat → Ky) (i : Nat) : Prop := (∀ j, 0 < j → j < n → j ≠ i → ¬ Lt (f j) (f (up1 j))) ∧ Gp n f i
/-- A heap, but that the key at i may be greater than one below it. -/
def Dns (n : Nat) (f : Nat → Ky) (i : Nat) : Prop := (∀ j, 0 < j → j < n → up1 j ≠ i → ¬ Lt (f j) (f (up1 j))) ∧ Gp n f i
def sw (f : Nat → Ky) (i j : Nat) : Nat → Ky := fun k => if k = i then f j else if k = j then f i else f k

section
variable {n : Nat} {f : Nat → Ky} {i m : Nat}
theorem Ups.ex (h : Ups n f i) : Ex n f i := ⟨fun j h0 hn hi _ => h.1 j h0 hn hi, h.2⟩
theorem Hp.dns (h : Hp n f) (i : Nat) : Dns n f i :=
  ⟨fun j h0 hn _ => h j h0 hn, fun j hi h0 hn hu => by
    have h1 := h j h0 hn
    have h2 := h i hi (by have := up1_lt h0; omega)
    rw [hu] at h1
    exact le_trans h2 h1⟩
theorem Ex.up (h : Ex n f i) (hi : 0 < i) (hn : i < n) (hl : Lt (f i) (f (up1 i))) : Ups n (sw f i (up1 i)) (up1 i) := by
  have hp : up1 i < i := up1_lt hi
  obtain ⟨h1, h2⟩ := h
  constructor
  · intro j h0 hjn hj
    have hj2 : up1 j < j := up1_lt h0
    unfold sw
    by_cases e1 : j = i
    · subst e1
      rw [if_pos rfl, if_neg (by omega), if_pos rfl]
      exact hl.asymm
    · rw [if_neg e1, if_neg hj]
      by_cases e2 : up1 j = i
      · rw [if_pos e2]
        exact h2 j hi h0 hjn e2
      · rw [if_neg e2]
        by_cases e3 : up1 j = up1 i
        · rw [if_pos e3]
          have := h1 j h0 hjn e1 e2
          rw [e3] at this
          exact fun h' => this (h'.trans hl)
        · rw [if_neg e3]
          exact h1 j h0 hjn e1 e2
  · intro j hp0 h0 hjn hj
    have hq : up1 (up1 i) < up1 i := up1_lt hp0
    have hqq := h1 (up1 i) hp0 (by omega) (by omega) (by omega)
    unfold sw
    rw [if_neg (show up1 (up1 i) ≠ i by omega), if_neg (show up1 (up1 i) ≠ up1 i by omega)]
    by_cases e1 : j = i
    · rw [if_pos e1]
      exact hqq
    · rw [if_neg e1]
      have hj2 : up1 j < j := up1_lt h0
      rw [if_neg (by omega)]
      have := h1 j h0 hjn e1 (by omega)
      rw [hj] at this
      exact le_trans hqq this
theorem Ups.hp (h : Ups n f i) (hl : 0 < i → ¬ Lt (f i) (f (up1 i))) : Hp n f := fun j h0 hn => by
  by_cases e : j = i
  · subst e; exact hl h0
  · exact h.1 j h0 hn e
theorem Ex.dns (h : Ex n f i) (hl : 0 < i → ¬ Lt (f i) (f (up1 i))) : Dns n f i := ⟨fun j h0 hn hu => by
  by_cases e : j = i
  · subst e; exact hl h0
  · exact h.1 j h0 hn e hu, h.2⟩
theorem Dns.hp (h : Dns n f i) (hl : ∀ j, 0 < j → j < n → up1 j = i → ¬ Lt (f j) (f i)) : Hp n f := fun j h0 hn => by
  by_cases e : up1 j = i
  · rw [e]; exact hl j h0 hn e
  · exact h.1 j h0 hn e
theorem Dns.down (h : Dns n f i) (h0 : 0 < m) (hm : m < n) (hu : up1 m = i) (hl : Lt (f m) (f i)) (ha : ∀ j, 0 < j → j < n → up1 j = i → ¬ Lt (f j) (f m)) : Dns n (sw f i m) m := by
  have him : i < m := by have := up1_lt h0; omega
  obtain ⟨h1, h2⟩ := h
  constructor
  · intro j hj0 hjn hjm
    have hj2 : up1 j < j := up1_lt hj0
    unfold sw
    by_cases e1 : j = i
    · subst e1
      rw [if_pos rfl, if_neg (by omega), if_neg (by omega)]
      exact h2 m hj0 h0 hm hu
    · rw [if_neg e1]
      by_cases e2 : j = m
      · subst e2
        rw [if_pos rfl, if_pos hu]
        exact hl.asymm
      · rw [if_neg e2, if_neg hjm]
        by_cases e3 : up1 j = i
        · rw [if_pos e3]
          exact ha j hj0 hjn e3
        · rw [if_neg e3]
          exact h1 j hj0 hjn e3
  · intro j hm0 hj0 hjn hjm
    have hj2 : up1 j < j := up1_lt hj0
    unfold sw
    rw [if_neg (show j ≠ i by omega), if_neg (show j ≠ m by omega), hu, if_pos rfl]
    have := h1 j hj0 hjn (by omega)
    rw [hjm] at this
    exact this
/-- The first key is the least. -/
theorem Hp.root (h : Hp n f) : ∀ j, j < n → ¬ Lt (f j) (f 0) := by
  intro j
  induction j using Nat.strongRecOn with
  | ind j ih =>
    intro hj
    by_cases h0 : j = 0
    · subst h0; exact Lt.irrefl _
    · have hu := up1_lt (j := j) (by omega)
      exact le_trans (ih _ hu (by omega)) (h j (by omega) hj)
end

/-- A list's keys as a function. -/
def kf (l : List Ky) : Nat → Ky := fun i => l[i]?.getD (0, 0, 0, 0)
theorem kf_at {l : List Ky} {i : Nat} {k : Ky} (h : l[i]? = some k) : kf l i = k := by unfold kf; rw [h]; rfl
theorem kf_lt {l : List Ky} {i : Nat} (h : i < l.length) : l[i]? = some (kf l i) := by unfold kf; rw [List.getElem?_eq_getElem h]; rfl
/-- Two keys change places. -/
def swL (l : List Ky) (i j : Nat) : List Ky := (l.set i (kf l j)).set j (kf l i)
theorem length_swL (l : List Ky) (i j : Nat) : (swL l i j).length = l.length := by simp [swL]
theorem kf_swL {l : List Ky} {i j : Nat} (hi : i < l.length) (hj : j < l.length) : kf (swL l i j) = sw (kf l) i j := by
  funext k
  unfold swL sw
  by_cases hk : k < l.length
  · by_cases e1 : k = j
    · subst e1
      rw [kf_at (k := kf l i) (by rw [List.getElem?_set_self (by simpa using hk)])]
      by_cases e2 : k = i
      · rw [if_pos e2, e2]
      · rw [if_neg e2, if_pos rfl]
    · by_cases e2 : k = i
      · subst e2
        rw [if_pos rfl, kf_at (k := kf l j) (by rw [List.getElem?_set_ne (Ne.symm e1), List.getElem?_set_self hk])]
      · rw [if_neg e2, if_neg e1]
        unfold kf
        rw [List.getElem?_set_ne (Ne.symm e1), List.getElem?_set_ne (Ne.symm e2)]
  · rw [if_neg (by omega), if_neg (by omega)]
    unfold kf
    rw [List.getElem?_eq_none (by simp; omega), List.getElem?_eq_none (by omega)]
theorem set_perm : ∀ {l : List Ky} {i : Nat} {a : Ky} (b : Ky), l[i]? = some a → (a :: l.set i b).Perm (b :: l)
  | [], _, _, _, h => by simp at h
  | x :: l, 0, a, b, h => by
    have : x = a := by simpa using h
    subst this
    simp only [List.set_cons_zero]
    exact List.Perm.swap _ _ _
  | x :: l, i + 1, a, b, h => by
    simp only [List.set_cons_succ]
    have := set_perm (l := l) (i := i) (a := a) b (by simpa using h)
    exact (List.Perm.swap _ _ _).trans ((this.cons x).trans (List.Perm.swap _ _ _))
theorem swL_perm {l : List Ky} {i j : Nat} (hi : i < l.length) (hj : j < l.length) : (swL l i j).Perm l := by
  unfold swL
  have h1 : l[i]? = some (kf l i) := kf_lt hi
  have p1 := set_perm (kf l j) h1
  have h2 : (l.set i (kf l j))[j]? = some (kf l j) := by
    by_cases e : j = i
    · subst e; rw [List.getElem?_set_self hi]
    · rw [List.getElem?_set_ne (Ne.symm e)]; exact kf_lt hj
  have p2 := set_perm (kf l i) h2
  exact List.Perm.cons_inv ((p2.trans p1))
end Go.Proofs.Ytblecehmbmbjiaa
