/- Verdicts, plain: a set whose tasks up to some place are judged; what follows. -/
import Derived.Test.YtklnokhabomnfaaFq
namespace Go.Proofs.Ytklnokhabomnfaa

/-- No two tasks have the same priority. -/
def Apart (l : List Tk) : Prop := ∀ (i j : Nat) (t u : Tk), l[i]? = some t → l[j]? = some u → t.Prio = u.Prio → i = j
/-- The response times of the tasks of Q, zeros of the others. -/
def Upto (b g : Int) (l : List Tk) (Q : Nat → Prop) (R : List Int) : Prop :=
  R.length = l.length ∧ ∀ k o, l[k]? = some o → (Q k → ∃ r, R[k]? = some r ∧ Resp (nextV b l o g) o.D r true) ∧ (¬ Q k → R[k]? = some 0)
/-- The verdict. -/
def Verd (b g : Int) (l : List Tk) (ok : Bool) (late : Int) (R : List Int) : Prop :=
  (ok = true ∧ late = -1 ∧ Upto b g l (fun _ => True) R)
  ∨ (ok = false ∧ ∃ (m : Nat) (o : Tk), late = (m : Int) ∧ l[m]? = some o ∧ Resp (nextV b l o g) o.D 0 false ∧ Upto b g l (fun k => ∀ t, l[k]? = some t → t.Prio < o.Prio) R)
section
variable {b g : Int} {l : List Tk} {Q Q' : Nat → Prop} {R R' : List Int} {ok is : Bool} {late y : Int} {k m : Nat} {o : Tk}
theorem at_len {α β : Type} {R : List α} {l : List β} {k : Nat} {o : β} (h : R.length = l.length) (ho : l[k]? = some o) : k < R.length := by
  rw [h]; exact (List.getElem?_eq_some_iff.1 ho).1
theorem Upto.none (h : R.length = l.length) (h0 : ∀ k, k < l.length → R[k]? = some 0) (hq : ∀ k, ¬ Q k) : Upto b g l Q R :=
  ⟨h, fun k _ ho => ⟨fun hk => absurd hk (hq k), fun _ => h0 k (List.getElem?_eq_some_iff.1 ho).1⟩⟩
theorem Upto.cong (h : Upto b g l Q R) (e : ∀ k, k < l.length → (Q k ↔ Q' k)) : Upto b g l Q' R :=
  ⟨h.1, fun k t ho => by
    have hk := (List.getElem?_eq_some_iff.1 ho).1
    have := h.2 k t ho
    exact ⟨fun hq => this.1 ((e k hk).2 hq), fun hq => this.2 (fun hq' => hq ((e k hk).1 hq'))⟩⟩
theorem Upto.next {r : Int} (h : Upto b g l Q R) (ho : l[m]? = some o) (hr : Resp (nextV b l o g) o.D r true) : Upto b g l (fun k => Q k ∨ k = m) (R.set m r) := by
  refine ⟨by rw [List.length_set]; exact h.1, fun k t hk => ?_⟩
  by_cases hkm : k = m
  · subst hkm
    rw [ho] at hk; cases hk
    refine ⟨fun _ => ⟨r, ?_, hr⟩, fun hn => absurd (.inr rfl) hn⟩
    rw [List.getElem?_set_self (at_len h.1 ho)]
  · rw [List.getElem?_set_ne (fun e => hkm e.symm)]
    have := h.2 k t hk
    exact ⟨fun hq => this.1 (hq.resolve_right hkm), fun hq => this.2 (fun hq' => hq (.inl hq'))⟩
theorem Upto.all (h : Upto b g l Q R) (e : ∀ k, k < l.length → Q k) : Verd b g l true (-1) R := .inl ⟨rfl, rfl, h.cong (fun k hk => ⟨fun _ => trivial, fun _ => e k hk⟩)⟩
theorem Upto.stop (h : Upto b g l Q R) (ho : l[m]? = some o) (hr : Resp (nextV b l o g) o.D 0 false) (e : ∀ k t, l[k]? = some t → (Q k ↔ t.Prio < o.Prio)) : Verd b g l false (m : Int) R :=
  .inr ⟨rfl, m, o, rfl, ho, hr, h.cong (fun k hk => by
    have hx := List.getElem?_eq_getElem hk
    rw [e k _ hx]
    exact ⟨fun h t ht => by rw [hx] at ht; cases ht; exact h, fun h => h _ hx⟩)⟩
theorem Upto.same (h : Upto b g l Q R) (h' : Upto b g l Q R') : R = R' := by
  refine List.ext_getElem? fun k => ?_
  by_cases hk : k < l.length
  · have hx := List.getElem?_eq_getElem hk
    have a := h.2 k _ hx
    have c := h'.2 k _ hx
    by_cases hq : Q k
    · obtain ⟨r, e1, hr⟩ := a.1 hq
      obtain ⟨r', e2, hr'⟩ := c.1 hq
      rw [e1, e2, (hr.same hr').1]
    · rw [a.2 hq, c.2 hq]
  · rw [List.getElem?_eq_none (by have := h.1; omega), List.getElem?_eq_none (by have := h'.1; omega)]
theorem Verd.len (h : Verd b g l ok late R) : R.length = l.length := by
  rcases h with ⟨_, _, h⟩ | ⟨_, _, _, _, _, _, h⟩ <;> exact h.1
theorem Verd.yes (h : Verd b g l true late R) : late = -1 ∧ ∀ (k : Nat) (o : Tk), l[k]? = some o → ∃ r, R[k]? = some r ∧ Resp (nextV b l o g) o.D r true := by
  rcases h with ⟨_, e, h⟩ | ⟨e, _⟩
  · exact ⟨e, fun k o ho => (h.2 k o ho).1 trivial⟩
  · cases e
theorem Verd.no (h : Verd b g l false late R) : ∃ (m : Nat) (o : Tk), late = (m : Int) ∧ l[m]? = some o ∧ Resp (nextV b l o g) o.D 0 false ∧ Upto b g l (fun k => ∀ t, l[k]? = some t → t.Prio < o.Prio) R := by
  rcases h with ⟨e, _⟩ | ⟨_, h⟩
  · cases e
  · exact h
/-- There is but one. -/
theorem Verd.same (hd : Apart l) (h : Verd b g l ok late R) (h' : Verd b g l is y R') : ok = is ∧ late = y ∧ R = R' := by
  cases ok <;> cases is
  · obtain ⟨m, o, rfl, ho, hr, hu⟩ := h.no
    obtain ⟨m', o', rfl, ho', hr', hu'⟩ := h'.no
    have key : ¬ o.Prio < o'.Prio := fun hlt => by
      obtain ⟨r, _, h1⟩ := (hu'.2 m o ho).1 (fun t ht => by rw [ho] at ht; cases ht; exact hlt)
      exact Bool.noConfusion (h1.same hr).2
    have key' : ¬ o'.Prio < o.Prio := fun hlt => by
      obtain ⟨r, _, h1⟩ := (hu.2 m' o' ho').1 (fun t ht => by rw [ho'] at ht; cases ht; exact hlt)
      exact Bool.noConfusion (h1.same hr').2
    obtain rfl := hd m m' o o' ho ho' (by omega)
    rw [ho] at ho'; cases ho'
    exact ⟨rfl, rfl, hu.same hu'⟩
  · obtain ⟨m, o, rfl, ho, hr, hu⟩ := h.no
    obtain ⟨r, _, h1⟩ := h'.yes.2 m o ho
    exact Bool.noConfusion (h1.same hr).2
  · obtain ⟨m, o, rfl, ho, hr, hu⟩ := h'.no
    obtain ⟨r, _, h1⟩ := h.yes.2 m o ho
    exact Bool.noConfusion (h1.same hr).2
  · rcases h with ⟨_, e, h⟩ | ⟨e, _⟩
    · rcases h' with ⟨_, e', h'⟩ | ⟨e', _⟩
      · exact ⟨rfl, by rw [e, e'], h.same h'⟩
      · cases e'
    · cases e
end
/-- A row of places, no two alike, has them all. -/
theorem places_all (o : Nat → Nat) : ∀ n, (∀ i, i < n → o i < n) → (∀ i j, i < n → j < n → o i = o j → i = j) → ∀ k, k < n → ∃ i, i < n ∧ o i = k := by
  intro n
  induction n generalizing o with
  | zero => intro _ _ k hk; omega
  | succ n ih =>
    intro hb hi k hk
    by_cases hn : o n = n
    · by_cases hkn : k = n
      · exact ⟨n, by omega, by omega⟩
      · obtain ⟨i, h1, h2⟩ := ih o (fun i h => by
          have := hb i (by omega)
          have : o i ≠ n := fun e => by have := hi i n (by omega) (by omega) (by omega); omega
          omega) (fun i j h1 h2 => hi i j (by omega) (by omega)) k (by omega)
        exact ⟨i, by omega, h2⟩
    · obtain ⟨p, hp⟩ : ∃ p : Nat → Nat, ∀ i, p i = if o i = n then o n else o i := ⟨_, fun _ => rfl⟩
      have hon := hb n (by omega)
      have H := ih p (fun i h => by
        have := hb i (by omega)
        rw [hp]; split <;> omega) (fun i j h1 h2 e => by
        rw [hp, hp] at e
        split at e <;> split at e
        · exact hi i j (by omega) (by omega) (by omega)
        · have := hi n j (by omega) (by omega) e; omega
        · have := hi i n (by omega) (by omega) e; omega
        · exact hi i j (by omega) (by omega) e)
      by_cases hkn : k = n
      · obtain ⟨i, h1, h2⟩ := H (o n) (by omega)
        rw [hp] at h2
        split at h2
        · exact ⟨i, by omega, by omega⟩
        · have := hi i n (by omega) (by omega) h2; omega
      · obtain ⟨i, h1, h2⟩ := H k (by omega)
        rw [hp] at h2
        split at h2
        · exact ⟨n, by omega, h2⟩
        · exact ⟨i, by omega, h2⟩
/-- The first j places of the order are those of a higher priority than the next. -/
theorem order_iff {l : List Tk} {o : Nat → Nat} {j : Nat} {u : Tk} (hd : Apart l) (hp : ∀ i, i < l.length → o i < l.length) (hi : ∀ i j, i < l.length → j < l.length → o i = o j → i = j)
    (hs : ∀ a c t u, a < c → c < l.length → l[o a]? = some t → l[o c]? = some u → t.Prio ≤ u.Prio) (hj : j < l.length) (hu : l[o j]? = some u) {k : Nat} {t : Tk} (ht : l[k]? = some t) :
    (∃ i, i < j ∧ o i = k) ↔ t.Prio < u.Prio := by
  have hk := (List.getElem?_eq_some_iff.1 ht).1
  constructor
  · rintro ⟨i, h1, rfl⟩
    have h2 := hs i j t u h1 hj ht hu
    have h3 : t.Prio ≠ u.Prio := fun e => by
      have := hi i j (by omega) hj (hd _ _ t u ht hu e); omega
    omega
  · intro hlt
    obtain ⟨i, h1, rfl⟩ := places_all o _ hp hi k hk
    refine ⟨i, ?_, rfl⟩
    rcases Nat.lt_trichotomy i j with h | h | h
    · exact h
    · subst h
      rw [hu] at ht; cases ht; omega
    · have := hs j i u t h h1 hu ht; omega

/- The recurrence of a list that is turned, cut, changed. -/
section
variable {b g w : Int} {l l' : List Tk} {q q' : Tk → Bool} {o t : Tk}
theorem fold_le (q : Tk → Bool) : ∀ (l : List Tk) (m x : Int), l.foldl (fun m t => if q t = true then max m (extraV t) else m) m ≤ x ↔ m ≤ x ∧ ∀ t ∈ l, q t = true → extraV t ≤ x := by
  intro l
  induction l with
  | nil => intro m x; simp
  | cons t l ih =>
    intro m x
    rw [List.foldl_cons, ih]
    simp only [List.forall_mem_cons]
    by_cases h : q t = true
    · rw [if_pos h]
      constructor
      · intro ⟨h1, h2⟩; exact ⟨by omega, fun _ => by omega, h2⟩
      · intro ⟨h1, h2, h3⟩; have := h2 h; exact ⟨by omega, h3⟩
    · rw [if_neg h]
      constructor
      · intro ⟨h1, h2⟩; exact ⟨h1, fun e => absurd e h, h2⟩
      · intro ⟨h1, h2, h3⟩; exact ⟨h1, h3⟩
theorem maxE_le (x : Int) : maxE q l ≤ x ↔ 0 ≤ x ∧ ∀ t ∈ l, q t = true → extraV t ≤ x := fold_le q l 0 x
theorem maxE_sub (h : ∀ t ∈ l, t ∈ l') : maxE q l ≤ maxE q l' := by
  have := (maxE_le (q := q) (l := l') _).1 (Int.le_refl _)
  exact (maxE_le _).2 ⟨this.1, fun t ht => this.2 t (h t ht)⟩
theorem maxE_same (h : ∀ t, t ∈ l ↔ t ∈ l') : maxE q l = maxE q l' := Int.le_antisymm (maxE_sub (fun t => (h t).1)) (maxE_sub (fun t => (h t).2))
theorem abL_append (p : Int) (l l' : List Tk) : abL p (l ++ l') = abL p l ++ abL p l' := by
  unfold abL; rw [List.filter_append, List.map_append]
theorem sumA_append (w : Int) (L L' : List (Int × Int)) : sumA w (L ++ L') = sumA w L + sumA w L' := by
  unfold sumA; rw [List.map_append, List.sum_append]
theorem next_turned : nextV b (l' ++ l) o g = nextV b (l ++ l') o g := by
  have h : ∀ t, t ∈ l' ++ l ↔ t ∈ l ++ l' := fun t => by simp only [List.mem_append]; exact Or.comm
  funext w
  unfold nextV onceV struckV
  rw [maxE_same h, maxE_same h, abL_append, abL_append, sumA_append, sumA_append, Int.add_comm (sumA w (abL o.Prio l'))]
/-- Without a task below nothing grows. -/
theorem next_without (hb : 0 ≤ b) (hm : 0 ≤ mostF w b g) (hp : o.Prio ≤ t.Prio) : nextV b (l ++ l') o g w ≤ nextV b (l ++ t :: l') o g w := by
  have h : ∀ u, u ∈ l ++ l' → u ∈ l ++ t :: l' := fun u hu => by
    rcases List.mem_append.1 hu with h | h
    · exact List.mem_append_left _ h
    · exact List.mem_append_right _ (List.mem_cons_of_mem _ h)
  have e : abL o.Prio (l ++ t :: l') = abL o.Prio (l ++ l') := by
    rw [abL_append, abL_append]
    congr 1
    unfold abL
    rw [List.filter_cons_of_neg (by simp; omega)]
  have h1 := maxE_sub (q := aheadQ o.Prio) h
  have h2 := Int.mul_le_mul_of_nonneg_left (Int.mul_le_mul_of_nonneg_left (maxE_sub (q := dearQ o.Prio) h) hb) hm
  unfold nextV onceV struckV
  rw [e]
  omega
/-- Which jobs may be skipped changes nothing. -/
theorem fold_map {f : Tk → Tk} (hq : ∀ t, q (f t) = q' t) (he : ∀ t, extraV (f t) = extraV t) : ∀ (l : List Tk) (m : Int), (l.map f).foldl (fun m t => if q t = true then max m (extraV t) else m) m = l.foldl (fun m t => if q' t = true then max m (extraV t) else m) m := by
  intro l
  induction l with
  | nil => intro m; rfl
  | cons t l ih =>
    intro m
    rw [List.map_cons, List.foldl_cons, List.foldl_cons, hq, he]
    exact ih _
end
end Go.Proofs.Ytklnokhabomnfaa
