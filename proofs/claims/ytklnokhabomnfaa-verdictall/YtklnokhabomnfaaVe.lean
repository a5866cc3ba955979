/- Sets that are turned, cut, or changed in what may be skipped: they are right, too; their verdicts. -/
import Derived.Test.YtklnokhabomnfaaVd
import Derived.Test.YtklnokhabomnfaaGd
namespace Go.Proofs.Ytklnokhabomnfaa

/-- Of a right set tasks are taken, each once. -/
theorem right_of {b : Int} {l l' : List Tk} (h : (whyF b l).1 = 0) (n1 : 1 ≤ l'.length) (n2 : l'.length ≤ 16) (f : Nat → Nat) (hf : ∀ i j, i < j → j < l'.length → f i ≠ f j)
    (hl : ∀ i t', l'[i]? = some t' → ∃ t, l[f i]? = some t ∧ t'.name = t.name ∧ t'.Prio = t.Prio ∧ bTimes t' = false ∧ bMode t' = false ∧ bFirm t' = false) : (whyF b l').1 = 0 := by
  obtain ⟨hb, hn, ha⟩ := (right_iff b l).1 h
  have far : ∀ (i j : Nat) (t u : Tk), l[i]? = some t → l[j]? = some u → i < j → t.name ≠ u.name ∧ t.Prio ≠ u.Prio := fun i j t u hi hj hij => by
    obtain ⟨h1, _, _, _, h5⟩ := bad1_zero (ha j u hj)
    have hm : t ∈ l.take j := List.mem_of_getElem? (i := i) (by rw [List.getElem?_take, if_pos hij]; exact hi)
    unfold bName hasName at h1
    unfold bPrio hasPrio at h5
    simp only [Bool.or_eq_false_iff, List.any_eq_false, decide_eq_true_eq] at h1 h5
    exact ⟨h1.2 t hm, h5.2 t hm⟩
  have far2 : ∀ (i j : Nat) (t u : Tk), l[i]? = some t → l[j]? = some u → i ≠ j → t.name ≠ u.name ∧ t.Prio ≠ u.Prio := fun i j t u hi hj hij => by
    rcases Nat.lt_or_gt_of_ne hij with h | h
    · exact far i j t u hi hj h
    · have := far j i u t hj hi h
      exact ⟨fun e => this.1 e.symm, fun e => this.2 e.symm⟩
  refine (right_iff b l').2 ⟨hb, ⟨n1, n2⟩, fun i t' hi => ?_⟩
  obtain ⟨t, ht, e1, e2, e3, e4, e5⟩ := hl i t' hi
  obtain ⟨h1, _, _, _, h5⟩ := bad1_zero (ha _ t ht)
  have hil := (List.getElem?_eq_some_iff.1 hi).1
  have key : ∀ x ∈ l'.take i, x.name ≠ t'.name ∧ x.Prio ≠ t'.Prio := fun x hx => by
    obtain ⟨j, hj⟩ := List.getElem?_of_mem hx
    rw [List.getElem?_take] at hj
    split at hj
    · rename_i hji
      obtain ⟨u, hu, d1, d2, _⟩ := hl j x hj
      have := far2 (f j) (f i) u t hu ht (hf j i hji hil)
      rw [d1, d2, e1, e2]; exact this
    · cases hj
  refine bad1_fine ?_ e3 e4 e5 ?_
  · unfold bName at h1 ⊢
    unfold hasName
    simp only [Bool.or_eq_false_iff, List.any_eq_false, decide_eq_true_eq] at h1 ⊢
    exact ⟨by rw [e1]; exact h1.1, fun x hx => (key x hx).1⟩
  · unfold bPrio prioIn at h5 ⊢
    unfold hasPrio
    simp only [Bool.or_eq_false_iff, List.any_eq_false, decide_eq_true_eq] at h5 ⊢
    exact ⟨by rw [e2]; exact h5.1, fun x hx => (key x hx).2⟩
theorem own_right {b : Int} {l : List Tk} (h : (whyF b l).1 = 0) {i : Nat} {t : Tk} (ht : l[i]? = some t) : bTimes t = false ∧ bMode t = false ∧ bFirm t = false := by
  obtain ⟨_, h2, h3, h4, _⟩ := bad1_zero (((right_iff b l).1 h).2.2 i t ht)
  exact ⟨h2, h3, h4⟩
theorem firm_is {t : Tk} (h : bFirm t = false) : 1 ≤ t.M ∧ t.M ≤ t.K ∧ t.K ≤ 64 := by
  unfold bFirm at h
  simp only [Bool.not_eq_false', decide_eq_true_eq] at h
  exact h

/- What may be skipped. -/
def firmed (t : Tk) (m k : Int) : Tk := ⟨t.name, t.T, t.D, t.C, t.A, t.Seg, t.Cost, m, k, t.Mode, t.Prio⟩
def strip (t : Tk) : Tk := firmed t 0 0
/-- The same tasks, but for what may be skipped. -/
def Alike (l l' : List Tk) : Prop := l'.length = l.length ∧ ∀ (i : Nat) (t : Tk), l[i]? = some t → ∃ m k, (1 ≤ m ∧ m ≤ k ∧ k ≤ 64) ∧ l'[i]? = some (firmed t m k)
section
variable {b g : Int} {l l' : List Tk} {ok : Bool} {late : Int} {R : List Int}
theorem Alike.start (h : (whyF b l).1 = 0) : Alike l l := ⟨rfl, fun _ t ht => ⟨t.M, t.K, firm_is (own_right h ht).2.2, by rw [ht]; rfl⟩⟩
theorem Alike.put (h : Alike l l') {i : Nat} {t : Tk} (ht : l[i]? = some t) {m k : Int} (hm : 1 ≤ m ∧ m ≤ k ∧ k ≤ 64) : Alike l (l'.set i (firmed t m k)) := by
  refine ⟨by rw [List.length_set]; exact h.1, fun j u hu => ?_⟩
  by_cases hji : j = i
  · subst hji
    rw [ht] at hu; cases hu
    have hlt := (List.getElem?_eq_some_iff.1 ht).1
    exact ⟨m, k, hm, by rw [List.getElem?_set_self (by rw [h.1]; exact hlt)]⟩
  · rw [List.getElem?_set_ne (fun e => hji e.symm)]
    exact h.2 j u hu
theorem Alike.back (h : Alike l l') {i : Nat} {t' : Tk} (hi : l'[i]? = some t') : ∃ t m k, l[i]? = some t ∧ (1 ≤ m ∧ m ≤ k ∧ k ≤ 64) ∧ t' = firmed t m k := by
  have hlt := (List.getElem?_eq_some_iff.1 hi).1
  rw [h.1] at hlt
  have hx := List.getElem?_eq_getElem hlt
  obtain ⟨m, k, hm, he⟩ := h.2 i _ hx
  rw [hi] at he
  exact ⟨_, m, k, hx, hm, Option.some.inj he⟩
theorem Alike.right (h : Alike l l') (hr : (whyF b l).1 = 0) : (whyF b l').1 = 0 := by
  have hn := ((right_iff b l).1 hr).2.1
  refine right_of hr (by rw [h.1]; exact hn.1) (by rw [h.1]; exact hn.2) id (fun i j h1 _ e => by simp only [id] at e; omega) (fun i t' hi => ?_)
  obtain ⟨t, m, k, ht, hm, rfl⟩ := h.back hi
  obtain ⟨h1, h2, _⟩ := own_right hr ht
  exact ⟨t, ht, rfl, rfl, h1, h2, by unfold bFirm; simp only [Bool.not_eq_false', decide_eq_true_eq]; exact hm⟩
theorem Alike.stripped (h : Alike l l') : l'.map strip = l.map strip := by
  refine List.ext_getElem? fun i => ?_
  rw [List.getElem?_map, List.getElem?_map]
  by_cases hi : i < l.length
  · have hx := List.getElem?_eq_getElem hi
    obtain ⟨m, k, _, he⟩ := h.2 i _ hx
    rw [he, hx]; rfl
  · rw [List.getElem?_eq_none (by rw [h.1]; omega), List.getElem?_eq_none (by omega)]
theorem maxE_strip {q : Tk → Bool} (hq : ∀ t, q (strip t) = q t) : maxE q (l.map strip) = maxE q l := fold_map (f := strip) (q := q) (q' := q) hq (fun _ => rfl) l 0
theorem abL_strip (p : Int) : abL p (l.map strip) = abL p l := by
  unfold abL
  rw [List.filter_map, List.map_map]
  rfl
theorem next_strip (o : Tk) : nextV b (l.map strip) (strip o) g = nextV b l o g := by
  funext w
  unfold nextV onceV struckV
  rw [show (strip o).Prio = o.Prio from rfl, maxE_strip (fun _ => rfl), maxE_strip (fun _ => rfl), abL_strip]
  rfl
theorem strip_at {k : Nat} {o : Tk} (h : (l.map strip)[k]? = some o) : ∃ u, l[k]? = some u ∧ o = strip u := by
  rw [List.getElem?_map] at h
  obtain ⟨u, hu, rfl⟩ := Option.map_eq_some_iff.1 h
  exact ⟨u, hu, rfl⟩
theorem Verd.stripped (h : Verd b g l ok late R) : Verd b g (l.map strip) ok late R := by
  have up : ∀ {Q : Nat → Prop}, Upto b g l Q R → Upto b g (l.map strip) Q R := fun h => by
    refine ⟨by rw [List.length_map]; exact h.1, fun k o ho => ?_⟩
    obtain ⟨u, hu, rfl⟩ := strip_at ho
    rw [next_strip]
    exact h.2 k u hu
  rcases h with ⟨h1, h2, h3⟩ | ⟨h1, m, o, h2, h3, h4, h5⟩
  · exact .inl ⟨h1, h2, up h3⟩
  · refine .inr ⟨h1, m, strip o, h2, by rw [List.getElem?_map, h3]; rfl, by rw [next_strip]; exact h4, (up h5).cong (fun k hk => ?_)⟩
    constructor
    · intro h t ht
      obtain ⟨u, hu, rfl⟩ := strip_at ht
      exact h u hu
    · intro h t ht
      exact h (strip t) (by rw [List.getElem?_map, ht]; rfl)
theorem apart_strip (h : Apart l) : Apart (l.map strip) := fun i j t u hi hj he => by
  obtain ⟨t', ht, rfl⟩ := strip_at hi
  obtain ⟨u', hu, rfl⟩ := strip_at hj
  exact h i j t' u' ht hu he
theorem Alike.same {is : Bool} {y : Int} {R' : List Int} (h : Alike l l') (hr : (whyF b l).1 = 0) (hv : Verd b g l ok late R) (hv' : Verd b g l' is y R') : ok = is ∧ late = y ∧ R = R' := by
  have h2 := hv'.stripped
  rw [h.stripped] at h2
  exact hv.stripped.same (apart_strip (good_of hr).dist) h2
end
end Go.Proofs.Ytklnokhabomnfaa
