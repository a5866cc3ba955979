/- What follows of a text's set: a right set, or none and where. -/
import Derived.Test.YtbijgmaeechmoaaDoorSe
namespace Go.Proofs.YtbijgmaeechmoaaDoor
open Lx Kx

/-- The ways of one token. -/
theorem stepT (n t : Tok) (r cur hs : List Tok) (l : List Tk) (hc : cur.length ≤ 12) :
    (cur = [] ∧ t.kind = 3 ∧ runT n (t :: r) cur hs l = runT n r [] hs l) ∨
    (cur = [] ∧ t.kind = 4 ∧ runT n (t :: r) cur hs l = .done n hs l t) ∨
    (cur.length < 12 ∧ askT cur.length t = true ∧ (t.kind = 1 ∨ t.kind = 2) ∧ runT n (t :: r) cur hs l = runT n r (cur ++ [t]) hs l) ∨
    (cur.length = 12 ∧ t.kind = 3 ∧ runT n (t :: r) cur hs l = runT n r [] (hs ++ [cur.getD 0 noT]) (l ++ [taskOf cur])) ∨
    (cur.length = 12 ∧ t.kind = 4 ∧ runT n (t :: r) cur hs l = .done n (hs ++ [cur.getD 0 noT]) (l ++ [taskOf cur]) t) ∨
    (askT cur.length t = false ∧ (cur.length = 0 → t.kind ≠ 3 ∧ t.kind ≠ 4) ∧ runT n (t :: r) cur hs l = .bad t) := by
  by_cases h0 : cur.length = 0
  · have hcur : cur = [] := List.eq_nil_of_length_eq_zero h0
    subst hcur
    by_cases h3 : t.kind = 3
    · exact .inl ⟨rfl, h3, runT_skip h3⟩
    · by_cases h4 : t.kind = 4
      · exact .inr (.inl ⟨rfl, h4, runT_end h4⟩)
      · cases ha : askT 0 t with
        | true => exact .inr (.inr (.inl ⟨by simp, rfl, askT_kind ha (by omega), runT_ask ha (by simp)⟩))
        | false => exact .inr (.inr (.inr (.inr (.inr ⟨rfl, fun _ => ⟨h3, h4⟩, runT_bad ha (fun _ => ⟨h3, h4⟩)⟩))))
  · cases ha : askT cur.length t with
    | false => exact .inr (.inr (.inr (.inr (.inr ⟨rfl, fun h => absurd h h0, runT_bad ha (fun h => absurd h h0)⟩))))
    | true =>
      by_cases h12 : cur.length = 12
      · have hk : t.kind = 3 ∨ t.kind = 4 := by rw [h12, askT_over] at ha; simpa using ha
        rcases hk with hk | hk
        · exact .inr (.inr (.inr (.inl ⟨h12, hk, runT_line h12 hk⟩)))
        · exact .inr (.inr (.inr (.inr (.inl ⟨h12, hk, runT_last h12 hk⟩))))
      · exact .inr (.inr (.inl ⟨by omega, rfl, askT_kind ha (by omega), runT_ask ha (by omega)⟩))
theorem askB_two {t : Tok} {i : Nat} (h : askB i t = true) (hi : i < 2) : t.kind = 1 ∨ t.kind = 2 := by
  match i, hi with
  | 0, _ => simp only [askB, Bool.and_eq_true, decide_eq_true_eq] at h; exact .inl h.1
  | 1, _ => simp only [askB, decide_eq_true_eq] at h; exact .inr h
theorem stepB (t : Tok) (r cur : List Tok) (hc : cur.length ≤ 2) :
    (cur = [] ∧ t.kind = 3 ∧ runB (t :: r) cur = runB r []) ∨
    (cur.length < 2 ∧ askB cur.length t = true ∧ (t.kind = 1 ∨ t.kind = 2) ∧ runB (t :: r) cur = runB r (cur ++ [t])) ∨
    (cur.length = 2 ∧ t.kind = 3 ∧ runB (t :: r) cur = runT (cur.getD 1 noT) r [] [] []) ∨
    (cur.length = 2 ∧ t.kind = 4 ∧ runB (t :: r) cur = .done (cur.getD 1 noT) [] [] t) ∨
    (askB cur.length t = false ∧ (cur.length = 0 → t.kind ≠ 3) ∧ runB (t :: r) cur = .bad t) := by
  match cur, hc with
  | [], _ =>
    by_cases h3 : t.kind = 3
    · exact .inl ⟨rfl, h3, runB_skip h3⟩
    · cases ha : askB 0 t with
      | true => exact .inr (.inl ⟨by simp, rfl, askB_two ha (by omega), runB_ask0 ha⟩)
      | false => exact .inr (.inr (.inr (.inr ⟨rfl, fun _ => h3, runB_bad0 ha h3⟩)))
  | [a], _ =>
    by_cases h2 : t.kind = 2
    · exact .inr (.inl ⟨by simp, by simp [askB, h2], .inr h2, runB_ask1 h2⟩)
    · exact .inr (.inr (.inr (.inr ⟨by simp [askB, h2], by simp, runB_bad1 h2⟩)))
  | [a, b], _ =>
    by_cases h3 : t.kind = 3
    · exact .inr (.inr (.inl ⟨rfl, h3, runB_line h3⟩))
    · by_cases h4 : t.kind = 4
      · exact .inr (.inr (.inr (.inl ⟨rfl, h4, runB_last h4⟩)))
      · exact .inr (.inr (.inr (.inr ⟨by simp [askB, h3, h4], by simp, runB_bad2 h3 h4⟩)))

/-- The end stands last, and there alone. -/
def Ended : List Tok → Prop
  | [] => False
  | t :: r => (t.kind = 4 ∧ r = []) ∨ (t.kind ≠ 4 ∧ Ended r)
theorem ended_append : ∀ {ts : List Tok} {e : Tok}, e.kind = 4 → (∀ t ∈ ts, t.kind ≠ 4) → Ended (ts ++ [e])
  | [], e, h, _ => .inl ⟨h, rfl⟩
  | t :: ts, e, h, ht => .inr ⟨ht t (by simp), ended_append h (fun x hx => ht x (by simp [hx]))⟩
theorem ended_lex {b : List UInt8} (h : (lex b).2.1 = 0) : Ended (lex b).1 := by
  obtain ⟨ts, e, h1, h2, h3⟩ := last_lex b 1 1 h
  have h1' : (lex b).1 = ts ++ [e] := h1
  rw [h1']; exact ended_append h2 h3
theorem Ended.next {t : Tok} {r : List Tok} (h : Ended (t :: r)) (ht : t.kind ≠ 4) : Ended r := by
  rcases h with h | h
  · exact absurd h.1 ht
  · exact h.2
theorem Ended.last {t : Tok} {r : List Tok} (h : Ended (t :: r)) (ht : t.kind = 4) : r = [] := by
  rcases h with h | h
  · exact h.2
  · exact absurd ht h.1

/-- Tokens that a result names are of the text. -/
def Of (P : Tok → Prop) : Res → Prop
  | .bad t => P t
  | .done b hs l e => P b ∧ (∀ h ∈ hs, P h) ∧ P e ∧ hs.length = l.length
theorem getD_mem {P : Tok → Prop} {x : List Tok} {i : Nat} (h : ∀ t ∈ x, P t) (hi : i < x.length) : P (x.getD i noT) := by
  rw [List.getD, List.getElem?_eq_getElem hi]; exact h _ (List.getElem_mem _)
theorem mem_snoc {P : Tok → Prop} {x : List Tok} {t : Tok} (h : ∀ t ∈ x, P t) (ht : P t) : ∀ u ∈ x ++ [t], P u := fun u hu => by
  rcases List.mem_append.1 hu with hu | hu
  · exact h u hu
  · rw [List.mem_singleton.1 hu]; exact ht
theorem runT_of {P : Tok → Prop} {n : Tok} (hn : P n) : ∀ (ts cur hs : List Tok) (l : List Tk), Ended ts → (∀ t ∈ ts, P t) → (∀ t ∈ cur, P t) → (∀ t ∈ hs, P t) → hs.length = l.length → cur.length ≤ 12 → Of P (runT n ts cur hs l)
  | [], _, _, _, h, _, _, _, _, _ => absurd h (by simp [Ended])
  | t :: r, cur, hs, l, h, ht, hc, hh, hl, h12 => by
    have hP := ht t (by simp)
    have hr := fun x (hx : x ∈ r) => ht x (by simp [hx])
    rcases stepT n t r cur hs l h12 with ⟨_, hk, e⟩ | ⟨_, _, e⟩ | ⟨hlt, _, hk, e⟩ | ⟨h12', hk, e⟩ | ⟨h12', _, e⟩ | ⟨_, _, e⟩ <;> rw [e]
    · exact runT_of hn r [] hs l (h.next (by omega)) hr (by simp) hh hl (by simp)
    · exact ⟨hn, hh, hP, hl⟩
    · exact runT_of hn r _ hs l (h.next (by omega)) hr (mem_snoc hc hP) hh hl (by simp; omega)
    · exact runT_of hn r [] _ _ (h.next (by omega)) hr (by simp) (mem_snoc hh (getD_mem hc (by omega))) (by simp [hl]) (by simp)
    · exact ⟨hn, mem_snoc hh (getD_mem hc (by omega)), hP, by simp [hl]⟩
    · exact hP
theorem runB_of {P : Tok → Prop} : ∀ (ts cur : List Tok), Ended ts → (∀ t ∈ ts, P t) → (∀ t ∈ cur, P t) → cur.length ≤ 2 → Of P (runB ts cur)
  | [], _, h, _, _, _ => absurd h (by simp [Ended])
  | t :: r, cur, h, ht, hc, h2 => by
    have hP := ht t (by simp)
    have hr := fun x (hx : x ∈ r) => ht x (by simp [hx])
    rcases stepB t r cur h2 with ⟨_, hk, e⟩ | ⟨hlt, _, hk, e⟩ | ⟨h2', hk, e⟩ | ⟨h2', _, e⟩ | ⟨_, _, e⟩ <;> rw [e]
    · exact runB_of r [] (h.next (by omega)) hr (by simp) (by simp)
    · exact runB_of r _ (h.next (by omega)) hr (mem_snoc hc hP) (by simp; omega)
    · exact runT_of (getD_mem hc (by omega)) r [] [] [] (h.next (by omega)) hr (by simp) (by simp) rfl (by simp)
    · exact ⟨getD_mem hc (by omega), by simp, hP, rfl⟩
    · exact hP

/-- Where tokens and what is wrong stand. -/
theorem spans : ∀ (l : List UInt8) (line col : Nat), 1 ≤ line → 1 ≤ col → (∀ t ∈ (lexA l line col).1, 1 ≤ t.line ∧ 1 ≤ t.col ∧ t.col ≤ col + l.length) ∧ ((lexA l line col).2.1 ≠ 0 → 1 ≤ (lexA l line col).2.2.1 ∧ 1 ≤ (lexA l line col).2.2.2 ∧ (lexA l line col).2.2.2 ≤ col + l.length) := by
  intro l
  induction l using text_rec with
  | nil => intro line col h1 h2; exact ⟨fun t ht => by simp [lexA_nil] at ht; subst ht; simp; omega, fun h => by simp [lexA_nil] at h⟩
  | word c p q hc hp hq ih =>
    intro line col h1 h2
    rw [lexA_word hc hp hq]
    obtain ⟨i1, i2⟩ := ih line (col + (p.length + 1)) h1 (by omega)
    refine ⟨fun t ht => ?_, fun h => ?_⟩
    · rcases List.mem_cons.1 ht with rfl | ht
      · simp; omega
      · have := i1 t ht; simp only [List.length_cons, List.length_append]; omega
    · have := i2 h; simp only [cons, List.length_cons, List.length_append]; omega
  | num c p q hc hp hq ih =>
    intro line col h1 h2
    by_cases hv : vals 0 (c :: p) ≤ most
    · rw [lexA_num hc hp hq hv]
      obtain ⟨i1, i2⟩ := ih line (col + (p.length + 1)) h1 (by omega)
      refine ⟨fun t ht => ?_, fun h => ?_⟩
      · rcases List.mem_cons.1 ht with rfl | ht
        · simp; omega
        · have := i1 t ht; simp only [List.length_cons, List.length_append]; omega
      · have := i2 h; simp only [cons, List.length_cons, List.length_append]; omega
    · rw [lexA_over hc hp hq hv]; exact ⟨(fun t ht => by cases ht), fun _ => ⟨h1, h2, by simp⟩⟩
  | blank c q hc ih =>
    intro line col h1 h2
    rw [lexA_blank hc]
    obtain ⟨i1, i2⟩ := ih line (col + 1) h1 (by omega)
    exact ⟨fun t ht => by have := i1 t ht; simp only [List.length_cons]; omega, fun h => by have := i2 h; simp only [List.length_cons]; omega⟩
  | remark c p q hc hp hq ih =>
    intro line col h1 h2
    rw [lexA_remark hc hp hq]
    obtain ⟨i1, i2⟩ := ih line (col + (p.length + 1)) h1 (by omega)
    exact ⟨fun t ht => by have := i1 t ht; simp only [List.length_cons, List.length_append]; omega, fun h => by have := i2 h; simp only [List.length_cons, List.length_append]; omega⟩
  | line c q hc ih =>
    intro line col h1 h2
    rw [lexA_line hc]
    obtain ⟨i1, i2⟩ := ih (line + 1) 1 (by omega) (by omega)
    refine ⟨fun t ht => ?_, fun h => ?_⟩
    · rcases List.mem_cons.1 ht with rfl | ht
      · simp; omega
      · have := i1 t ht; simp only [List.length_cons]; omega
    · have := i2 h; simp only [cons, List.length_cons]; omega
  | bad c q h1 h2 h3 h4 h5 => intro line col g1 g2; rw [lexA_bad h1 h2 h3 h4 h5]; exact ⟨(fun t ht => by cases ht), fun _ => ⟨g1, g2, by simp⟩⟩

theorem blame_of {P : Tok → Prop} {b e : Tok} {hs : List Tok} {l : List Tk} {z : Int} (hb : P b) (hh : ∀ h ∈ hs, P h) (he : P e) (hl : hs.length = l.length) (h0 : (whyF z l).1 ≠ 0) : P (blameF (whyF z l) b hs e) := by
  unfold blameF
  split
  · exact hb
  · next h1 =>
    split
    · split
      · next h16 => exact getD_mem hh h16
      · exact he
    · next h2 =>
      obtain ⟨i, hi, e⟩ := why_at h0 h1 h2
      rw [e]
      exact getD_mem hh (by simp; omega)
/-- What is answered: a right set, or none and where. -/
theorem setA_cases (b : List UInt8) : ((setA b).2.1 = 0 ∧ (setA b).2 = (0, 0, 0) ∧ (lex b).2.1 = 0 ∧ (∃ n hs e, runB (lex b).1 [] = .done n hs (setA b).1.2 e ∧ hs.length = (setA b).1.2.length) ∧ (whyF (setA b).1.1 (setA b).1.2).1 = 0) ∨
    ((setA b).2.1 ≠ 0 ∧ (setA b).1 = (0, []) ∧ 1 ≤ (setA b).2.2.1 ∧ 1 ≤ (setA b).2.2.2 ∧ (setA b).2.2.2 ≤ b.length + 1) := by
  unfold setA
  by_cases h : (lex b).2.1 = 0
  · rw [if_pos h]
    have hO := runB_of (P := fun t => 1 ≤ t.line ∧ 1 ≤ t.col ∧ t.col ≤ 1 + b.length) (lex b).1 [] (ended_lex h) ((spans b 1 1 (by omega) (by omega)).1) (by simp) (by simp)
    cases hr : runB (lex b).1 [] with
    | bad t =>
      rw [hr] at hO
      obtain ⟨h1, h2, h3⟩ := hO
      exact .inr ⟨by simp [ofRes, spotT], rfl, h1, h2, by simp only [ofRes, spotT]; omega⟩
    | done n hs l e =>
      rw [hr] at hO
      obtain ⟨h1, h2, h3, h4⟩ := hO
      by_cases hw : (whyF (n.value : Nat) l).1 = 0
      · have e : ofRes (.done n hs l e) = ((((n.value : Nat) : Int), l), 0, 0, 0) := if_pos hw
        rw [e]
        exact .inl ⟨rfl, rfl, h, ⟨n, hs, _, rfl, h4⟩, hw⟩
      · have e' : ofRes (.done n hs l e) = spotT 1 (blameF (whyF (n.value : Nat) l) n hs e) := if_neg hw
        rw [e']
        have := blame_of (P := fun t => 1 ≤ t.line ∧ 1 ≤ t.col ∧ t.col ≤ 1 + b.length) h1 h2 h3 h4 hw
        obtain ⟨g1, g2, g3⟩ := this
        exact .inr ⟨by simp [spotT], rfl, g1, g2, by simp only [spotT]; omega⟩
  · rw [if_neg h]
    obtain ⟨g1, g2, g3⟩ := (spans b 1 1 (by omega) (by omega)).2 h
    have g3' : (lex b).2.2.2 ≤ 1 + b.length := g3
    exact .inr ⟨h, rfl, g1, g2, by simp only; omega⟩
end Go.Proofs.YtbijgmaeechmoaaDoor
