/- What follows of a text's set: spots, right sets, beginnings, twice the text. -/
import Derived.Test.YtbijgmaeechmoaaDoorSe
import Derived.Test.YtbijgmaeechmoaaDoorLSu
namespace Go.Proofs.YtbijgmaeechmoaaDoor
open Lx Kx

/-- The ways of one token. -/
theorem stepT (n t : Tok) (r cur hs : List Tok) (l : List Tk) (hc : cur.length ≤ 12) :
    (cur = [] ∧ t.kind = 3 ∧ runT n (t :: r) cur hs l = runT n r [] hs l) ∨
    (cur = [] ∧ t.kind = 4 ∧ runT n (t :: r) cur hs l = .done n hs l t) ∨
    (cur.length < 12 ∧ askT cur.length t = true ∧ (t.kind = 1 ∨ t.kind = 2) ∧ runT n (t :: r) cur hs l = runT n r (cur ++ [t]) hs l) ∨
    (cur.length = 12 ∧ t.kind = 3 ∧ runT n (t :: r) cur hs l = runT n r [] (hs ++ [cur.getD 0 noT]) (l ++ [taskOf cur])) ∨
    (cur.length = 12 ∧ t.kind = 4 ∧ runT n (t :: r) cur hs l = .done n (hs ++ [cur.getD 0 noT]) (l ++ [taskOf cur]) t) ∨
    (askT cur.length t = false ∧ (cur.length = 0 → t.kind ≠ 3 ∧ t.kind ≠ 4) ∧ runT n (t :: r) cur hs l = .bad t) := by
  by_cases h0 : cur.length = 0
  · have hcur : cur = [] := List.eq_nil_of_length_eq_zero h0
    subst hcur
    by_cases h3 : t.kind = 3
    · exact .inl ⟨rfl, h3, runT_skip h3⟩
    · by_cases h4 : t.kind = 4
      · exact .inr (.inl ⟨rfl, h4, runT_end h4⟩)
      · cases ha : askT 0 t with
        | true => exact .inr (.inr (.inl ⟨by simp, rfl, askT_kind ha (by omega), runT_ask ha (by simp)⟩))
        | false => exact .inr (.inr (.inr (.inr (.inr ⟨rfl, fun _ => ⟨h3, h4⟩, runT_bad ha (fun _ => ⟨h3, h4⟩)⟩))))
  · cases ha : askT cur.length t with
    | false => exact .inr (.inr (.inr (.inr (.inr ⟨rfl, fun h => absurd h h0, runT_bad ha (fun h => absurd h h0)⟩))))
    | true =>
      by_cases h12 : cur.length = 12
      · have hk : t.kind = 3 ∨ t.kind = 4 := by rw [h12, askT_over] at ha; simpa using ha
        rcases hk with hk | hk
        · exact .inr (.inr (.inr (.inl ⟨h12, hk, runT_line h12 hk⟩)))
        · exact .inr (.inr (.inr (.inr (.inl ⟨h12, hk, runT_last h12 hk⟩))))
      · exact .inr (.inr (.inl ⟨by omega, rfl, askT_kind ha (by omega), runT_ask ha (by omega)⟩))
theorem askB_two {t : Tok} {i : Nat} (h : askB i t = true) (hi : i < 2) : t.kind = 1 ∨ t.kind = 2 := by
  match i, hi with
  | 0, _ => simp only [askB, Bool.and_eq_true, decide_eq_true_eq] at h; exact .inl h.1
  | 1, _ => simp only [askB, decide_eq_true_eq] at h; exact .inr h
theorem stepB (t : Tok) (r cur : List Tok) (hc : cur.length ≤ 2) :
    (cur = [] ∧ t.kind = 3 ∧ runB (t :: r) cur = runB r []) ∨
    (cur.length < 2 ∧ askB cur.length t = true ∧ (t.kind = 1 ∨ t.kind = 2) ∧ runB (t :: r) cur = runB r (cur ++ [t])) ∨
    (cur.length = 2 ∧ t.kind = 3 ∧ runB (t :: r) cur = runT (cur.getD 1 noT) r [] [] []) ∨
    (cur.length = 2 ∧ t.kind = 4 ∧ runB (t :: r) cur = .done (cur.getD 1 noT) [] [] t) ∨
    (askB cur.length t = false ∧ (cur.length = 0 → t.kind ≠ 3) ∧ runB (t :: r) cur = .bad t) := by
  match cur, hc with
  | [], _ =>
    by_cases h3 : t.kind = 3
    · exact .inl ⟨rfl, h3, runB_skip h3⟩
    · cases ha : askB 0 t with
      | true => exact .inr (.inl ⟨by simp, rfl, askB_two ha (by omega), runB_ask0 ha⟩)
      | false => exact .inr (.inr (.inr (.inr ⟨rfl, fun _ => h3, runB_bad0 ha h3⟩)))
  | [a], _ =>
    by_cases h2 : t.kind = 2
    · exact .inr (.inl ⟨by simp, by simp [askB, h2], .inr h2, runB_ask1 h2⟩)
    · exact .inr (.inr (.inr (.inr ⟨by simp [askB, h2], by simp, runB_bad1 h2⟩)))
  | [a, b], _ =>
    by_cases h3 : t.kind = 3
    · exact .inr (.inr (.inl ⟨rfl, h3, runB_line h3⟩))
    · by_cases h4 : t.kind = 4
      · exact .inr (.inr (.inr (.inl ⟨rfl, h4, runB_last h4⟩)))
      · exact .inr (.inr (.inr (.inr ⟨by simp [askB, h3, h4], by simp, runB_bad2 h3 h4⟩)))

/-- The end stands last, and there alone. -/
def Ended : List Tok → Prop
  | [] => False
  | t :: r => (t.kind = 4 ∧ r = []) ∨ (t.kind ≠ 4 ∧ Ended r)
theorem ended_append : ∀ {ts : List Tok} {e : Tok}, e.kind = 4 → (∀ t ∈ ts, t.kind ≠ 4) → Ended (ts ++ [e])
  | [], e, h, _ => .inl ⟨h, rfl⟩
  | t :: ts, e, h, ht => .inr ⟨ht t (by simp), ended_append h (fun x hx => ht x (by simp [hx]))⟩
theorem ended_lex {b : List UInt8} (h : (lex b).2.1 = 0) : Ended (lex b).1 := by
  obtain ⟨ts, e, h1, h2, h3⟩ := last_lex b 1 1 h
  have h1' : (lex b).1 = ts ++ [e] := h1
  rw [h1']; exact ended_append h2 h3
theorem Ended.next {t : Tok} {r : List Tok} (h : Ended (t :: r)) (ht : t.kind ≠ 4) : Ended r := by
  rcases h with h | h
  · exact absurd h.1 ht
  · exact h.2
theorem Ended.last {t : Tok} {r : List Tok} (h : Ended (t :: r)) (ht : t.kind = 4) : r = [] := by
  rcases h with h | h
  · exact h.2
  · exact absurd ht h.1

/-- Tokens that a result names are of the text. -/
def Of (P : Tok → Prop) : Res → Prop
  | .bad t => P t
  | .done b hs l e => P b ∧ (∀ h ∈ hs, P h) ∧ P e ∧ hs.length = l.length
theorem getD_mem {P : Tok → Prop} {x : List Tok} {i : Nat} (h : ∀ t ∈ x, P t) (hi : i < x.length) : P (x.getD i noT) := by
  rw [List.getD, List.getElem?_eq_getElem hi]; exact h _ (List.getElem_mem _)
theorem mem_snoc {P : Tok → Prop} {x : List Tok} {t : Tok} (h : ∀ t ∈ x, P t) (ht : P t) : ∀ u ∈ x ++ [t], P u := fun u hu => by
  rcases List.mem_append.1 hu with hu | hu
  · exact h u hu
  · rw [List.mem_singleton.1 hu]; exact ht
theorem runT_of {P : Tok → Prop} {n : Tok} (hn : P n) : ∀ (ts cur hs : List Tok) (l : List Tk), Ended ts → (∀ t ∈ ts, P t) → (∀ t ∈ cur, P t) → (∀ t ∈ hs, P t) → hs.length = l.length → cur.length ≤ 12 → Of P (runT n ts cur hs l)
  | [], _, _, _, h, _, _, _, _, _ => absurd h (by simp [Ended])
  | t :: r, cur, hs, l, h, ht, hc, hh, hl, h12 => by
    have hP := ht t (by simp)
    have hr := fun x (hx : x ∈ r) => ht x (by simp [hx])
    rcases stepT n t r cur hs l h12 with ⟨_, hk, e⟩ | ⟨_, _, e⟩ | ⟨hlt, _, hk, e⟩ | ⟨h12', hk, e⟩ | ⟨h12', _, e⟩ | ⟨_, _, e⟩ <;> rw [e]
    · exact runT_of hn r [] hs l (h.next (by omega)) hr (by simp) hh hl (by simp)
    · exact ⟨hn, hh, hP, hl⟩
    · exact runT_of hn r _ hs l (h.next (by omega)) hr (mem_snoc hc hP) hh hl (by simp; omega)
    · exact runT_of hn r [] _ _ (h.next (by omega)) hr (by simp) (mem_snoc hh (getD_mem hc (by omega))) (by simp [hl]) (by simp)
    · exact ⟨hn, mem_snoc hh (getD_mem hc (by omega)), hP, by simp [hl]⟩
    · exact hP
theorem runB_of {P : Tok → Prop} : ∀ (ts cur : List Tok), Ended ts → (∀ t ∈ ts, P t) → (∀ t ∈ cur, P t) → cur.length ≤ 2 → Of P (runB ts cur)
  | [], _, h, _, _, _ => absurd h (by simp [Ended])
  | t :: r, cur, h, ht, hc, h2 => by
    have hP := ht t (by simp)
    have hr := fun x (hx : x ∈ r) => ht x (by simp [hx])
    rcases stepB t r cur h2 with ⟨_, hk, e⟩ | ⟨hlt, _, hk, e⟩ | ⟨h2', hk, e⟩ | ⟨h2', _, e⟩ | ⟨_, _, e⟩ <;> rw [e]
    · exact runB_of r [] (h.next (by omega)) hr (by simp) (by simp)
    · exact runB_of r _ (h.next (by omega)) hr (mem_snoc hc hP) (by simp; omega)
    · exact runT_of (getD_mem hc (by omega)) r [] [] [] (h.next (by omega)) hr (by simp) (by simp) rfl (by simp)
    · exact ⟨getD_mem hc (by omega), by simp, hP, rfl⟩
    · exact hP

/-- How many tokens of a word or number come first in their line. -/
def ne (f : Bool) : List Tok → Nat
  | [] => 0
  | t :: r => if t.kind = 1 ∨ t.kind = 2 then (if f then 1 else 0) + ne false r else ne true r
theorem runT_ne {n b e : Tok} {hs' : List Tok} {l' : List Tk} : ∀ (ts cur hs : List Tok) (l : List Tk), Ended ts → cur.length ≤ 12 → runT n ts cur hs l = .done b hs' l' e → l'.length = l.length + (if cur.length = 0 then ne true ts else 1 + ne false ts)
  | [], _, _, _, h, _, _ => absurd h (by simp [Ended])
  | t :: r, cur, hs, l, h, h12, he => by
    rcases stepT n t r cur hs l h12 with ⟨hc, hk, e⟩ | ⟨hc, hk, e⟩ | ⟨hlt, _, hk, e⟩ | ⟨h12', hk, e⟩ | ⟨h12', hk, e⟩ | ⟨_, _, e⟩ <;> rw [e] at he
    · have := runT_ne r [] hs l (h.next (by omega)) (by simp) he
      subst hc
      simp only [List.length_nil, if_pos] at this ⊢
      rw [this, ne, if_neg (by omega)]
    · cases he
      subst hc
      simp [ne, hk, h.last hk]
    · have := runT_ne r _ hs l (h.next (by omega)) (by simp; omega) he
      rw [if_neg (by simp)] at this
      rw [this]
      split
      · rw [ne, if_pos hk]; simp
      · rw [ne, if_pos hk]; simp
    · have := runT_ne r [] _ _ (h.next (by omega)) (by simp) he
      rw [if_pos (by rfl)] at this
      have e2 : ne false (t :: r) = ne true r := by rw [ne, if_neg (by omega)]
      rw [this, if_neg (show ¬ cur.length = 0 by omega), e2]
      simp; omega
    · cases he
      rw [if_neg (show ¬ cur.length = 0 by omega), ne, if_neg (by omega), h.last hk]
      simp [ne]
    · cases he
theorem runB_ne {b e : Tok} {hs' : List Tok} {l' : List Tk} : ∀ (ts cur : List Tok), Ended ts → cur.length ≤ 2 → runB ts cur = .done b hs' l' e → l'.length + 1 = (if cur.length = 0 then ne true ts else 1 + ne false ts)
  | [], _, h, _, _ => absurd h (by simp [Ended])
  | t :: r, cur, h, h2, he => by
    rcases stepB t r cur h2 with ⟨hc, hk, e⟩ | ⟨hlt, _, hk, e⟩ | ⟨h2', hk, e⟩ | ⟨h2', hk, e⟩ | ⟨_, _, e⟩ <;> rw [e] at he
    · have := runB_ne r [] (h.next (by omega)) (by simp) he
      subst hc
      simp only [List.length_nil, if_pos] at this ⊢
      rw [this, ne, if_neg (by omega)]
    · have := runB_ne r _ (h.next (by omega)) (by simp; omega) he
      rw [if_neg (by simp)] at this
      rw [this]
      split
      · rw [ne, if_pos hk]; simp
      · rw [ne, if_pos hk]; simp
    · have := runT_ne r [] _ _ (h.next (by omega)) (by simp) he
      rw [if_pos (by rfl)] at this
      have e2 : ne false (t :: r) = ne true r := by rw [ne, if_neg (by omega)]
      rw [this, if_neg (show ¬ cur.length = 0 by omega), e2]
      simp; omega
    · cases he
      rw [if_neg (show ¬ cur.length = 0 by omega), ne, if_neg (by omega), h.last hk]
      simp [ne]
    · cases he

/-- A beginning of a text has no more of them. -/
theorem ne_cut : ∀ (b r : List UInt8) (line col : Nat) (f : Bool), (lexA b line col).2.1 = 0 → (lexA (b ++ r) line col).2.1 = 0 → ne f (lexA b line col).1 ≤ ne f (lexA (b ++ r) line col).1 := by
  intro b
  induction b using text_rec with
  | nil => intro r line col f _ _; simp [lexA_nil, ne]
  | word c p q hc hp hq ih =>
    intro r line col f h1 h2
    rw [lexA_word hc hp hq] at h1 ⊢
    by_cases hq0 : q = []
    · subst hq0
      obtain ⟨p', q', rfl, hp', hq'⟩ := cut signC r
      have e : c :: (p ++ []) ++ (p' ++ q') = c :: ((p ++ p') ++ q') := by simp
      rw [e, lexA_word hc (fun x hx => by
        rcases List.mem_append.1 hx with h | h
        · exact hp x h
        · exact hp' x h) hq']
      simp only [cons, ne, lexA_nil]
      simp
    · have e : c :: (p ++ q) ++ r = c :: (p ++ (q ++ r)) := by simp
      rw [e] at h2 ⊢
      rw [lexA_word hc hp (hq.more hq0)] at h2 ⊢
      simp only [cons, ne]
      have := ih r line _ false h1 h2
      simp; omega
  | num c p q hc hp hq ih =>
    intro r line col f h1 h2
    by_cases hv : vals 0 (c :: p) ≤ most
    · rw [lexA_num hc hp hq hv] at h1 ⊢
      by_cases hq0 : q = []
      · subst hq0
        obtain ⟨p', q', rfl, hp', hq'⟩ := cut digitC r
        have e : c :: (p ++ []) ++ (p' ++ q') = c :: ((p ++ p') ++ q') := by simp
        have hpp : ∀ x ∈ p ++ p', digitC x = true := fun x hx => by
          rcases List.mem_append.1 hx with h | h
          · exact hp x h
          · exact hp' x h
        rw [e] at h2 ⊢
        by_cases hv' : vals 0 (c :: (p ++ p')) ≤ most
        · rw [lexA_num hc hpp hq' hv']
          simp only [cons, ne, lexA_nil]
          simp
        · rw [lexA_over hc hpp hq' hv'] at h2; simp at h2
      · have e : c :: (p ++ q) ++ r = c :: (p ++ (q ++ r)) := by simp
        rw [e] at h2 ⊢
        rw [lexA_num hc hp (hq.more hq0) hv] at h2 ⊢
        simp only [cons, ne]
        have := ih r line _ false h1 h2
        simp; omega
    · rw [lexA_over hc hp hq hv] at h1; simp at h1
  | blank c q hc ih =>
    intro r line col f h1 h2
    rw [List.cons_append] at h2 ⊢
    rw [lexA_blank hc] at h1 h2 ⊢
    rw [lexA_blank hc]
    exact ih r line _ f h1 h2
  | remark c p q hc hp hq ih =>
    intro r line col f h1 h2
    rw [lexA_remark hc hp hq] at h1 ⊢
    by_cases hq0 : q = []
    · subst hq0
      simp [lexA_nil, ne]
    · have e : c :: (p ++ q) ++ r = c :: (p ++ (q ++ r)) := by simp
      rw [e] at h2 ⊢
      rw [lexA_remark hc hp (hq.more hq0)] at h2 ⊢
      exact ih r line _ f h1 h2
  | line c q hc ih =>
    intro r line col f h1 h2
    rw [List.cons_append] at h2 ⊢
    rw [lexA_line hc] at h1 h2 ⊢
    rw [lexA_line hc]
    simp only [cons, ne]
    have := ih r (line + 1) 1 true h1 h2
    simpa using this
  | bad c q h1 h2 h3 h4 h5 => intro r line col f g; rw [lexA_bad h1 h2 h3 h4 h5] at g; simp at g

/-- Where tokens and what is wrong stand. -/
theorem spans : ∀ (l : List UInt8) (line col : Nat), 1 ≤ line → 1 ≤ col → (∀ t ∈ (lexA l line col).1, 1 ≤ t.line ∧ 1 ≤ t.col ∧ t.col ≤ col + l.length) ∧ ((lexA l line col).2.1 ≠ 0 → 1 ≤ (lexA l line col).2.2.1 ∧ 1 ≤ (lexA l line col).2.2.2 ∧ (lexA l line col).2.2.2 ≤ col + l.length) := by
  intro l
  induction l using text_rec with
  | nil => intro line col h1 h2; exact ⟨fun t ht => by simp [lexA_nil] at ht; subst ht; simp; omega, fun h => by simp [lexA_nil] at h⟩
  | word c p q hc hp hq ih =>
    intro line col h1 h2
    rw [lexA_word hc hp hq]
    obtain ⟨i1, i2⟩ := ih line (col + (p.length + 1)) h1 (by omega)
    refine ⟨fun t ht => ?_, fun h => ?_⟩
    · rcases List.mem_cons.1 ht with rfl | ht
      · simp; omega
      · have := i1 t ht; simp only [List.length_cons, List.length_append]; omega
    · have := i2 h; simp only [cons, List.length_cons, List.length_append]; omega
  | num c p q hc hp hq ih =>
    intro line col h1 h2
    by_cases hv : vals 0 (c :: p) ≤ most
    · rw [lexA_num hc hp hq hv]
      obtain ⟨i1, i2⟩ := ih line (col + (p.length + 1)) h1 (by omega)
      refine ⟨fun t ht => ?_, fun h => ?_⟩
      · rcases List.mem_cons.1 ht with rfl | ht
        · simp; omega
        · have := i1 t ht; simp only [List.length_cons, List.length_append]; omega
      · have := i2 h; simp only [cons, List.length_cons, List.length_append]; omega
    · rw [lexA_over hc hp hq hv]; exact ⟨(fun t ht => by cases ht), fun _ => ⟨h1, h2, by simp⟩⟩
  | blank c q hc ih =>
    intro line col h1 h2
    rw [lexA_blank hc]
    obtain ⟨i1, i2⟩ := ih line (col + 1) h1 (by omega)
    exact ⟨fun t ht => by have := i1 t ht; simp only [List.length_cons]; omega, fun h => by have := i2 h; simp only [List.length_cons]; omega⟩
  | remark c p q hc hp hq ih =>
    intro line col h1 h2
    rw [lexA_remark hc hp hq]
    obtain ⟨i1, i2⟩ := ih line (col + (p.length + 1)) h1 (by omega)
    exact ⟨fun t ht => by have := i1 t ht; simp only [List.length_cons, List.length_append]; omega, fun h => by have := i2 h; simp only [List.length_cons, List.length_append]; omega⟩
  | line c q hc ih =>
    intro line col h1 h2
    rw [lexA_line hc]
    obtain ⟨i1, i2⟩ := ih (line + 1) 1 (by omega) (by omega)
    refine ⟨fun t ht => ?_, fun h => ?_⟩
    · rcases List.mem_cons.1 ht with rfl | ht
      · simp; omega
      · have := i1 t ht; simp only [List.length_cons]; omega
    · have := i2 h; simp only [cons, List.length_cons]; omega
  | bad c q h1 h2 h3 h4 h5 => intro line col g1 g2; rw [lexA_bad h1 h2 h3 h4 h5]; exact ⟨(fun t ht => by cases ht), fun _ => ⟨g1, g2, by simp⟩⟩

theorem blame_of {P : Tok → Prop} {b e : Tok} {hs : List Tok} {l : List Tk} {z : Int} (hb : P b) (hh : ∀ h ∈ hs, P h) (he : P e) (hl : hs.length = l.length) (h0 : (whyF z l).1 ≠ 0) : P (blameF (whyF z l) b hs e) := by
  unfold blameF
  split
  · exact hb
  · next h1 =>
    split
    · split
      · next h16 => exact getD_mem hh h16
      · exact he
    · next h2 =>
      obtain ⟨i, hi, e⟩ := why_at h0 h1 h2
      rw [e]
      exact getD_mem hh (by simp; omega)
/-- What is answered: a right set, or none and where. -/
theorem setA_cases (b : List UInt8) : ((setA b).2.1 = 0 ∧ (setA b).2 = (0, 0, 0) ∧ (lex b).2.1 = 0 ∧ (∃ n hs e, runB (lex b).1 [] = .done n hs (setA b).1.2 e ∧ hs.length = (setA b).1.2.length) ∧ (whyF (setA b).1.1 (setA b).1.2).1 = 0) ∨
    ((setA b).2.1 ≠ 0 ∧ (setA b).1 = (0, []) ∧ 1 ≤ (setA b).2.2.1 ∧ 1 ≤ (setA b).2.2.2 ∧ (setA b).2.2.2 ≤ b.length + 1) := by
  unfold setA
  by_cases h : (lex b).2.1 = 0
  · rw [if_pos h]
    have hO := runB_of (P := fun t => 1 ≤ t.line ∧ 1 ≤ t.col ∧ t.col ≤ 1 + b.length) (lex b).1 [] (ended_lex h) ((spans b 1 1 (by omega) (by omega)).1) (by simp) (by simp)
    cases hr : runB (lex b).1 [] with
    | bad t =>
      rw [hr] at hO
      obtain ⟨h1, h2, h3⟩ := hO
      exact .inr ⟨by simp [ofRes, spotT], rfl, h1, h2, by simp only [ofRes, spotT]; omega⟩
    | done n hs l e =>
      rw [hr] at hO
      obtain ⟨h1, h2, h3, h4⟩ := hO
      by_cases hw : (whyF (n.value : Nat) l).1 = 0
      · have e : ofRes (.done n hs l e) = ((((n.value : Nat) : Int), l), 0, 0, 0) := if_pos hw
        rw [e]
        exact .inl ⟨rfl, rfl, h, ⟨n, hs, _, rfl, h4⟩, hw⟩
      · have e' : ofRes (.done n hs l e) = spotT 1 (blameF (whyF (n.value : Nat) l) n hs e) := if_neg hw
        rw [e']
        have := blame_of (P := fun t => 1 ≤ t.line ∧ 1 ≤ t.col ∧ t.col ≤ 1 + b.length) h1 h2 h3 h4 hw
        obtain ⟨g1, g2, g3⟩ := this
        exact .inr ⟨by simp [spotT], rfl, g1, g2, by simp only [spotT]; omega⟩
  · rw [if_neg h]
    obtain ⟨g1, g2, g3⟩ := (spans b 1 1 (by omega) (by omega)).2 h
    have g3' : (lex b).2.2.2 ≤ 1 + b.length := g3
    exact .inr ⟨h, rfl, g1, g2, by simp only; omega⟩
/-- Of a beginning no more tasks are read. -/
theorem cuts {b : List UInt8} (k : Nat) (h : (setA b).2.1 = 0) (h' : (setA (b.take k)).2.1 = 0) : (setA (b.take k)).1.2.length ≤ (setA b).1.2.length := by
  rcases setA_cases b with ⟨_, _, h1, ⟨n, hs, e, h2, _⟩, _⟩ | ⟨h0, _⟩
  · rcases setA_cases (b.take k) with ⟨_, _, g1, ⟨n', hs', e', g2, _⟩, _⟩ | ⟨h0, _⟩
    · have a1 := runB_ne _ _ (ended_lex h1) (by simp) h2
      have a2 := runB_ne _ _ (ended_lex g1) (by simp) g2
      rw [if_pos (by rfl)] at a1 a2
      have e : b.take k ++ b.drop k = b := List.take_append_drop k b
      have a3 := ne_cut (b.take k) (b.drop k) 1 1 true g1 (by rw [e]; exact h1)
      rw [e] at a3
      have a3' : ne true (lex (b.take k)).1 ≤ ne true (lex b).1 := a3
      omega
    · exact absurd h' h0
  · exact absurd h h0

theorem runT_first {n b e : Tok} {hs' : List Tok} {l' : List Tk} : ∀ (ts cur hs : List Tok) (l : List Tk), cur.length ≤ 12 → Ended ts → runT n ts cur hs l = .done b hs' l' e → b = n
  | [], _, _, _, _, h, _ => absurd h (by simp [Ended])
  | t :: r, cur, hs, l, h12, h, he => by
    rcases stepT n t r cur hs l h12 with ⟨_, hk, e⟩ | ⟨_, _, e⟩ | ⟨hlt, _, hk, e⟩ | ⟨_, hk, e⟩ | ⟨_, _, e⟩ | ⟨_, _, e⟩ <;> rw [e] at he
    · exact runT_first r [] hs l (by simp) (h.next (by omega)) he
    · cases he; rfl
    · exact runT_first r _ hs l (by simp; omega) (h.next (by omega)) he
    · exact runT_first r [] _ _ (by simp) (h.next (by omega)) he
    · cases he; rfl
    · cases he
/-- Another line's end for the end: what comes behind is read on. -/
theorem runT_join {n b e e4 e3 : Tok} {hs' : List Tok} {l' : List Tk} (h4 : e4.kind = 4) (h3 : e3.kind = 3) (r : List Tok) : ∀ (us cur hs : List Tok) (l : List Tk), cur.length ≤ 12 → (∀ u ∈ us, u.kind ≠ 4) → runT n (us ++ [e4]) cur hs l = .done b hs' l' e → runT n (us ++ e3 :: r) cur hs l = runT n r [] hs' l'
  | [], cur, hs, l, h12, _, he => by
    rw [List.nil_append] at he ⊢
    rcases stepT n e4 [] cur hs l h12 with ⟨hc, hk, e⟩ | ⟨hc, hk, e⟩ | ⟨hlt, _, hk, e⟩ | ⟨h12', hk, e⟩ | ⟨h12', hk, e⟩ | ⟨_, _, e⟩ <;> rw [e] at he
    · omega
    · cases he; subst hc; exact runT_skip h3
    · omega
    · omega
    · cases he; exact runT_line h12' h3
    · cases he
  | u :: us, cur, hs, l, h12, hu, he => by
    have hu4 := hu u (by simp)
    have hus := fun x (hx : x ∈ us) => hu x (by simp [hx])
    rw [List.cons_append] at he ⊢
    rcases stepT n u (us ++ [e4]) cur hs l h12 with ⟨hc, hk, e⟩ | ⟨hc, hk, e⟩ | ⟨hlt, ha, hk, e⟩ | ⟨h12', hk, e⟩ | ⟨h12', hk, e⟩ | ⟨_, _, e⟩ <;> rw [e] at he
    · subst hc; rw [runT_skip hk]; exact runT_join h4 h3 r us [] hs l (by simp) hus he
    · omega
    · rw [runT_ask ha hlt]; exact runT_join h4 h3 r us _ hs l (by simp; omega) hus he
    · rw [runT_line h12' hk]; exact runT_join h4 h3 r us [] _ _ (by simp) hus he
    · omega
    · cases he
theorem runB_join {b e e4 e3 : Tok} {hs' : List Tok} {l' : List Tk} (h4 : e4.kind = 4) (h3 : e3.kind = 3) (r : List Tok) : ∀ (us cur : List Tok), cur.length ≤ 2 → (∀ u ∈ us, u.kind ≠ 4) → runB (us ++ [e4]) cur = .done b hs' l' e → runB (us ++ e3 :: r) cur = runT b r [] hs' l'
  | [], cur, h2, _, he => by
    rw [List.nil_append] at he ⊢
    rcases stepB e4 [] cur h2 with ⟨hc, hk, e⟩ | ⟨hlt, _, hk, e⟩ | ⟨h2', hk, e⟩ | ⟨h2', hk, e⟩ | ⟨_, _, e⟩ <;> rw [e] at he
    · omega
    · omega
    · omega
    · cases he
      rcases stepB e3 r cur h2 with ⟨hc, hk', e⟩ | ⟨hlt, _, hk', e⟩ | ⟨_, hk', e⟩ | ⟨_, hk', e⟩ | ⟨ha, _, e⟩
      · subst hc; simp at h2'
      · omega
      · exact e
      · omega
      · rw [h2'] at ha; simp [askB, h3] at ha
    · cases he
  | u :: us, cur, h2, hu, he => by
    have hu4 := hu u (by simp)
    have hus := fun x (hx : x ∈ us) => hu x (by simp [hx])
    rw [List.cons_append] at he ⊢
    rcases stepB u (us ++ [e4]) cur h2 with ⟨hc, hk, e⟩ | ⟨hlt, ha, hk, e⟩ | ⟨h2', hk, e⟩ | ⟨h2', hk, e⟩ | ⟨_, _, e⟩ <;> rw [e] at he
    · subst hc; rw [runB_skip hk]; exact runB_join h4 h3 r us [] (by simp) hus he
    · rcases stepB u (us ++ e3 :: r) cur h2 with ⟨hc, hk', e⟩ | ⟨_, _, _, e⟩ | ⟨h2', _, e⟩ | ⟨h2', _, e⟩ | ⟨ha', _, e⟩
      · omega
      · rw [e]; exact runB_join h4 h3 r us _ (by simp; omega) hus he
      · omega
      · omega
      · rw [ha] at ha'; cases ha'
    · rcases stepB u (us ++ e3 :: r) cur h2 with ⟨hc, hk', e⟩ | ⟨_, _, hk', e⟩ | ⟨_, _, e⟩ | ⟨_, hk', e⟩ | ⟨ha', _, e⟩
      · subst hc; simp at h2'
      · omega
      · have hb : b = cur.getD 1 noT := by
          have hE : Ended (us ++ [e4]) := ended_append h4 hus
          exact runT_first _ _ _ _ (by simp) hE he
        rw [e, hb]; exact runT_join h4 h3 r us [] [] [] (by simp) hus he
      · omega
      · rw [h2'] at ha'; simp [askB, hk] at ha'
    · omega
    · cases he
/-- Where 'burst' is read, 'task' isn't. -/
theorem runB_again {b e n : Tok} {hs' hs : List Tok} {l' l : List Tk} (k : Nat) : ∀ ts : List Tok, runB ts [] = .done b hs' l' e → ∃ t ∈ ts, runT n (ts.map (shiftT k)) [] hs l = .bad (shiftT k t)
  | [], h => by simp [runB] at h
  | t :: r, h => by
    rcases stepB t r [] (by simp) with ⟨_, hk, e⟩ | ⟨_, ha, hk, e⟩ | ⟨h2, _, _⟩ | ⟨h2, _, _⟩ | ⟨_, _, e⟩
    · rw [e] at h
      obtain ⟨x, hx, hr⟩ := runB_again k r h
      refine ⟨x, by simp [hx], ?_⟩
      rw [List.map_cons, runT_skip (show (shiftT k t).kind = 3 from hk)]; exact hr
    · refine ⟨t, by simp, ?_⟩
      have ha0 : askB 0 t = true := ha
      simp only [askB, Bool.and_eq_true, decide_eq_true_eq] at ha0
      rw [List.map_cons, runT_bad]
      · simp [askT, shiftT, ha0.2, sBurst, sTask]
      · intro _; simp only [shiftT]; omega
    · simp at h2
    · simp at h2
    · rw [e] at h; cases h
theorem ofRes_bad (t : Tok) : ofRes (.bad t) = spotT 5 t := rfl
/-- A text that is read, behind itself. -/
theorem twice {b : List UInt8} (h : (setA b).2.1 = 0) : ∃ L C, setA (b ++ [10] ++ b) = ((0, []), 5, L, C) ∧ 1 + nl b < L ∧ 1 ≤ C := by
  rcases setA_cases b with ⟨_, _, h1, ⟨n, hs, e, h2, _⟩, _⟩ | ⟨h0, _⟩
  · obtain ⟨us, c, hlx, _⟩ := counts b 1 1 h1
    have hlx' : lex b = (us ++ [⟨4, [], 0, 1 + nl b, c⟩], 0, 0, 0) := hlx
    rcases join10 b 10 rfl b 1 1 with ⟨ts, e', he0, h3, _⟩ | ⟨ts, l', c', h3, h4⟩
    · rw [hlx] at h3; cases h3; exact absurd rfl he0
    · rw [hlx] at h3
      have hsp : us = ts ∧ (1 + nl b) = l' ∧ c = c' := by
        have h5 : us ++ [(⟨4, [], 0, 1 + nl b, c⟩ : Tok)] = ts ++ [⟨4, [], 0, l', c'⟩] := congrArg Prod.fst h3
        have h6 := List.append_inj' h5 rfl
        refine ⟨h6.1, ?_⟩
        have h7 : (⟨4, [], 0, 1 + nl b, c⟩ : Tok) = ⟨4, [], 0, l', c'⟩ := by simpa using h6.2
        injection h7 with _ _ _ h8 h9
        exact ⟨h8, h9⟩
      obtain ⟨rfl, rfl, rfl⟩ := hsp
      have hS := shifts (1 + nl b) b 1 1
      rw [show 1 + (1 + nl b) = 1 + nl b + 1 by omega] at hS
      have hS0 : shiftS (1 + nl b) (lexA b 1 1).2 = (0, 0, 0) := by rw [hlx]; rfl
      rw [hS0] at hS
      rw [hS] at h4
      have hl2 : lex (b ++ [10] ++ b) = (us ++ ⟨3, [], 0, 1 + nl b, c⟩ :: (lexA b 1 1).1.map (shiftT (1 + nl b)), 0, 0, 0) := by
        have e : b ++ [10] ++ b = b ++ 10 :: b := by simp
        rw [e]; exact h4
      rw [hlx'] at h2
      have hus : ∀ u ∈ us, u.kind ≠ 4 := by
        obtain ⟨ts, e, g1, g2, g3⟩ := last_lex b 1 1 h1
        rw [hlx] at g1
        have g4 := List.append_inj' g1 rfl
        rw [g4.1]; exact g3
      have hj := runB_join (e3 := ⟨3, [], 0, 1 + nl b, c⟩) rfl rfl ((lexA b 1 1).1.map (shiftT (1 + nl b))) us [] (by simp) hus h2
      obtain ⟨t, ht, hbad⟩ := runB_again (n := n) (hs := hs) (l := (setA b).1.2) (1 + nl b) _ (by rw [← hlx'] at h2; exact h2)
      have hsp := (spans b 1 1 (by omega) (by omega)).1 t ht
      refine ⟨(shiftT (1 + nl b) t).line, (shiftT (1 + nl b) t).col, ?_, by simp only [shiftT]; omega, by simp only [shiftT]; omega⟩
      have : setA (b ++ [10] ++ b) = ofRes (runB (lex (b ++ [10] ++ b)).1 []) := by unfold setA; rw [if_pos (by rw [hl2])]
      rw [this, hl2, hj]
      have hbad' : runT n ((lexA b 1 1).1.map (shiftT (1 + nl b))) [] hs (setA b).1.2 = .bad (shiftT (1 + nl b) t) := hbad
      rw [hbad', ofRes_bad]
      rfl
  · exact absurd h h0
end Go.Proofs.YtbijgmaeechmoaaDoor
