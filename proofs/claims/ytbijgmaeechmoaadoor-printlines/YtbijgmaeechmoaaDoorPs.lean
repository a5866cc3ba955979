/- Texts of sets: what is read of tokens, as a function of lists. -/
import Derived.Test.YtbijgmaeechmoaaDoorLSp
import Derived.Test.YtbijgmaeechmoaaDoorKSp
namespace Go.Proofs.YtbijgmaeechmoaaDoor
open Lx Kx

def sBurst : List UInt8 := [98, 117, 114, 115, 116]
def sTask : List UInt8 := [116, 97, 115, 107]
def modeF (s : List UInt8) : Nat := if s = [114, 101, 116, 114, 121] then 1 else if s = [98, 108, 111, 99, 107] then 2 else if s = [98, 97, 99, 107, 117, 112] then 3 else 0
def noT : Tok := ⟨0, [], 0, 0, 0⟩

/-- What is asked of the i-th token of the first line, of a task's line. -/
def askB : Nat → Tok → Bool
  | 0, t => decide (t.kind = 1) && decide (t.text = sBurst)
  | 1, t => decide (t.kind = 2)
  | _, t => decide (t.kind = 3) || decide (t.kind = 4)
def kindT : Nat → Nat
  | 0 => 1
  | 1 => 1
  | 5 => 1
  | _ => 2
def askT (i : Nat) (t : Tok) : Bool :=
  if i = 12 then decide (t.kind = 3) || decide (t.kind = 4)
  else decide (t.kind = kindT i) && (if i = 0 then decide (t.text = sTask) else if i = 5 then !decide (modeF t.text = 0) else true)
def taskOf (x : List Tok) : Tk :=
  ⟨⟨(x.getD 1 noT).text.toArray⟩, ((x.getD 2 noT).value : Nat), ((x.getD 3 noT).value : Nat), ((x.getD 4 noT).value : Nat), ((x.getD 6 noT).value : Nat), ((x.getD 7 noT).value : Nat), ((x.getD 8 noT).value : Nat), ((x.getD 9 noT).value : Nat), ((x.getD 10 noT).value : Nat), (modeF (x.getD 5 noT).text : Nat), ((x.getD 11 noT).value : Nat)⟩

/-- What comes of tokens: one that isn't what is asked; or all lines: burst's number, each task's first word, the tasks, the end. -/
inductive Res where
  | bad (t : Tok)
  | done (b : Tok) (hs : List Tok) (l : List Tk) (e : Tok)

/-- Behind the first line; cur is read of this line already. -/
def runT (n : Tok) : List Tok → List Tok → List Tok → List Tk → Res
  | [], _, _, _ => .bad noT
  | t :: r, cur, hs, l =>
    if cur.length = 0 ∧ t.kind = 3 then runT n r [] hs l
    else if cur.length = 0 ∧ t.kind = 4 then .done n hs l t
    else if askT cur.length t = true then
      if cur.length = 12 then (if t.kind = 4 then .done n (hs ++ [cur.getD 0 noT]) (l ++ [taskOf cur]) t else runT n r [] (hs ++ [cur.getD 0 noT]) (l ++ [taskOf cur]))
      else runT n r (cur ++ [t]) hs l
    else .bad t
/-- From the first line on. -/
def runB : List Tok → List Tok → Res
  | [], _ => .bad noT
  | t :: r, cur =>
    if cur.length = 0 ∧ t.kind = 3 then runB r []
    else if askB cur.length t = true then
      if cur.length = 2 then (if t.kind = 4 then .done (cur.getD 1 noT) [] [] t else runT (cur.getD 1 noT) r [] [] [])
      else runB r (cur ++ [t])
    else .bad t

abbrev Ans : Type := (Int × List Tk) × Nat × Nat × Nat
def spotT (e : Nat) (t : Tok) : Ans := ((0, []), e, t.line, t.col)
/-- The token at which a set isn't right. -/
def blameF (p : Int × Int) (b : Tok) (hs : List Tok) (e : Tok) : Tok :=
  if p.1 = 1 then b else if p.1 = 2 then (if 16 < hs.length then hs.getD 16 noT else e) else hs.getD p.2.toNat noT
def ofRes : Res → Ans
  | .bad t => spotT 5 t
  | .done b hs l e => if (whyF (b.value : Nat) l).1 = 0 then (((b.value : Nat), l), 0, 0, 0) else spotT 1 (blameF (whyF (b.value : Nat) l) b hs e)
/-- What is answered of a text. -/
def setA (b : List UInt8) : Ans := if (lex b).2.1 = 0 then ofRes (runB (lex b).1 []) else ((0, []), (lex b).2)

section
variable {n t : Tok} {r cur hs : List Tok} {l : List Tk}
theorem runT_skip (h : t.kind = 3) : runT n (t :: r) [] hs l = runT n r [] hs l := by simp [runT, h]
theorem runT_end (h : t.kind = 4) : runT n (t :: r) [] hs l = .done n hs l t := by simp [runT, h]
theorem askT_kind {i : Nat} (h : askT i t = true) (hi : i < 12) : t.kind = 1 ∨ t.kind = 2 := by
  unfold askT at h
  rw [if_neg (by omega)] at h
  have h1 : t.kind = kindT i := by
    have := (Bool.and_eq_true _ _ ▸ h).1
    simpa using this
  rw [h1]
  unfold kindT
  split <;> simp
theorem runT_ask (h : askT cur.length t = true) (hc : cur.length < 12) : runT n (t :: r) cur hs l = runT n r (cur ++ [t]) hs l := by
  have hk := askT_kind h hc
  rw [runT, if_neg (by omega), if_neg (by omega), if_pos h, if_neg (by omega)]
theorem runT_bad (h : askT cur.length t = false) (hk : cur.length = 0 → t.kind ≠ 3 ∧ t.kind ≠ 4) : runT n (t :: r) cur hs l = .bad t := by
  rw [runT, if_neg (fun e => (hk e.1).1 e.2), if_neg (fun e => (hk e.1).2 e.2), if_neg (by rw [h]; simp)]
theorem runT_line (hc : cur.length = 12) (h : t.kind = 3) : runT n (t :: r) cur hs l = runT n r [] (hs ++ [cur.getD 0 noT]) (l ++ [taskOf cur]) := by
  rw [runT, if_neg (by omega), if_neg (by omega), if_pos (by simp [askT, hc, h]), if_pos hc, if_neg (by omega)]
theorem runT_last (hc : cur.length = 12) (h : t.kind = 4) : runT n (t :: r) cur hs l = .done n (hs ++ [cur.getD 0 noT]) (l ++ [taskOf cur]) t := by
  rw [runT, if_neg (by omega), if_neg (by omega), if_pos (by simp [askT, hc, h]), if_pos hc, if_pos h]
/-- Tokens that are all as they are asked. -/
theorem runT_all : ∀ (y : List Tok) {cur r : List Tok}, (∀ j t, y[j]? = some t → askT (cur.length + j) t = true) → cur.length + y.length ≤ 12 → runT n (y ++ r) cur hs l = runT n r (cur ++ y) hs l
  | [], cur, r, _, _ => by simp
  | t :: y, cur, r, h, hl => by
    simp only [List.length_cons] at hl
    rw [List.cons_append, runT_ask (by simpa using h 0 t rfl) (by omega), runT_all y (fun j u hu => by
      have := h (j + 1) u (by simpa using hu)
      simpa [Nat.add_assoc, Nat.add_comm 1 j] using this) (by simp; omega)]
    simp
theorem runB_skip (h : t.kind = 3) : runB (t :: r) [] = runB r [] := by simp [runB, h]
theorem runB_ask0 (h : askB 0 t = true) : runB (t :: r) [] = runB r [t] := by
  have hk : t.kind = 1 := by
    simp only [askB, Bool.and_eq_true, decide_eq_true_eq] at h; exact h.1
  rw [runB, if_neg (by simp [hk]), if_pos (show askB ([] : List Tok).length t = true from h), if_neg (by simp)]; rfl
theorem runB_bad0 (h : askB 0 t = false) (hk : t.kind ≠ 3) : runB (t :: r) [] = .bad t := by
  rw [runB, if_neg (fun e => hk e.2), if_neg (by rw [show ([] : List Tok).length = 0 from rfl, h]; simp)]
theorem runB_ask1 {a : Tok} (h : t.kind = 2) : runB (t :: r) [a] = runB r [a, t] := by
  rw [runB, if_neg (by simp), if_pos (by simp [askB, h]), if_neg (by simp)]; rfl
theorem runB_bad1 {a : Tok} (h : t.kind ≠ 2) : runB (t :: r) [a] = .bad t := by
  rw [runB, if_neg (by simp), if_neg (by simp [askB, h])]
theorem runB_line {a b : Tok} (h : t.kind = 3) : runB (t :: r) [a, b] = runT b r [] [] [] := by
  rw [runB, if_neg (by simp), if_pos (by simp [askB, h]), if_pos (by simp), if_neg (by omega)]; rfl
theorem runB_last {a b : Tok} (h : t.kind = 4) : runB (t :: r) [a, b] = .done b [] [] t := by
  rw [runB, if_neg (by simp), if_pos (by simp [askB, h]), if_pos (by simp), if_pos h]; rfl
theorem runB_bad2 {a b : Tok} (h : t.kind ≠ 3) (h' : t.kind ≠ 4) : runB (t :: r) [a, b] = .bad t := by
  rw [runB, if_neg (by simp), if_neg (by simp [askB, h, h'])]
end

/-- A token as a text has them. -/
def Fair (t : Tok) : Prop := (t.kind = 1 ∧ ∃ c p, t.text = c :: p ∧ smallC c = true) ∨ (t.kind = 2 ∧ ∃ c p, t.text = c :: p ∧ digitC c = true) ∨ ((t.kind = 3 ∨ t.kind = 4) ∧ t.text = [])
/-- The end stands at the end, and there alone; all tokens are fair. -/
structure Fin (ts : List Tok) : Prop where
  fair : ∀ t ∈ ts, Fair t
  last : ∀ (k : Nat) (t : Tok), ts[k]? = some t → (k + 1 = ts.length ↔ t.kind = 4)
theorem Fair.word {t : Tok} (h : Fair t) {c : UInt8} {p : List UInt8} (e : t.text = c :: p) (hc : digitC c = false) : t.kind = 1 := by
  rcases h with h | ⟨_, c', p', h1, h2⟩ | ⟨_, h⟩
  · exact h.1
  · rw [e] at h1; cases h1; rw [hc] at h2; cases h2
  · rw [e] at h; cases h
theorem Fair.burst {t : Tok} (h : Fair t) : askB 0 t = decide (t.text = sBurst) := by
  by_cases e : t.text = sBurst
  · simp [askB, e, h.word e (by decide)]
  · simp [askB, e]
theorem Fair.task {t : Tok} (h : Fair t) : askT 0 t = decide (t.text = sTask) := by
  by_cases e : t.text = sTask
  · simp [askT, e, h.word e (by decide), kindT]
  · simp [askT, e]
theorem modeF_word {s : List UInt8} (h : modeF s ≠ 0) : ∃ c p, s = c :: p ∧ digitC c = false := by
  unfold modeF at h
  split at h
  · next e => exact ⟨_, _, e, by decide⟩
  · split at h
    · next e => exact ⟨_, _, e, by decide⟩
    · split at h
      · next e => exact ⟨_, _, e, by decide⟩
      · exact absurd rfl h
theorem Fair.mode {t : Tok} (h : Fair t) : askT 5 t = !decide (modeF t.text = 0) := by
  by_cases e : modeF t.text = 0
  · simp [askT, e]
  · obtain ⟨c, p, e1, e2⟩ := modeF_word e
    simp [askT, e, h.word e1 e2, kindT]
theorem askT_num {t : Tok} {i : Nat} (hi : i = 2 ∨ i = 3 ∨ i = 4 ∨ i = 6 ∨ i = 7 ∨ i = 8 ∨ i = 9 ∨ i = 10 ∨ i = 11) : askT i t = decide (t.kind = 2) := by
  rcases hi with rfl | rfl | rfl | rfl | rfl | rfl | rfl | rfl | rfl <;> simp [askT, kindT]
theorem askT_name {t : Tok} : askT 1 t = decide (t.kind = 1) := by simp [askT, kindT]
theorem askT_over {t : Tok} : askT 12 t = (decide (t.kind = 3) || decide (t.kind = 4)) := by simp [askT]

theorem fair_lex : ∀ (l : List UInt8) (line col : Nat), ∀ t ∈ (lexA l line col).1, Fair t := by
  intro l
  induction l using text_rec with
  | nil => intro line col t ht; simp [lexA_nil] at ht; subst ht; exact .inr (.inr ⟨.inr rfl, rfl⟩)
  | word c p q hc hp hq ih =>
    intro line col t ht
    rw [lexA_word hc hp hq] at ht
    rcases List.mem_cons.1 ht with rfl | ht
    · exact .inl ⟨rfl, c, p, rfl, hc⟩
    · exact ih _ _ t ht
  | num c p q hc hp hq ih =>
    intro line col t ht
    by_cases hv : vals 0 (c :: p) ≤ most
    · rw [lexA_num hc hp hq hv] at ht
      rcases List.mem_cons.1 ht with rfl | ht
      · exact .inr (.inl ⟨rfl, c, p, rfl, hc⟩)
      · exact ih _ _ t ht
    · rw [lexA_over hc hp hq hv] at ht; cases ht
  | blank c q hc ih => intro line col t ht; rw [lexA_blank hc] at ht; exact ih _ _ t ht
  | remark c p q hc hp hq ih => intro line col t ht; rw [lexA_remark hc hp hq] at ht; exact ih _ _ t ht
  | line c q hc ih =>
    intro line col t ht
    rw [lexA_line hc] at ht
    rcases List.mem_cons.1 ht with rfl | ht
    · exact .inr (.inr ⟨.inl rfl, rfl⟩)
    · exact ih _ _ t ht
  | bad c q h1 h2 h3 h4 h5 => intro line col t ht; rw [lexA_bad h1 h2 h3 h4 h5] at ht; cases ht
/-- Of a text that is read the end comes last. -/
theorem last_lex : ∀ (l : List UInt8) (line col : Nat), (lexA l line col).2.1 = 0 → ∃ ts e, (lexA l line col).1 = ts ++ [e] ∧ e.kind = 4 ∧ ∀ t ∈ ts, t.kind ≠ 4 := by
  intro l
  induction l using text_rec with
  | nil => intro line col _; exact ⟨[], ⟨4, [], 0, line, col⟩, rfl, rfl, by simp⟩
  | word c p q hc hp hq ih =>
    intro line col h
    rw [lexA_word hc hp hq] at h ⊢
    obtain ⟨ts, e, h1, h2, h3⟩ := ih _ _ h
    refine ⟨⟨1, c :: p, 0, line, col⟩ :: ts, e, by simp [cons, h1], h2, fun t ht => ?_⟩
    rcases List.mem_cons.1 ht with rfl | ht
    · simp
    · exact h3 t ht
  | num c p q hc hp hq ih =>
    intro line col h
    by_cases hv : vals 0 (c :: p) ≤ most
    · rw [lexA_num hc hp hq hv] at h ⊢
      obtain ⟨ts, e, h1, h2, h3⟩ := ih _ _ h
      refine ⟨⟨2, c :: p, vals 0 (c :: p), line, col⟩ :: ts, e, by simp [cons, h1], h2, fun t ht => ?_⟩
      rcases List.mem_cons.1 ht with rfl | ht
      · simp
      · exact h3 t ht
    · rw [lexA_over hc hp hq hv] at h; cases h
  | blank c q hc ih => intro line col h; rw [lexA_blank hc] at h ⊢; exact ih _ _ h
  | remark c p q hc hp hq ih => intro line col h; rw [lexA_remark hc hp hq] at h ⊢; exact ih _ _ h
  | line c q hc ih =>
    intro line col h
    rw [lexA_line hc] at h ⊢
    obtain ⟨ts, e, h1, h2, h3⟩ := ih _ _ h
    refine ⟨⟨3, [], 0, line, col⟩ :: ts, e, by simp [cons, h1], h2, fun t ht => ?_⟩
    rcases List.mem_cons.1 ht with rfl | ht
    · simp
    · exact h3 t ht
  | bad c q h1 h2 h3 h4 h5 => intro line col h; rw [lexA_bad h1 h2 h3 h4 h5] at h; cases h
theorem fin_lex {b : List UInt8} (h : (lex b).2.1 = 0) : Fin (lex b).1 := by
  refine ⟨fair_lex b 1 1, fun k t hk => ?_⟩
  obtain ⟨ts, e, h1, h2, h3⟩ := last_lex b 1 1 h
  have h1' : (lex b).1 = ts ++ [e] := h1
  rw [h1'] at hk ⊢
  have hlt := (List.getElem?_eq_some_iff.1 hk).1
  simp only [List.length_append, List.length_cons, List.length_nil] at hlt ⊢
  by_cases hk' : k < ts.length
  · rw [List.getElem?_append_left hk'] at hk
    have := h3 t (List.mem_of_getElem? hk)
    constructor
    · intro; omega
    · intro hh; exact absurd hh this
  · rw [List.getElem?_append_right (by omega), show k - ts.length = 0 by omega] at hk
    have : e = t := by simpa using hk
    subst this
    exact ⟨fun _ => h2, fun _ => by omega⟩
theorem Fin.next {ts : List Tok} (h : Fin ts) {k : Nat} {t : Tok} (hk : ts[k]? = some t) (ht : t.kind ≠ 4) : k + 1 < ts.length := by
  have h1 := (List.getElem?_eq_some_iff.1 hk).1
  have h2 : k + 1 ≠ ts.length := fun e => ht ((h.last k t hk).1 e)
  omega
theorem drop_tok {ts : List Tok} {k : Nat} {t : Tok} (hk : ts[k]? = some t) : ts.drop k = t :: ts.drop (k + 1) := by
  obtain ⟨h1, h2⟩ := List.getElem?_eq_some_iff.1 hk
  rw [List.drop_eq_getElem_cons h1, h2]
end Go.Proofs.YtbijgmaeechmoaaDoor
