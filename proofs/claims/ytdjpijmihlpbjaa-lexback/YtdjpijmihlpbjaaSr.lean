/- Tokens' texts stand at their places; put together again they are the same. -/
import Derived.Test.YtdjpijmihlpbjaaSq
namespace Go.Proofs.Ytdjpijmihlpbjaa

/-- What rows of tokens are of a text that is read. -/
inductive Form : Nat → List Tok → Prop
  | fin (line col : Nat) : Form line [⟨4, [], 0, line, col⟩]
  | word (line col : Nat) (c : UInt8) (p : List UInt8) (ts : List Tok) : smallC c = true → (∀ x ∈ p, signC x = true) → Form line ts → Form line (⟨1, c :: p, 0, line, col⟩ :: ts)
  | num (line col : Nat) (c : UInt8) (p : List UInt8) (ts : List Tok) : digitC c = true → (∀ x ∈ p, digitC x = true) → vals 0 (c :: p) ≤ most → Form line ts → Form line (⟨2, c :: p, vals 0 (c :: p), line, col⟩ :: ts)
  | line (line col : Nat) (ts : List Tok) : Form (line + 1) ts → Form line (⟨3, [], 0, line, col⟩ :: ts)
theorem form : ∀ (l : List UInt8) (line col : Nat), (lexA l line col).2.1 = 0 → Form line (lexA l line col).1 := by
  intro l
  induction l using text_rec with
  | nil => intro line col _; exact .fin line col
  | word c p q hc hp hq ih => intro line col h; rw [lexA_word hc hp hq] at h ⊢; exact .word line col c p _ hc hp (ih line _ h)
  | num c p q hc hp hq ih =>
    intro line col h
    by_cases hv : vals 0 (c :: p) ≤ most
    · rw [lexA_num hc hp hq hv] at h ⊢; exact .num line col c p _ hc hp hv (ih line _ h)
    · rw [lexA_over hc hp hq hv] at h; simp at h
  | blank c q hc ih => intro line col h; rw [lexA_blank hc] at h ⊢; exact ih line _ h
  | remark c p q hc hp hq ih => intro line col h; rw [lexA_remark hc hp hq] at h ⊢; exact ih line _ h
  | line c q hc ih => intro line col h; rw [lexA_line hc] at h ⊢; exact .line line col _ (ih (line + 1) 1 h)
  | bad c q h1 h2 h3 h4 h5 => intro line col h; rw [lexA_bad h1 h2 h3 h4 h5] at h; simp at h
theorem Form.first {line : Nat} {ts : List Tok} (h : Form line ts) {t : Tok} (ht : ts[0]? = some t) : t.line = line := by
  cases h <;> (simp at ht; rw [← ht])
/-- Lines rise. -/
theorem Form.rise {line : Nat} {ts : List Tok} (h : Form line ts) : ∀ {i : Nat} {t u : Tok}, ts[i]? = some t → ts[i + 1]? = some u → t.line ≤ u.line := by
  induction h with
  | fin line col => intro i t u _ hu; simp at hu
  | word line col c p ts _ _ hf ih =>
    intro i t u ht hu
    cases i with
    | zero => simp at ht; rw [← ht]; have := hf.first (t := u) (by simpa using hu); simp [this]
    | succ i => exact ih (by simpa using ht) (by simpa using hu)
  | num line col c p ts _ _ _ hf ih =>
    intro i t u ht hu
    cases i with
    | zero => simp at ht; rw [← ht]; have := hf.first (t := u) (by simpa using hu); simp [this]
    | succ i => exact ih (by simpa using ht) (by simpa using hu)
  | line line col ts hf ih =>
    intro i t u ht hu
    cases i with
    | zero => simp at ht; rw [← ht]; have := hf.first (t := u) (by simpa using hu); simp [this]
    | succ i => exact ih (by simpa using ht) (by simpa using hu)
theorem Form.kinds {line : Nat} {ts : List Tok} (h : Form line ts) : ∀ t ∈ ts, t.kind = 3 ∨ t.kind = 4 ∧ t.text = [] ∨ (t.kind ≠ 3 ∧ t.kind ≠ 4) := by
  induction h with
  | fin line col => intro t ht; simp at ht; subst ht; exact .inr (.inl ⟨rfl, rfl⟩)
  | word line col c p ts _ _ hf ih =>
    intro t ht
    rcases List.mem_cons.1 ht with rfl | ht
    · exact .inr (.inr ⟨by simp, by simp⟩)
    · exact ih t ht
  | num line col c p ts _ _ _ hf ih =>
    intro t ht
    rcases List.mem_cons.1 ht with rfl | ht
    · exact .inr (.inr ⟨by simp, by simp⟩)
    · exact ih t ht
  | line line col ts hf ih =>
    intro t ht
    rcases List.mem_cons.1 ht with rfl | ht
    · exact .inl rfl
    · exact ih t ht

/-- What a token is put together as. -/
def piece (t : Tok) : List UInt8 := if t.kind = 3 then [10] else if t.kind = 4 then [] else t.text ++ [32]
def again : List Tok → List UInt8
  | [] => []
  | t :: l => piece t ++ again l
theorem again_append : ∀ a b, again (a ++ b) = again a ++ again b
  | [], _ => rfl
  | t :: a, b => by simp [again, again_append a b]
theorem again_take (ts : List Tok) (i : Nat) {t : Tok} (h : ts[i]? = some t) : again (ts.take (i + 1)) = again (ts.take i) ++ piece t := by
  rw [List.take_add_one, h, again_append]; simp [again]
theorem again_len : ∀ (l : List UInt8) (line col : Nat), (lexA l line col).2.1 = 0 → (again (lexA l line col).1).length ≤ 2 * l.length := by
  intro l
  induction l using text_rec with
  | nil => intro line col _; simp [lexA_nil, again, piece]
  | word c p q hc hp hq ih => intro line col h; rw [lexA_word hc hp hq] at h ⊢; have := ih line _ h; simp [cons, again, piece]; omega
  | num c p q hc hp hq ih =>
    intro line col h
    by_cases hv : vals 0 (c :: p) ≤ most
    · rw [lexA_num hc hp hq hv] at h ⊢; have := ih line _ h; simp [cons, again, piece]; omega
    · rw [lexA_over hc hp hq hv] at h; simp at h
  | blank c q hc ih => intro line col h; rw [lexA_blank hc] at h ⊢; have := ih line _ h; simp; omega
  | remark c p q hc hp hq ih => intro line col h; rw [lexA_remark hc hp hq] at h ⊢; have := ih line _ h; simp; omega
  | line c q hc ih => intro line col h; rw [lexA_line hc] at h ⊢; have := ih (line + 1) 1 h; simp [cons, again, piece]; omega
  | bad c q h1 h2 h3 h4 h5 => intro line col h; rw [lexA_bad h1 h2 h3 h4 h5] at h; simp at h
theorem again_le (ts : List Tok) (i : Nat) : (again (ts.take i)).length ≤ (again ts).length := by
  have := again_append (ts.take i) (ts.drop i)
  rw [List.take_append_drop] at this
  rw [this]; simp

/-- What of a token doesn't hang on its byte. -/
def key (t : Tok) : Nat × List UInt8 × Nat × Nat := (t.kind, t.text, t.value, t.line)
theorem back {line : Nat} {ts : List Tok} (h : Form line ts) : ∀ col, ∃ ms, lexA (again ts) line col = (ms, 0, 0, 0) ∧ ms.map key = ts.map key := by
  induction h with
  | fin line col => intro col'; exact ⟨[⟨4, [], 0, line, col'⟩], rfl, rfl⟩
  | word line col c p ts hc hp hf ih =>
    intro col'
    have e : again (⟨1, c :: p, 0, line, col⟩ :: ts) = c :: (p ++ (32 :: again ts)) := by simp [again, piece]
    obtain ⟨ms, h1, h2⟩ := ih (col' + (p.length + 1) + 1)
    refine ⟨⟨1, c :: p, 0, line, col'⟩ :: ms, ?_, by simp [h2, key]⟩
    rw [e, lexA_word hc hp (Ends.mk (by decide)), lexA_blank (by decide), h1]
    rfl
  | num line col c p ts hc hp hv hf ih =>
    intro col'
    have e : again (⟨2, c :: p, vals 0 (c :: p), line, col⟩ :: ts) = c :: (p ++ (32 :: again ts)) := by simp [again, piece]
    obtain ⟨ms, h1, h2⟩ := ih (col' + (p.length + 1) + 1)
    refine ⟨⟨2, c :: p, vals 0 (c :: p), line, col'⟩ :: ms, ?_, by simp [h2, key]⟩
    rw [e, lexA_num hc hp (Ends.mk (by decide)) hv, lexA_blank (by decide), h1]
    rfl
  | line line col ts hf ih =>
    intro col'
    have e : again (⟨3, [], 0, line, col⟩ :: ts) = 10 :: again ts := by simp [again, piece]
    obtain ⟨ms, h1, h2⟩ := ih 1
    refine ⟨⟨3, [], 0, line, col'⟩ :: ms, ?_, by simp [h2, key]⟩
    rw [e, lexA_line (by decide), h1]
    rfl

/-- The place in the line, behind these bytes. -/
def colF (col : Nat) : List UInt8 → Nat
  | [] => col
  | c :: l => colF (if c.toNat = 10 then 1 else col + 1) l
theorem colF_append (a b : List UInt8) : ∀ col, colF col (a ++ b) = colF (colF col a) b := by
  induction a with
  | nil => intro col; rfl
  | cons c a ih => intro col; exact ih _
theorem colF_none : ∀ {p : List UInt8}, (∀ x ∈ p, x.toNat ≠ 10) → ∀ col, colF col p = col + p.length
  | [], _, col => rfl
  | c :: p, h, col => by
    rw [colF, if_neg (h c (by simp)), colF_none (fun x hx => h x (by simp [hx]))]
    simp; omega
theorem colF_piece {c : UInt8} {p q : List UInt8} (hc : c.toNat ≠ 10) (hp : ∀ x ∈ p, x.toNat ≠ 10) (col : Nat) : colF col (c :: (p ++ q)) = colF (col + (p.length + 1)) q := by
  rw [colF, if_neg hc, colF_append, colF_none hp]
  congr 1; omega
/-- Where a token stands. -/
def Placed (l : List UInt8) (line col : Nat) (t : Tok) : Prop := ∃ pre post, l = pre ++ (t.text ++ post) ∧ t.line = line + nl pre ∧ t.col = colF col pre
theorem placed : ∀ (l : List UInt8) (line col : Nat), (lexA l line col).2.1 = 0 → ∀ t ∈ (lexA l line col).1, Placed l line col t := by
  intro l
  induction l using text_rec with
  | nil => intro line col _ t ht; simp [lexA_nil] at ht; subst ht; exact ⟨[], [], rfl, rfl, rfl⟩
  | word c p q hc hp hq ih =>
    intro line col h t ht
    rw [lexA_word hc hp hq] at h ht
    rcases List.mem_cons.1 ht with rfl | ht
    · exact ⟨[], q, rfl, rfl, rfl⟩
    · obtain ⟨pre, post, e, h1, h2⟩ := ih line _ h t ht
      exact ⟨c :: (p ++ pre), post, by rw [e]; simp, by rw [nl_piece (small_ten hc) (fun x hx => sign_ten (hp x hx))]; exact h1, by rw [colF_piece (small_ten hc) (fun x hx => sign_ten (hp x hx))]; exact h2⟩
  | num c p q hc hp hq ih =>
    intro line col h t ht
    by_cases hv : vals 0 (c :: p) ≤ most
    · rw [lexA_num hc hp hq hv] at h ht
      rcases List.mem_cons.1 ht with rfl | ht
      · exact ⟨[], q, rfl, rfl, rfl⟩
      · obtain ⟨pre, post, e, h1, h2⟩ := ih line _ h t ht
        exact ⟨c :: (p ++ pre), post, by rw [e]; simp, by rw [nl_piece (digit_ten hc) (fun x hx => digit_ten (hp x hx))]; exact h1, by rw [colF_piece (digit_ten hc) (fun x hx => digit_ten (hp x hx))]; exact h2⟩
    · rw [lexA_over hc hp hq hv] at h; simp at h
  | blank c q hc ih =>
    intro line col h t ht
    rw [lexA_blank hc] at h ht
    obtain ⟨pre, post, e, h1, h2⟩ := ih line _ h t ht
    exact ⟨c :: pre, post, by rw [e]; simp, by rw [nl, if_neg (blank_ten hc), Nat.zero_add]; exact h1, by rw [colF, if_neg (blank_ten hc)]; exact h2⟩
  | remark c p q hc hp hq ih =>
    intro line col h t ht
    rw [lexA_remark hc hp hq] at h ht
    obtain ⟨pre, post, e, h1, h2⟩ := ih line _ h t ht
    exact ⟨c :: (p ++ pre), post, by rw [e]; simp, by rw [nl_piece (by omega) (fun x hx => line_ten (hp x hx))]; exact h1, by rw [colF_piece (by omega) (fun x hx => line_ten (hp x hx))]; exact h2⟩
  | line c q hc ih =>
    intro line col h t ht
    rw [lexA_line hc] at h ht
    rcases List.mem_cons.1 ht with rfl | ht
    · exact ⟨[], c :: q, rfl, rfl, rfl⟩
    · obtain ⟨pre, post, e, h1, h2⟩ := ih (line + 1) 1 h t ht
      exact ⟨c :: pre, post, by rw [e]; simp, by rw [nl, if_pos hc, h1]; omega, by rw [colF, if_pos hc]; exact h2⟩
  | bad c q h1 h2 h3 h4 h5 => intro line col h; rw [lexA_bad h1 h2 h3 h4 h5] at h; simp at h

/-- Where the line begins that these bytes end in. -/
def begF (beg pos : Nat) : List UInt8 → Nat
  | [] => beg
  | c :: l => begF (if c.toNat = 10 then pos + 1 else beg) (pos + 1) l
theorem begF_append (a b : List UInt8) : ∀ beg pos, begF beg pos (a ++ b) = begF (begF beg pos a) (pos + a.length) b := by
  induction a with
  | nil => intro beg pos; rfl
  | cons c a ih =>
    intro beg pos
    simp only [List.cons_append, begF, ih, List.length_cons]
    congr 1; omega
theorem begF_none : ∀ {p : List UInt8}, nl p = 0 → ∀ beg pos, begF beg pos p = beg
  | [], _, beg, pos => rfl
  | c :: p, h, beg, pos => by
    by_cases hc : c.toNat = 10
    · rw [nl, if_pos hc] at h; omega
    · rw [nl, if_neg hc] at h
      rw [begF, if_neg hc, begF_none (by omega)]
theorem colF_begF (l : List UInt8) : ∀ beg pos, beg ≤ pos → begF beg pos l ≤ pos + l.length ∧ colF (pos - beg + 1) l = pos + l.length - begF beg pos l + 1 := by
  induction l with
  | nil => intro beg pos h; exact ⟨by simp [begF]; omega, by simp [begF, colF]⟩
  | cons c l ih =>
    intro beg pos h
    by_cases hc : c.toNat = 10
    · obtain ⟨h1, h2⟩ := ih (pos + 1) (pos + 1) (Nat.le_refl _)
      rw [begF, colF, if_pos hc, if_pos hc]
      rw [show pos + 1 - (pos + 1) + 1 = 1 by omega] at h2
      rw [h2]
      simp only [List.length_cons]
      exact ⟨by omega, by omega⟩
    · obtain ⟨h1, h2⟩ := ih beg (pos + 1) (by omega)
      rw [begF, colF, if_neg hc, if_neg hc]
      rw [show pos + 1 - beg + 1 = pos - beg + 1 + 1 by omega] at h2
      rw [h2]
      simp only [List.length_cons]
      exact ⟨by omega, by omega⟩
theorem nl_take_le (b : List UInt8) {m m' : Nat} (h : m ≤ m') : nl (b.take m) ≤ nl (b.take m') := by
  have : b.take m' = b.take m ++ (b.drop m).take (m' - m) := by
    rw [show m' = m + (m' - m) by omega, List.take_add]; simp
  rw [this, nl_append]; omega
/-- Two beginnings of a text with as many lines' ends. -/
theorem begF_same (b : List UInt8) {m m' : Nat} (h : nl (b.take m) = nl (b.take m')) : begF 0 0 (b.take m) = begF 0 0 (b.take m') := by
  have key : ∀ m m', m ≤ m' → nl (b.take m) = nl (b.take m') → begF 0 0 (b.take m) = begF 0 0 (b.take m') := by
    intro m m' hm h
    have e : b.take m' = b.take m ++ (b.drop m).take (m' - m) := by
      rw [show m' = m + (m' - m) by omega, List.take_add]; simp
    rw [e, nl_append] at h
    rw [e, begF_append, begF_none (show nl ((b.drop m).take (m' - m)) = 0 by omega)]
  rcases Nat.le_total m m' with hm | hm
  · exact key m m' hm h
  · exact (key m' m hm h.symm).symm
theorem nl_next {b : List UInt8} {m : Nat} {c : UInt8} (h : b[m]? = some c) : nl (b.take (m + 1)) = nl (b.take m) + (if c.toNat = 10 then 1 else 0) := by
  rw [List.take_add_one, h, nl_append]; simp [nl]
theorem begF_next {b : List UInt8} {m : Nat} {c : UInt8} (h : b[m]? = some c) : begF 0 0 (b.take (m + 1)) = if c.toNat = 10 then m + 1 else begF 0 0 (b.take m) := by
  have hm : m < b.length := (List.getElem?_eq_some_iff.1 h).1
  rw [List.take_add_one, h, begF_append]
  simp only [Option.toList_some, begF, List.length_take, Nat.zero_add]
  rw [show min m b.length = m by omega]
/-- At the line that a token tells, its text stands at the place that it tells. -/
theorem stands {b : List UInt8} {t : Tok} (h : Placed b 1 1 t) : ∃ p, p + t.text.length ≤ b.length ∧ (b.drop p).take t.text.length = t.text ∧ 1 ≤ t.line ∧ t.line ≤ 1 + nl b ∧
    ∀ m, 1 + nl (b.take m) = t.line → begF 0 0 (b.take m) + t.col = p + 1 := by
  obtain ⟨pre, post, e, h1, h2⟩ := h
  have ht : b.take pre.length = pre := by rw [e]; simp
  refine ⟨pre.length, by rw [e]; simp, by rw [e]; simp, by omega, by rw [h1, e, nl_append]; omega, fun m hm => ?_⟩
  have := begF_same b (m := m) (m' := pre.length) (by rw [ht]; omega)
  rw [this, ht, h2]
  obtain ⟨g1, g2⟩ := colF_begF pre 0 0 (Nat.le_refl _)
  rw [show (0 : Nat) - 0 + 1 = 1 by omega] at g2
  rw [g2]; omega
end Go.Proofs.Ytdjpijmihlpbjaa
