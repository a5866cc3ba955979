/- What follows of the tokens' definition. -/
import Derived.Test.YtbijgmaeechmoaaDoorLSp
namespace Go.Proofs.YtbijgmaeechmoaaDoor.Lx

theorem Ends.append {f : UInt8 → Bool} {q r : List UInt8} {x : UInt8} (h : Ends f q) (hx : f x = false) : Ends f (q ++ x :: r) := by
  intro c s e
  cases q with
  | nil => simp at e; rw [← e.1]; exact hx
  | cons y q => simp at e; rw [← e.1]; exact h y q rfl
theorem Ends.more {f : UInt8 → Bool} {q r : List UInt8} (h : Ends f q) (hq : q ≠ []) : Ends f (q ++ r) := by
  intro c s e
  cases q with
  | nil => exact absurd rfl hq
  | cons y q => simp at e; rw [← e.1]; exact h y q rfl
theorem ten_sign {x : UInt8} (h : x.toNat = 10) : signC x = false := by simp [signC, smallC, digitC]; omega
theorem ten_digit {x : UInt8} (h : x.toNat = 10) : digitC x = false := by simp [digitC]; omega
theorem ten_line {x : UInt8} (h : x.toNat = 10) : lineC x = false := by simp [lineC, h]
theorem mark_sign {x : UInt8} (h : x.toNat = 35) : signC x = false := by simp [signC, smallC, digitC]; omega
theorem mark_digit {x : UInt8} (h : x.toNat = 35) : digitC x = false := by simp [digitC]; omega
theorem mark_line {x : UInt8} (h : x.toNat = 35) : lineC x = true := by simp [lineC, h]

/-- Two texts, a line's end between. -/
theorem join10 (b : List UInt8) (x : UInt8) (hx : x.toNat = 10) : ∀ (a : List UInt8) (line col : Nat),
    (∃ ts e, e.1 ≠ 0 ∧ lexA a line col = (ts, e) ∧ lexA (a ++ x :: b) line col = (ts, e)) ∨
    (∃ ts l' c', lexA a line col = (ts ++ [⟨4, [], 0, l', c'⟩], 0, 0, 0) ∧ lexA (a ++ x :: b) line col = (ts ++ ⟨3, [], 0, l', c'⟩ :: (lexA b (l' + 1) 1).1, (lexA b (l' + 1) 1).2)) := by
  intro a
  induction a using text_rec with
  | nil => intro line col; exact .inr ⟨[], line, col, rfl, by rw [List.nil_append, lexA_line hx]; rfl⟩
  | word c p q hc hp hq ih =>
    intro line col
    have e : c :: (p ++ q) ++ x :: b = c :: (p ++ (q ++ x :: b)) := by simp
    rw [e, lexA_word hc hp hq, lexA_word hc hp (hq.append (ten_sign hx))]
    rcases ih line (col + (p.length + 1)) with ⟨ts, e, h0, h1, h2⟩ | ⟨ts, l', c', h1, h2⟩
    · exact .inl ⟨_, e, h0, by rw [h1]; rfl, by rw [h2]; rfl⟩
    · exact .inr ⟨⟨1, c :: p, 0, line, col⟩ :: ts, l', c', by rw [h1]; rfl, by rw [h2]; rfl⟩
  | num c p q hc hp hq ih =>
    intro line col
    have e : c :: (p ++ q) ++ x :: b = c :: (p ++ (q ++ x :: b)) := by simp
    rw [e]
    by_cases hv : vals 0 (c :: p) ≤ most
    · rw [lexA_num hc hp hq hv, lexA_num hc hp (hq.append (ten_digit hx)) hv]
      rcases ih line (col + (p.length + 1)) with ⟨ts, e, h0, h1, h2⟩ | ⟨ts, l', c', h1, h2⟩
      · exact .inl ⟨_, e, h0, by rw [h1]; rfl, by rw [h2]; rfl⟩
      · exact .inr ⟨⟨2, c :: p, vals 0 (c :: p), line, col⟩ :: ts, l', c', by rw [h1]; rfl, by rw [h2]; rfl⟩
    · rw [lexA_over hc hp hq hv, lexA_over hc hp (hq.append (ten_digit hx)) hv]
      exact .inl ⟨[], (2, line, col), by simp, rfl, rfl⟩
  | blank c q hc ih =>
    intro line col
    rw [List.cons_append, lexA_blank hc, lexA_blank hc]
    exact ih line (col + 1)
  | remark c p q hc hp hq ih =>
    intro line col
    have e : c :: (p ++ q) ++ x :: b = c :: (p ++ (q ++ x :: b)) := by simp
    rw [e, lexA_remark hc hp hq, lexA_remark hc hp (hq.append (ten_line hx))]
    exact ih line (col + (p.length + 1))
  | line c q hc ih =>
    intro line col
    rw [List.cons_append, lexA_line hc, lexA_line hc]
    rcases ih (line + 1) 1 with ⟨ts, e, h0, h1, h2⟩ | ⟨ts, l', c', h1, h2⟩
    · exact .inl ⟨_, e, h0, by rw [h1]; rfl, by rw [h2]; rfl⟩
    · exact .inr ⟨⟨3, [], 0, line, col⟩ :: ts, l', c', by rw [h1]; rfl, by rw [h2]; rfl⟩
  | bad c q h1 h2 h3 h4 h5 =>
    intro line col
    rw [List.cons_append, lexA_bad h1 h2 h3 h4 h5, lexA_bad h1 h2 h3 h4 h5]
    exact .inl ⟨[], (5, line, col), by simp, rfl, rfl⟩

/-- A remark behind a text. -/
theorem join35 (r : List UInt8) (x : UInt8) (hx : x.toNat = 35) (hr : ∀ y ∈ r, lineC y = true) : ∀ (a : List UInt8) (line col : Nat),
    (∃ ts e, e.1 ≠ 0 ∧ lexA a line col = (ts, e) ∧ lexA (a ++ x :: r) line col = (ts, e)) ∨
    (∃ ts l' c' c'', lexA a line col = (ts ++ [⟨4, [], 0, l', c'⟩], 0, 0, 0) ∧ lexA (a ++ x :: r) line col = (ts ++ [⟨4, [], 0, l', c''⟩], 0, 0, 0)) := by
  intro a
  induction a using text_rec with
  | nil =>
    intro line col
    refine .inr ⟨[], line, col, col + (r.length + 1), rfl, ?_⟩
    have := lexA_remark (line := line) (col := col) hx hr Ends.nil
    rw [List.append_nil] at this
    rw [List.nil_append, this, lexA_nil]
    rfl
  | word c p q hc hp hq ih =>
    intro line col
    have e : c :: (p ++ q) ++ x :: r = c :: (p ++ (q ++ x :: r)) := by simp
    rw [e, lexA_word hc hp hq, lexA_word hc hp (hq.append (mark_sign hx))]
    rcases ih line (col + (p.length + 1)) with ⟨ts, e, h0, h1, h2⟩ | ⟨ts, l', c', c'', h1, h2⟩
    · exact .inl ⟨_, e, h0, by rw [h1]; rfl, by rw [h2]; rfl⟩
    · exact .inr ⟨⟨1, c :: p, 0, line, col⟩ :: ts, l', c', c'', by rw [h1]; rfl, by rw [h2]; rfl⟩
  | num c p q hc hp hq ih =>
    intro line col
    have e : c :: (p ++ q) ++ x :: r = c :: (p ++ (q ++ x :: r)) := by simp
    rw [e]
    by_cases hv : vals 0 (c :: p) ≤ most
    · rw [lexA_num hc hp hq hv, lexA_num hc hp (hq.append (mark_digit hx)) hv]
      rcases ih line (col + (p.length + 1)) with ⟨ts, e, h0, h1, h2⟩ | ⟨ts, l', c', c'', h1, h2⟩
      · exact .inl ⟨_, e, h0, by rw [h1]; rfl, by rw [h2]; rfl⟩
      · exact .inr ⟨⟨2, c :: p, vals 0 (c :: p), line, col⟩ :: ts, l', c', c'', by rw [h1]; rfl, by rw [h2]; rfl⟩
    · rw [lexA_over hc hp hq hv, lexA_over hc hp (hq.append (mark_digit hx)) hv]
      exact .inl ⟨[], (2, line, col), by simp, rfl, rfl⟩
  | blank c q hc ih =>
    intro line col
    rw [List.cons_append, lexA_blank hc, lexA_blank hc]
    exact ih line (col + 1)
  | remark c p q hc hp hq ih =>
    intro line col
    cases q with
    | nil =>
      have e : c :: (p ++ []) ++ x :: r = c :: ((p ++ x :: r) ++ []) := by simp
      have hp' : ∀ y ∈ p ++ x :: r, lineC y = true := by
        intro y hy
        rcases List.mem_append.1 hy with h | h
        · exact hp y h
        · rcases List.mem_cons.1 h with rfl | h
          · exact mark_line hx
          · exact hr y h
      rw [e, lexA_remark hc hp hq, lexA_remark hc hp' Ends.nil]
      exact .inr ⟨[], line, _, _, rfl, rfl⟩
    | cons y q =>
      have e : c :: (p ++ y :: q) ++ x :: r = c :: (p ++ (y :: q ++ x :: r)) := by simp
      rw [e, lexA_remark hc hp hq, lexA_remark hc hp (hq.more (by simp))]
      exact ih line (col + (p.length + 1))
  | line c q hc ih =>
    intro line col
    rw [List.cons_append, lexA_line hc, lexA_line hc]
    rcases ih (line + 1) 1 with ⟨ts, e, h0, h1, h2⟩ | ⟨ts, l', c', c'', h1, h2⟩
    · exact .inl ⟨_, e, h0, by rw [h1]; rfl, by rw [h2]; rfl⟩
    · exact .inr ⟨⟨3, [], 0, line, col⟩ :: ts, l', c', c'', by rw [h1]; rfl, by rw [h2]; rfl⟩
  | bad c q h1 h2 h3 h4 h5 =>
    intro line col
    rw [List.cons_append, lexA_bad h1 h2 h3 h4 h5, lexA_bad h1 h2 h3 h4 h5]
    exact .inl ⟨[], (5, line, col), by simp, rfl, rfl⟩

def shiftT (k : Nat) (t : Tok) : Tok := ⟨t.kind, t.text, t.value, t.line + k, t.col⟩
def shiftS (k : Nat) (s : Nat × Nat × Nat) : Nat × Nat × Nat := if s.1 = 0 then s else (s.1, s.2.1 + k, s.2.2)
/-- The same text some lines further. -/
theorem shifts (k : Nat) : ∀ (l : List UInt8) (line col : Nat), lexA l (line + k) col = ((lexA l line col).1.map (shiftT k), shiftS k (lexA l line col).2) := by
  intro l
  induction l using text_rec with
  | nil => intro line col; simp [lexA_nil, shiftT, shiftS]
  | word c p q hc hp hq ih => intro line col; rw [lexA_word hc hp hq, lexA_word hc hp hq, ih]; simp [cons, shiftT]
  | num c p q hc hp hq ih =>
    intro line col
    by_cases hv : vals 0 (c :: p) ≤ most
    · rw [lexA_num hc hp hq hv, lexA_num hc hp hq hv, ih]; simp [cons, shiftT]
    · rw [lexA_over hc hp hq hv, lexA_over hc hp hq hv]; simp [shiftS]
  | blank c q hc ih => intro line col; rw [lexA_blank hc, lexA_blank hc, ih]
  | remark c p q hc hp hq ih => intro line col; rw [lexA_remark hc hp hq, lexA_remark hc hp hq, ih]
  | line c q hc ih => intro line col; rw [lexA_line hc, lexA_line hc, show line + k + 1 = line + 1 + k by omega, ih]; simp [cons, shiftT]
  | bad c q h1 h2 h3 h4 h5 => intro line col; rw [lexA_bad h1 h2 h3 h4 h5, lexA_bad h1 h2 h3 h4 h5]; simp [shiftS]

/-- What an error is. -/
theorem errs : ∀ (l : List UInt8) (line col : Nat), 1 ≤ line → 1 ≤ col → (lexA l line col).2.1 ≠ 0 → ((lexA l line col).2.1 = 5 ∨ (lexA l line col).2.1 = 2) ∧ 1 ≤ (lexA l line col).2.2.1 ∧ 1 ≤ (lexA l line col).2.2.2 := by
  intro l
  induction l using text_rec with
  | nil => intro line col _ _ h; simp [lexA_nil] at h
  | word c p q hc hp hq ih => intro line col h1 h2; rw [lexA_word hc hp hq]; exact ih line _ h1 (by omega)
  | num c p q hc hp hq ih =>
    intro line col h1 h2
    by_cases hv : vals 0 (c :: p) ≤ most
    · rw [lexA_num hc hp hq hv]; exact ih line _ h1 (by omega)
    · rw [lexA_over hc hp hq hv]; exact fun _ => ⟨.inr rfl, h1, h2⟩
  | blank c q hc ih => intro line col h1 h2; rw [lexA_blank hc]; exact ih line _ h1 (by omega)
  | remark c p q hc hp hq ih => intro line col h1 h2; rw [lexA_remark hc hp hq]; exact ih line _ h1 (by omega)
  | line c q hc ih => intro line col h1 h2; rw [lexA_line hc]; exact ih (line + 1) 1 (by omega) (by omega)
  | bad c q h1 h2 h3 h4 h5 => intro line col g1 g2; rw [lexA_bad h1 h2 h3 h4 h5]; exact fun _ => ⟨.inl rfl, g1, g2⟩

/-- How many lines end in it. -/
def nl : List UInt8 → Nat
  | [] => 0
  | c :: l => (if c.toNat = 10 then 1 else 0) + nl l
theorem nl_append : ∀ a b, nl (a ++ b) = nl a + nl b
  | [], b => by simp [nl]
  | c :: a, b => by simp only [List.cons_append, nl, nl_append a b]; omega
theorem nl_none : ∀ {p : List UInt8}, (∀ x ∈ p, x.toNat ≠ 10) → nl p = 0
  | [], _ => rfl
  | c :: p, h => by rw [nl, if_neg (h c (by simp)), nl_none (fun x hx => h x (by simp [hx]))]
theorem sign_ten {x : UInt8} (h : signC x = true) : x.toNat ≠ 10 := fun e => by rw [ten_sign e] at h; cases h
theorem digit_ten {x : UInt8} (h : digitC x = true) : x.toNat ≠ 10 := fun e => by rw [ten_digit e] at h; cases h
theorem line_ten {x : UInt8} (h : lineC x = true) : x.toNat ≠ 10 := fun e => by rw [ten_line e] at h; cases h
theorem small_ten {x : UInt8} (h : smallC x = true) : x.toNat ≠ 10 := by simp [smallC] at h; omega
theorem blank_ten {x : UInt8} (h : blankC x = true) : x.toNat ≠ 10 := by simp [blankC] at h; omega
/-- Lines' ends among tokens. -/
def cnt3 : List Tok → Nat
  | [] => 0
  | t :: l => (if t.kind = 3 then 1 else 0) + cnt3 l
theorem cnt3_append : ∀ a b, cnt3 (a ++ b) = cnt3 a + cnt3 b
  | [], b => by simp [cnt3]
  | c :: a, b => by simp only [List.cons_append, cnt3, cnt3_append a b]; omega
theorem nl_piece {c : UInt8} {p q : List UInt8} (hc : c.toNat ≠ 10) (hp : ∀ x ∈ p, x.toNat ≠ 10) : nl (c :: (p ++ q)) = nl q := by
  rw [nl, if_neg hc, nl_append, nl_none hp]; omega
theorem counts : ∀ (l : List UInt8) (line col : Nat), (lexA l line col).2.1 = 0 → ∃ ts c, lexA l line col = (ts ++ [⟨4, [], 0, line + nl l, c⟩], 0, 0, 0) ∧ cnt3 ts = nl l := by
  intro l
  induction l using text_rec with
  | nil => intro line col _; exact ⟨[], col, rfl, rfl⟩
  | word c p q hc hp hq ih =>
    intro line col h
    rw [lexA_word hc hp hq] at h ⊢
    obtain ⟨ts, c', h1, h2⟩ := ih line _ h
    rw [nl_piece (small_ten hc) (fun x hx => sign_ten (hp x hx)), h1]
    exact ⟨⟨1, c :: p, 0, line, col⟩ :: ts, c', rfl, by rw [cnt3, if_neg (by simp)]; omega⟩
  | num c p q hc hp hq ih =>
    intro line col h
    by_cases hv : vals 0 (c :: p) ≤ most
    · rw [lexA_num hc hp hq hv] at h ⊢
      obtain ⟨ts, c', h1, h2⟩ := ih line _ h
      rw [nl_piece (digit_ten hc) (fun x hx => digit_ten (hp x hx)), h1]
      exact ⟨⟨2, c :: p, vals 0 (c :: p), line, col⟩ :: ts, c', rfl, by rw [cnt3, if_neg (by simp)]; omega⟩
    · rw [lexA_over hc hp hq hv] at h; simp at h
  | blank c q hc ih =>
    intro line col h
    rw [lexA_blank hc] at h ⊢
    obtain ⟨ts, c', h1, h2⟩ := ih line _ h
    exact ⟨ts, c', by rw [h1, nl, if_neg (blank_ten hc), Nat.zero_add], by rw [nl, if_neg (blank_ten hc)]; omega⟩
  | remark c p q hc hp hq ih =>
    intro line col h
    rw [lexA_remark hc hp hq] at h ⊢
    obtain ⟨ts, c', h1, h2⟩ := ih line _ h
    rw [nl_piece (by omega) (fun x hx => line_ten (hp x hx))]
    exact ⟨ts, c', h1, h2⟩
  | line c q hc ih =>
    intro line col h
    rw [lexA_line hc] at h ⊢
    obtain ⟨ts, c', h1, h2⟩ := ih (line + 1) 1 h
    rw [nl, if_pos hc, h1, show line + 1 + nl q = line + (1 + nl q) by omega]
    exact ⟨⟨3, [], 0, line, col⟩ :: ts, c', rfl, by rw [cnt3, if_pos rfl]; omega⟩
  | bad c q h1 h2 h3 h4 h5 => intro line col h; rw [lexA_bad h1 h2 h3 h4 h5] at h; simp at h
end Go.Proofs.YtbijgmaeechmoaaDoor.Lx
