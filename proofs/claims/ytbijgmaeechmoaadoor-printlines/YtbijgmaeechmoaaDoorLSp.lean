/- What the tokens of a text are: a function of lists, and what follows of it. -/
import Derived.Test.YtbijgmaeechmoaaDoorRows
namespace Go.Proofs.YtbijgmaeechmoaaDoor.Lx

def smallC (c : UInt8) : Bool := decide (97 ≤ c.toNat) && decide (c.toNat ≤ 122)
def digitC (c : UInt8) : Bool := decide (48 ≤ c.toNat) && decide (c.toNat ≤ 57)
def signC (c : UInt8) : Bool := smallC c || (digitC c || decide (c.toNat = 95))
def blankC (c : UInt8) : Bool := decide (c.toNat = 32) || decide (c.toNat = 9)
def lineC (c : UInt8) : Bool := !decide (c.toNat = 10)

/-- A token: its kind, text, value and place. -/
structure Tok where
  kind : Nat
  text : List UInt8
  value : Nat
  line : Nat
  col : Nat

/-- What digits stand for, behind n. -/
def vals (n : Nat) : List UInt8 → Nat
  | [] => n
  | c :: l => vals (n * 10 + (c.toNat - 48)) l
def most : Nat := 1099511627776

def cons (t : Tok) (x : List Tok × Nat × Nat × Nat) : List Tok × Nat × Nat × Nat := (t :: x.1, x.2)

/-- The tokens of a text from a place on, and what is wrong first (0: nothing); the first k bytes belong to what was read. -/
def lexS : List UInt8 → Nat → Nat → Nat → List Tok × Nat × Nat × Nat
  | [], _, line, col => ([⟨4, [], 0, line, col⟩], 0, 0, 0)
  | _ :: r, k + 1, line, col => lexS r k line (col + 1)
  | c :: r, 0, line, col =>
    if smallC c then cons ⟨1, c :: r.takeWhile signC, 0, line, col⟩ (lexS r (r.takeWhile signC).length line (col + 1))
    else if digitC c then
      if vals 0 (c :: r.takeWhile digitC) ≤ most then cons ⟨2, c :: r.takeWhile digitC, vals 0 (c :: r.takeWhile digitC), line, col⟩ (lexS r (r.takeWhile digitC).length line (col + 1))
      else ([], 2, line, col)
    else if blankC c then lexS r 0 line (col + 1)
    else if c.toNat = 35 then lexS r (r.takeWhile lineC).length line (col + 1)
    else if c.toNat = 10 then cons ⟨3, [], 0, line, col⟩ (lexS r 0 (line + 1) 1)
    else ([], 5, line, col)
def lexA (l : List UInt8) (line col : Nat) : List Tok × Nat × Nat × Nat := lexS l 0 line col

/-- q is empty, or begins with a byte that f refuses. -/
def Ends (f : UInt8 → Bool) (q : List UInt8) : Prop := ∀ c r, q = c :: r → f c = false
theorem Ends.nil {f : UInt8 → Bool} : Ends f [] := fun _ _ h => by cases h
theorem Ends.mk {f : UInt8 → Bool} {c : UInt8} {r : List UInt8} (h : f c = false) : Ends f (c :: r) := fun _ _ e => by cases e; exact h
theorem takeWhile_cut {f : UInt8 → Bool} : ∀ {p q : List UInt8}, (∀ x ∈ p, f x = true) → Ends f q → (p ++ q).takeWhile f = p
  | [], [], _, _ => rfl
  | [], c :: r, _, hq => by simp [hq c r rfl]
  | x :: p, q, hp, hq => by
    have h1 := hp x (by simp)
    simp only [List.cons_append, List.takeWhile, h1]
    rw [takeWhile_cut (fun y hy => hp y (by simp [hy])) hq]
theorem cut (f : UInt8 → Bool) : ∀ l : List UInt8, ∃ p q, l = p ++ q ∧ (∀ x ∈ p, f x = true) ∧ Ends f q
  | [] => ⟨[], [], rfl, by simp, Ends.nil⟩
  | c :: l => by
    cases h : f c with
    | true =>
      obtain ⟨p, q, rfl, hp, hq⟩ := cut f l
      exact ⟨c :: p, q, rfl, fun x hx => by
        rcases List.mem_cons.1 hx with rfl | hx
        · exact h
        · exact hp x hx, hq⟩
    | false => exact ⟨[], c :: l, rfl, by simp, Ends.mk h⟩
theorem skip : ∀ (p r : List UInt8) (line col : Nat), lexS (p ++ r) p.length line col = lexA r line (col + p.length)
  | [], _, _, _ => rfl
  | c :: p, r, line, col => by
    simp only [List.cons_append, List.length_cons, lexS]
    rw [skip p r line (col + 1)]
    congr 1; omega

section
variable {c : UInt8} {p q : List UInt8} {line col : Nat}
theorem lexA_nil : lexA [] line col = ([⟨4, [], 0, line, col⟩], 0, 0, 0) := rfl
theorem lexA_word (hc : smallC c = true) (hp : ∀ x ∈ p, signC x = true) (hq : Ends signC q) :
    lexA (c :: (p ++ q)) line col = cons ⟨1, c :: p, 0, line, col⟩ (lexA q line (col + (p.length + 1))) := by
  unfold lexA
  rw [lexS, if_pos hc, takeWhile_cut hp hq, skip]
  congr 2; omega
theorem small_not_digit (hc : digitC c = true) : smallC c = false := by
  simp [digitC, smallC] at *; omega
theorem lexA_num (hc : digitC c = true) (hp : ∀ x ∈ p, digitC x = true) (hq : Ends digitC q) (hv : vals 0 (c :: p) ≤ most) :
    lexA (c :: (p ++ q)) line col = cons ⟨2, c :: p, vals 0 (c :: p), line, col⟩ (lexA q line (col + (p.length + 1))) := by
  unfold lexA
  rw [lexS, if_neg (by rw [small_not_digit hc]; simp), if_pos hc, takeWhile_cut hp hq, if_pos hv, skip]
  congr 2; omega
theorem lexA_over (hc : digitC c = true) (hp : ∀ x ∈ p, digitC x = true) (hq : Ends digitC q) (hv : ¬ vals 0 (c :: p) ≤ most) :
    lexA (c :: (p ++ q)) line col = ([], 2, line, col) := by
  unfold lexA
  rw [lexS, if_neg (by rw [small_not_digit hc]; simp), if_pos hc, takeWhile_cut hp hq, if_neg hv]
theorem lexA_blank (hc : blankC c = true) : lexA (c :: q) line col = lexA q line (col + 1) := by
  have h1 : smallC c = false := by simp [blankC, smallC] at *; omega
  have h2 : digitC c = false := by simp [blankC, digitC] at *; omega
  unfold lexA
  rw [lexS, if_neg (by rw [h1]; simp), if_neg (by rw [h2]; simp), if_pos hc]
theorem lexA_remark (hc : c.toNat = 35) (hp : ∀ x ∈ p, lineC x = true) (hq : Ends lineC q) : lexA (c :: (p ++ q)) line col = lexA q line (col + (p.length + 1)) := by
  have h1 : smallC c = false := by simp [smallC]; omega
  have h2 : digitC c = false := by simp [digitC]; omega
  have h3 : blankC c = false := by simp [blankC]; omega
  unfold lexA
  rw [lexS, if_neg (by rw [h1]; simp), if_neg (by rw [h2]; simp), if_neg (by rw [h3]; simp), if_pos hc, takeWhile_cut hp hq, skip]
  unfold lexA
  congr 1; omega
theorem lexA_line (hc : c.toNat = 10) : lexA (c :: q) line col = cons ⟨3, [], 0, line, col⟩ (lexA q (line + 1) 1) := by
  have h1 : smallC c = false := by simp [smallC]; omega
  have h2 : digitC c = false := by simp [digitC]; omega
  have h3 : blankC c = false := by simp [blankC]; omega
  unfold lexA
  rw [lexS, if_neg (by rw [h1]; simp), if_neg (by rw [h2]; simp), if_neg (by rw [h3]; simp), if_neg (by omega), if_pos hc]
theorem lexA_bad (h1 : smallC c = false) (h2 : digitC c = false) (h3 : blankC c = false) (h4 : c.toNat ≠ 35) (h5 : c.toNat ≠ 10) : lexA (c :: q) line col = ([], 5, line, col) := by
  unfold lexA
  rw [lexS, if_neg (by rw [h1]; simp), if_neg (by rw [h2]; simp), if_neg (by rw [h3]; simp), if_neg h4, if_neg h5]
end

/-- Texts, piece by piece. -/
theorem text_rec {P : List UInt8 → Prop} (nil : P [])
    (word : ∀ c p q, smallC c = true → (∀ x ∈ p, signC x = true) → Ends signC q → P q → P (c :: (p ++ q)))
    (num : ∀ c p q, digitC c = true → (∀ x ∈ p, digitC x = true) → Ends digitC q → P q → P (c :: (p ++ q)))
    (blank : ∀ c q, blankC c = true → P q → P (c :: q))
    (remark : ∀ c p q, c.toNat = 35 → (∀ x ∈ p, lineC x = true) → Ends lineC q → P q → P (c :: (p ++ q)))
    (line : ∀ c q, c.toNat = 10 → P q → P (c :: q))
    (bad : ∀ c q, smallC c = false → digitC c = false → blankC c = false → c.toNat ≠ 35 → c.toNat ≠ 10 → P (c :: q)) : ∀ l, P l := by
  have key : ∀ n (l : List UInt8), l.length ≤ n → P l := by
    intro n
    induction n with
    | zero =>
      intro l hl
      obtain rfl : l = [] := List.eq_nil_of_length_eq_zero (by omega)
      exact nil
    | succ n ih =>
      intro l hl
      match l with
      | [] => exact nil
      | c :: r =>
        simp only [List.length_cons] at hl
        cases h1 : smallC c with
        | true =>
          obtain ⟨p, q, rfl, hp, hq⟩ := cut signC r
          simp only [List.length_append] at hl
          exact word c p q h1 hp hq (ih q (by omega))
        | false =>
          cases h2 : digitC c with
          | true =>
            obtain ⟨p, q, rfl, hp, hq⟩ := cut digitC r
            simp only [List.length_append] at hl
            exact num c p q h2 hp hq (ih q (by omega))
          | false =>
            cases h3 : blankC c with
            | true => exact blank c r h3 (ih r (by omega))
            | false =>
              by_cases h4 : c.toNat = 35
              · obtain ⟨p, q, rfl, hp, hq⟩ := cut lineC r
                simp only [List.length_append] at hl
                exact remark c p q h4 hp hq (ih q (by omega))
              · by_cases h5 : c.toNat = 10
                · exact line c r h5 (ih r (by omega))
                · exact bad c r h1 h2 h3 h4 h5
  exact fun l => key l.length l (Nat.le_refl _)

/-- All tokens of a text, and what is wrong first. -/
def lex (b : List UInt8) : List Tok × Nat × Nat × Nat := lexA b 1 1
/-- What is answered of it. -/
def ans (b : List UInt8) : List Tok := if (lex b).2.1 = 0 then (lex b).1 else []

/-- How far a text is read: ts stand already, the next byte's place is i, in a line that begins at g. -/
def Goes (b : List UInt8) (ts : List Tok) (i line g : Nat) : Prop :=
  i ≤ b.length ∧ g ≤ i ∧ 1 ≤ line ∧ line ≤ i + 1 ∧ ts.length ≤ i ∧ lex b = (ts ++ (lexA (b.drop i) line (i - g + 1)).1, (lexA (b.drop i) line (i - g + 1)).2)
section
variable {b : List UInt8} {ts : List Tok} {i line g : Nat} {c : UInt8} {p q : List UInt8}
theorem Goes.start (b : List UInt8) : Goes b [] 0 1 0 := ⟨Nat.zero_le _, Nat.le_refl _, Nat.le_refl _, Nat.le_refl _, Nat.le_refl _, rfl⟩
theorem drop_more {n : Nat} (h : b.drop i = p ++ q) (hn : p.length = n) : b.drop (i + n) = q := by
  rw [← List.drop_drop, h, ← hn]; simp
theorem drop_len (h : b.drop i = p ++ q) (hi : i ≤ b.length) : i + p.length ≤ b.length := by
  have := congrArg List.length h
  simp at this; omega
theorem Goes.word (h : Goes b ts i line g) (e : b.drop i = c :: (p ++ q)) (hc : smallC c = true) (hp : ∀ x ∈ p, signC x = true) (hq : Ends signC q) :
    Goes b (ts ++ [⟨1, c :: p, 0, line, i - g + 1⟩]) (i + (p.length + 1)) line g := by
  obtain ⟨h1, h2, h3, h4, h5, h6⟩ := h
  have e' : b.drop i = (c :: p) ++ q := e
  have hl := drop_len e' h1
  have hd := drop_more e' (n := p.length + 1) (by simp)
  rw [e, lexA_word hc hp hq] at h6
  refine ⟨by simpa using hl, by omega, h3, by omega, by simp; omega, ?_⟩
  rw [hd, h6, show i + (p.length + 1) - g + 1 = i - g + 1 + (p.length + 1) by omega]
  simp [cons]
theorem Goes.num (h : Goes b ts i line g) (e : b.drop i = c :: (p ++ q)) (hc : digitC c = true) (hp : ∀ x ∈ p, digitC x = true) (hq : Ends digitC q) (hv : vals 0 (c :: p) ≤ most) :
    Goes b (ts ++ [⟨2, c :: p, vals 0 (c :: p), line, i - g + 1⟩]) (i + (p.length + 1)) line g := by
  obtain ⟨h1, h2, h3, h4, h5, h6⟩ := h
  have e' : b.drop i = (c :: p) ++ q := e
  have hl := drop_len e' h1
  have hd := drop_more e' (n := p.length + 1) (by simp)
  rw [e, lexA_num hc hp hq hv] at h6
  refine ⟨by simpa using hl, by omega, h3, by omega, by simp; omega, ?_⟩
  rw [hd, h6, show i + (p.length + 1) - g + 1 = i - g + 1 + (p.length + 1) by omega]
  simp [cons]
theorem Goes.over (h : Goes b ts i line g) (e : b.drop i = c :: (p ++ q)) (hc : digitC c = true) (hp : ∀ x ∈ p, digitC x = true) (hq : Ends digitC q) (hv : ¬ vals 0 (c :: p) ≤ most) :
    ans b = [] ∧ (lex b).2 = (2, line, i - g + 1) := by
  obtain ⟨h1, h2, h3, h4, h5, h6⟩ := h
  rw [e, lexA_over hc hp hq hv] at h6
  simp [ans, h6]
theorem Goes.bad (h : Goes b ts i line g) (e : b.drop i = c :: q) (h1 : smallC c = false) (h2 : digitC c = false) (h3 : blankC c = false) (h4 : c.toNat ≠ 35) (h5 : c.toNat ≠ 10) :
    ans b = [] ∧ (lex b).2 = (5, line, i - g + 1) := by
  obtain ⟨_, _, _, _, _, h6⟩ := h
  rw [e, lexA_bad h1 h2 h3 h4 h5] at h6
  simp [ans, h6]
theorem Goes.blank (h : Goes b ts i line g) (e : b.drop i = c :: q) (hc : blankC c = true) : Goes b ts (i + 1) line g := by
  obtain ⟨h1, h2, h3, h4, h5, h6⟩ := h
  have e' : b.drop i = [c] ++ q := e
  have hl := drop_len e' h1
  have hd := drop_more e' (n := 1) (by simp)
  rw [e, lexA_blank hc] at h6
  refine ⟨by simpa using hl, by omega, h3, by omega, by omega, ?_⟩
  rw [hd, h6, show i + 1 - g + 1 = i - g + 1 + 1 by omega]
theorem Goes.blanks : ∀ {p : List UInt8} {i : Nat}, Goes b ts i line g → b.drop i = p ++ q → (∀ x ∈ p, blankC x = true) → Goes b ts (i + p.length) line g
  | [], i, h, _, _ => h
  | c :: p, i, h, e, hp => by
    have h1 := h.blank e (hp c (by simp))
    have := Goes.blanks (p := p) h1 (by have e' : b.drop i = [c] ++ (p ++ q) := e; exact drop_more e' rfl) (fun x hx => hp x (by simp [hx]))
    rw [List.length_cons, show i + (p.length + 1) = i + 1 + p.length by omega]; exact this
theorem Goes.remark (h : Goes b ts i line g) (e : b.drop i = c :: (p ++ q)) (hc : c.toNat = 35) (hp : ∀ x ∈ p, lineC x = true) (hq : Ends lineC q) : Goes b ts (i + (p.length + 1)) line g := by
  obtain ⟨h1, h2, h3, h4, h5, h6⟩ := h
  have e' : b.drop i = (c :: p) ++ q := e
  have hl := drop_len e' h1
  have hd := drop_more e' (n := p.length + 1) (by simp)
  rw [e, lexA_remark hc hp hq] at h6
  refine ⟨by simpa using hl, by omega, h3, by omega, by omega, ?_⟩
  rw [hd, h6, show i + (p.length + 1) - g + 1 = i - g + 1 + (p.length + 1) by omega]
theorem Goes.nextLine (h : Goes b ts i line g) (e : b.drop i = c :: q) (hc : c.toNat = 10) : Goes b (ts ++ [⟨3, [], 0, line, i - g + 1⟩]) (i + 1) (line + 1) (i + 1) := by
  obtain ⟨h1, h2, h3, h4, h5, h6⟩ := h
  have e' : b.drop i = [c] ++ q := e
  have hl := drop_len e' h1
  have hd := drop_more e' (n := 1) (by simp)
  rw [e, lexA_line hc] at h6
  refine ⟨by simpa using hl, by omega, by omega, by omega, by simp; omega, ?_⟩
  rw [hd, h6, show i + 1 - (i + 1) + 1 = 1 by omega]
  simp [cons]
theorem Goes.done (h : Goes b ts i line g) (hi : b.length ≤ i) : lex b = (ts ++ [⟨4, [], 0, line, i - g + 1⟩], 0, 0, 0) ∧ ans b = ts ++ [⟨4, [], 0, line, i - g + 1⟩] := by
  obtain ⟨_, _, _, _, _, h6⟩ := h
  rw [List.drop_eq_nil_of_le hi, lexA_nil] at h6
  simp [ans, h6]
end
end Go.Proofs.YtbijgmaeechmoaaDoor.Lx
