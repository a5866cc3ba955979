/- Blanks doubled, remarks and empty lines at lines' ends: the same set. -/
import Derived.Test.YteolepmopajamaaPl
namespace Go.Proofs.Yteolepmopajamaa
open Lx Kx

/-- The same token, in a later line. -/
structure Like (t t' : Tok) : Prop where
  kind : t.kind = t'.kind
  text : t.text = t'.text
  value : t.value = t'.value
  line : t.line < t'.line
inductive LikeS : List Tok → List Tok → Prop where
  | nil : LikeS [] []
  | cons {t t' : Tok} {r r' : List Tok} : Like t t' → LikeS r r' → LikeS (t :: r) (t' :: r')
theorem LikeS.len {x x' : List Tok} (h : LikeS x x') : x.length = x'.length := by
  induction h with
  | nil => rfl
  | cons _ _ ih => simp [ih]
theorem LikeS.snoc {x x' : List Tok} {t t' : Tok} (h : LikeS x x') (ht : Like t t') : LikeS (x ++ [t]) (x' ++ [t']) := by
  induction h with
  | nil => exact .cons ht .nil
  | cons h1 _ ih => exact .cons h1 ih
theorem LikeS.getD {x x' : List Tok} (h : LikeS x x') : ∀ {i : Nat}, i < x.length → Like (x.getD i noT) (x'.getD i noT) := by
  induction h with
  | nil => intro i hi; simp at hi
  | cons h1 _ ih =>
    intro i hi
    match i with
    | 0 => simpa using h1
    | i + 1 => simpa using ih (by simpa using hi)
/-- Tokens of which each line's end has another one behind it. -/
inductive LikeL : List Tok → List Tok → Prop where
  | last {t t' : Tok} : Like t t' → t.kind = 4 → LikeL [t] [t']
  | cons {t t' : Tok} {r r' : List Tok} : Like t t' → t.kind = 1 ∨ t.kind = 2 → LikeL r r' → LikeL (t :: r) (t' :: r')
  | line {t t' t'' : Tok} {r r' : List Tok} : Like t t' → t.kind = 3 → t''.kind = 3 → LikeL r r' → LikeL (t :: r) (t' :: t'' :: r')
/-- Results that are the same, but for places. -/
def LikeR : Res → Res → Prop
  | .bad t, .bad t' => Like t t'
  | .done b hs l e, .done b' hs' l' e' => Like b b' ∧ LikeS hs hs' ∧ l = l' ∧ Like e e' ∧ hs.length = l.length
  | _, _ => False
theorem like_ask {t t' : Tok} (h : Like t t') (i : Nat) : askT i t' = askT i t := by unfold askT; rw [h.kind, h.text]
theorem like_askB {t t' : Tok} (h : Like t t') (i : Nat) : askB i t' = askB i t := by
  match i with
  | 0 => simp only [askB]; rw [h.kind, h.text]
  | 1 => simp only [askB]; rw [h.kind]
  | i + 2 => simp only [askB]; rw [h.kind]
theorem like_task {x x' : List Tok} (h : LikeS x x') (hl : x.length = 12) : taskOf x = taskOf x' := by
  have g := fun i (hi : i < 12) => h.getD (i := i) (by omega)
  unfold taskOf
  rw [(g 1 (by omega)).text, (g 2 (by omega)).value, (g 3 (by omega)).value, (g 4 (by omega)).value, (g 5 (by omega)).text, (g 6 (by omega)).value, (g 7 (by omega)).value, (g 8 (by omega)).value, (g 9 (by omega)).value, (g 10 (by omega)).value, (g 11 (by omega)).value]
theorem like_runT {n n' : Tok} (hn : Like n n') {ts ts' : List Tok} (h : LikeL ts ts') : ∀ {cur cur' hs hs' : List Tok} {l : List Tk}, LikeS cur cur' → LikeS hs hs' → cur.length ≤ 12 → hs.length = l.length → LikeR (runT n ts cur hs l) (runT n' ts' cur' hs' l) := by
  induction h with
  | @last t t' ht hk =>
    intro cur cur' hs hs' l hc hh h12 hl
    have hk' : t'.kind = 4 := by rw [← ht.kind]; exact hk
    rcases stepT n t [] cur hs l h12 with ⟨_, hk2, _⟩ | ⟨h0, _, e⟩ | ⟨_, _, hk2, _⟩ | ⟨_, hk2, _⟩ | ⟨h12', _, e⟩ | ⟨ha, h0, e⟩
    · omega
    · subst h0
      cases hc
      rw [e, runT_end hk']
      exact ⟨hn, hh, rfl, ht, hl⟩
    · omega
    · omega
    · rw [e, runT_last (by rw [← hc.len]; exact h12') hk']
      exact ⟨hn, hh.snoc (hc.getD (by omega)), by rw [like_task hc h12'], ht, by simp [hl]⟩
    · rw [e, runT_bad (by rw [← hc.len, like_ask ht]; exact ha) (by rw [← hc.len, ← ht.kind]; exact h0)]
      exact ht
  | @cons t t' r r' ht hk _ ih =>
    intro cur cur' hs hs' l hc hh h12 hl
    rcases stepT n t r cur hs l h12 with ⟨_, hk2, _⟩ | ⟨_, hk2, _⟩ | ⟨hlt, ha, _, e⟩ | ⟨_, hk2, _⟩ | ⟨_, hk2, _⟩ | ⟨ha, h0, e⟩
    · omega
    · omega
    · rw [e, runT_ask (by rw [← hc.len, like_ask ht]; exact ha) (by rw [← hc.len]; exact hlt)]
      exact ih (hc.snoc ht) hh (by simp; omega) hl
    · omega
    · omega
    · rw [e, runT_bad (by rw [← hc.len, like_ask ht]; exact ha) (by rw [← hc.len, ← ht.kind]; exact h0)]
      exact ht
  | @line t t' t'' r r' ht hk hk'' _ ih =>
    intro cur cur' hs hs' l hc hh h12 hl
    have hk' : t'.kind = 3 := by rw [← ht.kind]; exact hk
    rcases stepT n t r cur hs l h12 with ⟨h0, _, e⟩ | ⟨_, hk2, _⟩ | ⟨_, _, hk2, _⟩ | ⟨h12', _, e⟩ | ⟨_, hk2, _⟩ | ⟨ha, h0, e⟩
    · subst h0
      cases hc
      rw [e, runT_skip hk', runT_skip hk'']
      exact ih .nil hh (by simp) hl
    · omega
    · omega
    · rw [e, runT_line (by rw [← hc.len]; exact h12') hk', runT_skip hk'', ← like_task hc h12']
      exact ih .nil (hh.snoc (hc.getD (by omega))) (by simp) (by simp [hl])
    · omega
    · rw [e, runT_bad (by rw [← hc.len, like_ask ht]; exact ha) (by rw [← hc.len, ← ht.kind]; exact h0)]
      exact ht
/-- The ways of one token, taken by what is asked. -/
theorem runB_by {t : Tok} {r cur : List Tok} (hc : cur.length < 2) (ha : askB cur.length t = true) : runB (t :: r) cur = runB r (cur ++ [t]) := by
  rcases stepB t r cur (by omega) with ⟨h0, hk, _⟩ | ⟨_, _, _, e⟩ | ⟨h2, _, _⟩ | ⟨h2, _, _⟩ | ⟨ha', _, _⟩
  · have := askB_two ha hc; omega
  · exact e
  · omega
  · omega
  · rw [ha] at ha'; cases ha'
theorem runB_no {t : Tok} {r cur : List Tok} (hc : cur.length ≤ 2) (ha : askB cur.length t = false) (h0 : cur.length = 0 → t.kind ≠ 3) : runB (t :: r) cur = .bad t := by
  rcases stepB t r cur hc with ⟨h, hk, _⟩ | ⟨_, ha', _, _⟩ | ⟨h2, hk, _⟩ | ⟨h2, hk, _⟩ | ⟨_, _, e⟩
  · exact absurd hk (h0 (by rw [h]; rfl))
  · rw [ha] at ha'; cases ha'
  · rw [h2] at ha; simp [askB, hk] at ha
  · rw [h2] at ha; simp [askB, hk] at ha
  · exact e
theorem runB_over {t : Tok} {r cur : List Tok} (hc : cur.length = 2) (hk : t.kind = 3) : runB (t :: r) cur = runT (cur.getD 1 noT) r [] [] [] := by
  match cur, hc with
  | [a, b], _ => exact runB_line hk
theorem runB_fin {t : Tok} {r cur : List Tok} (hc : cur.length = 2) (hk : t.kind = 4) : runB (t :: r) cur = .done (cur.getD 1 noT) [] [] t := by
  match cur, hc with
  | [a, b], _ => exact runB_last hk
theorem like_runB {ts ts' : List Tok} (h : LikeL ts ts') : ∀ {cur cur' : List Tok}, LikeS cur cur' → cur.length ≤ 2 → LikeR (runB ts cur) (runB ts' cur') := by
  induction h with
  | @last t t' ht hk =>
    intro cur cur' hc h2
    have hk' : t'.kind = 4 := by rw [← ht.kind]; exact hk
    rcases stepB t [] cur h2 with ⟨_, hk2, _⟩ | ⟨_, _, hk2, _⟩ | ⟨_, hk2, _⟩ | ⟨h2', _, e⟩ | ⟨ha, h0, e⟩
    · omega
    · omega
    · omega
    · rw [e, runB_fin (by rw [← hc.len]; exact h2') hk']
      exact ⟨hc.getD (by omega), .nil, rfl, ht, rfl⟩
    · rw [e, runB_no (by rw [← hc.len]; exact h2) (by rw [← hc.len, like_askB ht]; exact ha) (by rw [← hc.len, ← ht.kind]; exact h0)]
      exact ht
  | @cons t t' r r' ht hk _ ih =>
    intro cur cur' hc h2
    rcases stepB t r cur h2 with ⟨_, hk2, _⟩ | ⟨hlt, ha, _, e⟩ | ⟨_, hk2, _⟩ | ⟨_, hk2, _⟩ | ⟨ha, h0, e⟩
    · omega
    · rw [e, runB_by (by rw [← hc.len]; exact hlt) (by rw [← hc.len, like_askB ht]; exact ha)]
      exact ih (hc.snoc ht) (by simp; omega)
    · omega
    · omega
    · rw [e, runB_no (by rw [← hc.len]; exact h2) (by rw [← hc.len, like_askB ht]; exact ha) (by rw [← hc.len, ← ht.kind]; exact h0)]
      exact ht
  | @line t t' t'' r r' ht hk hk'' hr ih =>
    intro cur cur' hc h2
    have hk' : t'.kind = 3 := by rw [← ht.kind]; exact hk
    rcases stepB t r cur h2 with ⟨h0, _, e⟩ | ⟨_, _, hk2, _⟩ | ⟨h2', _, e⟩ | ⟨_, hk2, _⟩ | ⟨ha, h0, e⟩
    · subst h0
      cases hc
      rw [e, runB_skip hk', runB_skip hk'']
      exact ih .nil (by simp)
    · omega
    · rw [e, runB_over (by rw [← hc.len]; exact h2') hk', runT_skip hk'']
      exact like_runT (hc.getD (by omega)) hr .nil .nil (by simp) rfl
    · omega
    · rw [e, runB_no (by rw [← hc.len]; exact h2) (by rw [← hc.len, like_askB ht]; exact ha) (by rw [← hc.len, ← ht.kind]; exact h0)]
      exact ht
/-- Answers that are the same, but for places. -/
def LikeA (a a' : Ans) : Prop := a.1 = a'.1 ∧ a.2.1 = a'.2.1 ∧ (a.2.1 ≠ 0 → a.2.2.1 < a'.2.2.1)
theorem like_ofRes : ∀ {r r' : Res}, LikeR r r' → LikeA (ofRes r) (ofRes r')
  | .bad t, .bad t', h => ⟨rfl, rfl, fun _ => h.line⟩
  | .done b hs l e, .done b' hs' l' e', h => by
    obtain ⟨hb, hh, rfl, he, hl⟩ := h
    simp only [ofRes]
    rw [← hb.value]
    by_cases hw : (whyF (b.value : Nat) l).1 = 0
    · rw [if_pos hw, if_pos hw]; exact ⟨rfl, rfl, fun h => absurd rfl h⟩
    · rw [if_neg hw, if_neg hw]
      refine ⟨rfl, rfl, fun _ => ?_⟩
      have : Like (blameF (whyF (b.value : Nat) l) b hs e) (blameF (whyF (b.value : Nat) l) b' hs' e') := by
        unfold blameF
        by_cases h1 : (whyF (b.value : Nat) l).1 = 1
        · rw [if_pos h1, if_pos h1]; exact hb
        · rw [if_neg h1, if_neg h1]
          by_cases h2 : (whyF (b.value : Nat) l).1 = 2
          · rw [if_pos h2, if_pos h2, ← hh.len]
            by_cases h16 : 16 < hs.length
            · rw [if_pos h16, if_pos h16]; exact hh.getD h16
            · rw [if_neg h16, if_neg h16]; exact he
          · rw [if_neg h2, if_neg h2]
            obtain ⟨i, hi, e⟩ := why_at hw h1 h2
            rw [e]
            exact hh.getD (by simp; omega)
      exact this.line

def trC (c : UInt8) : List UInt8 := if c.toNat = 32 then [9, 32] else if c.toNat = 10 then [32, 35, 32, 97, 110, 100, 32, 115, 111, 32, 111, 110, 10, 32, 10] else [c]
def tr : List UInt8 → List UInt8
  | [] => []
  | c :: l => trC c ++ tr l
theorem tr_append : ∀ a b, tr (a ++ b) = tr a ++ tr b
  | [], _ => rfl
  | c :: a, b => by simp [tr, tr_append a b]
theorem tr_same : ∀ {p : List UInt8}, (∀ x ∈ p, x.toNat ≠ 32 ∧ x.toNat ≠ 10) → tr p = p
  | [], _ => rfl
  | c :: p, h => by
    have hc := h c (by simp)
    rw [tr, tr_same (fun x hx => h x (by simp [hx])), trC, if_neg hc.1, if_neg hc.2]; rfl
theorem tr_line : ∀ {p : List UInt8}, (∀ x ∈ p, lineC x = true) → ∀ x ∈ tr p, lineC x = true
  | [], _, x, hx => by simp [tr] at hx
  | c :: p, h, x, hx => by
    rw [tr] at hx
    rcases List.mem_append.1 hx with hx | hx
    · have hc := h c (by simp)
      have hc' := line_ten hc
      unfold trC at hx
      split at hx
      · simp at hx
        rcases hx with rfl | rfl <;> decide
      · simp at hx
        subst hx; exact hc
    · exact tr_line (fun y hy => h y (by simp [hy])) x hx
theorem tr_len : ∀ l : List UInt8, (tr l).length ≤ 15 * l.length
  | [] => Nat.le_refl _
  | c :: l => by
    have := tr_len l
    rw [tr, List.length_append, List.length_cons]
    have : (trC c).length ≤ 15 := by unfold trC; split; · simp
                                     split <;> simp
    omega
theorem tr_ends {f : UInt8 → Bool} (h9 : f 9 = false) (h32 : f 32 = false) {q : List UInt8} (h : Lx.Ends f q) : Lx.Ends f (tr q) := by
  match q with
  | [] => exact Lx.Ends.nil
  | c :: q =>
    have hc := h c q rfl
    rw [tr]
    unfold trC
    split
    · exact Lx.Ends.mk h9
    · split
      · exact Lx.Ends.mk h32
      · exact Lx.Ends.mk hc
/-- Readings that are the same, but for places. -/
def LikeX (x y : List Tok × Nat × Nat × Nat) : Prop := x.2.1 = y.2.1 ∧ (x.2.1 ≠ 0 → x.2.2.1 < y.2.2.1) ∧ (x.2.1 = 0 → LikeL x.1 y.1)
theorem likeX_cons {t t' : Tok} {x y : List Tok × Nat × Nat × Nat} (ht : Like t t') (hk : t.kind = 1 ∨ t.kind = 2) (h : LikeX x y) : LikeX (cons t x) (cons t' y) :=
  ⟨h.1, h.2.1, fun e => .cons ht hk (h.2.2 e)⟩
theorem likeX_line {t t' t'' : Tok} {x y : List Tok × Nat × Nat × Nat} (ht : Like t t') (hk : t.kind = 3) (hk'' : t''.kind = 3) (h : LikeX x y) : LikeX (cons t x) (cons t' (cons t'' y)) :=
  ⟨h.1, h.2.1, fun e => .line ht hk hk'' (h.2.2 e)⟩
/-- The remark behind a line. -/
theorem lex_tail (q : List UInt8) (line col : Nat) : lexA (32 :: 35 :: ([32, 97, 110, 100, 32, 115, 111, 32, 111, 110] ++ 10 :: 32 :: 10 :: q)) line col = lexA (10 :: 32 :: 10 :: q) line (col + 12) := by
  rw [lexA_blank rfl, lexA_remark rfl (by decide) (Lx.Ends.mk rfl)]
  simp [Nat.add_assoc]
theorem lex_two (q : List UInt8) (line col : Nat) : lexA (10 :: 32 :: 10 :: q) line col = cons ⟨3, [], 0, line, col⟩ (cons ⟨3, [], 0, line + 1, 2⟩ (lexA q (line + 1 + 1) 1)) := by
  rw [lexA_line rfl, lexA_blank rfl, lexA_line rfl]
theorem like_lex : ∀ (l : List UInt8) (line col line' col' : Nat), line < line' → LikeX (lexA l line col) (lexA (tr l) line' col') := by
  intro l
  induction l using text_rec with
  | nil => intro line col line' col' h; exact ⟨rfl, fun h => absurd rfl h, fun _ => .last ⟨rfl, rfl, rfl, h⟩ rfl⟩
  | word c p q hc hp hq ih =>
    intro line col line' col' h
    have e : tr (c :: (p ++ q)) = c :: (p ++ tr q) := by
      have e1 : c :: (p ++ q) = (c :: p) ++ q := rfl
      rw [e1, tr_append, tr_same]
      · rfl
      · intro x hx
        rcases List.mem_cons.1 hx with rfl | hx
        · simp [smallC] at hc; omega
        · have := hp x hx
          simp [signC, smallC, digitC] at this; omega
    rw [e, lexA_word hc hp hq, lexA_word hc hp (tr_ends (by decide) (by decide) hq)]
    exact likeX_cons ⟨rfl, rfl, rfl, h⟩ (.inl rfl) (ih _ _ _ _ h)
  | num c p q hc hp hq ih =>
    intro line col line' col' h
    have e : tr (c :: (p ++ q)) = c :: (p ++ tr q) := by
      have e1 : c :: (p ++ q) = (c :: p) ++ q := rfl
      rw [e1, tr_append, tr_same]
      · rfl
      · intro x hx
        rcases List.mem_cons.1 hx with rfl | hx
        · simp [digitC] at hc; omega
        · have := hp x hx
          simp [digitC] at this; omega
    rw [e]
    by_cases hv : vals 0 (c :: p) ≤ most
    · rw [lexA_num hc hp hq hv, lexA_num hc hp (tr_ends (by decide) (by decide) hq) hv]
      exact likeX_cons ⟨rfl, rfl, rfl, h⟩ (.inr rfl) (ih _ _ _ _ h)
    · rw [lexA_over hc hp hq hv, lexA_over hc hp (tr_ends (by decide) (by decide) hq) hv]
      exact ⟨rfl, fun _ => h, fun h => by cases h⟩
  | blank c q hc ih =>
    intro line col line' col' h
    rw [lexA_blank hc, tr]
    unfold trC
    by_cases h32 : c.toNat = 32
    · rw [if_pos h32]
      show LikeX _ (lexA (9 :: 32 :: tr q) line' col')
      rw [lexA_blank rfl, lexA_blank rfl]
      exact ih _ _ _ _ h
    · have h9 : c.toNat = 9 := by simp [blankC] at hc; omega
      rw [if_neg h32, if_neg (by omega)]
      show LikeX _ (lexA (c :: tr q) line' col')
      rw [lexA_blank hc]
      exact ih _ _ _ _ h
  | remark c p q hc hp hq ih =>
    intro line col line' col' h
    have e : tr (c :: (p ++ q)) = c :: (tr p ++ tr q) := by
      rw [tr, tr_append, trC, if_neg (by omega), if_neg (by omega)]; rfl
    rw [e, lexA_remark hc hp hq]
    match q, hq, ih with
    | [], _, ih =>
      rw [lexA_remark hc (tr_line hp) (by exact Lx.Ends.nil)]
      exact ih _ _ _ _ h
    | d :: r, hq, ih =>
      have hd : d.toNat = 10 := by have := hq d r rfl; simpa [lineC] using this
      have et : tr (d :: r) = [32, 35, 32, 97, 110, 100, 32, 115, 111, 32, 111, 110] ++ 10 :: 32 :: 10 :: tr r := by
        rw [tr, trC, if_neg (by omega), if_pos hd]; rfl
      have hi := ih line (col + (p.length + 1)) line' (col' + ((tr p).length + 1)) h
      rw [et] at hi ⊢
      have e2 : [32, 35, 32, 97, 110, 100, 32, 115, 111, 32, 111, 110] ++ 10 :: 32 :: 10 :: tr r = 32 :: 35 :: ([32, 97, 110, 100, 32, 115, 111, 32, 111, 110] ++ 10 :: 32 :: 10 :: tr r) := rfl
      rw [e2, lex_tail] at hi
      have e3 : c :: (tr p ++ ([32, 35, 32, 97, 110, 100, 32, 115, 111, 32, 111, 110] ++ 10 :: 32 :: 10 :: tr r)) = c :: ((tr p ++ [32, 35, 32, 97, 110, 100, 32, 115, 111, 32, 111, 110]) ++ 10 :: 32 :: 10 :: tr r) := by simp
      rw [e3, lexA_remark hc (fun x hx => by
        rcases List.mem_append.1 hx with hx | hx
        · exact tr_line hp x hx
        · have hd : ∀ x ∈ ([32, 35, 32, 97, 110, 100, 32, 115, 111, 32, 111, 110] : List UInt8), lineC x = true := by decide
          exact hd x hx) (Lx.Ends.mk rfl)]
      have e4 : (tr p ++ ([32, 35, 32, 97, 110, 100, 32, 115, 111, 32, 111, 110] : List UInt8)).length = (tr p).length + 12 := by simp
      rw [e4, show col' + ((tr p).length + 12 + 1) = col' + ((tr p).length + 1) + 12 by omega]
      exact hi
  | line c q hc ih =>
    intro line col line' col' h
    have et : tr (c :: q) = 32 :: 35 :: ([32, 97, 110, 100, 32, 115, 111, 32, 111, 110] ++ 10 :: 32 :: 10 :: tr q) := by
      rw [tr, trC, if_neg (by omega), if_pos hc]; rfl
    rw [et, lex_tail, lex_two, lexA_line hc]
    exact likeX_line ⟨rfl, rfl, rfl, h⟩ rfl rfl (ih _ _ _ _ (by omega))
  | bad c q h1 h2 h3 h4 h5 =>
    intro line col line' col' h
    have e : tr (c :: q) = c :: tr q := by
      have h32 : c.toNat ≠ 32 := by simp [blankC] at h3; omega
      rw [tr, trC, if_neg h32, if_neg h5]; rfl
    rw [e, lexA_bad h1 h2 h3 h4 h5, lexA_bad h1 h2 h3 h4 h5]
    exact ⟨rfl, fun _ => h, fun h => by cases h⟩
def headB : List UInt8 := [35, 32, 97, 32, 114, 101, 109, 97, 114, 107, 10, 10]
theorem lex_head (q : List UInt8) : lexA (headB ++ q) 1 1 = cons ⟨3, [], 0, 1, 11⟩ (cons ⟨3, [], 0, 2, 1⟩ (lexA q 3 1)) := by
  have e : headB ++ q = 35 :: ([32, 97, 32, 114, 101, 109, 97, 114, 107] ++ 10 :: 10 :: q) := rfl
  rw [e, lexA_remark rfl (by decide) (Lx.Ends.mk rfl), lexA_line rfl, lexA_line rfl]; rfl
/-- With blanks doubled, remarks and empty lines at lines' ends it is the same set. -/
theorem blanks (b : List UInt8) : LikeA (setA b) (setA (headB ++ tr b)) := by
  have hx := like_lex b 1 1 3 1 (by omega)
  have hl : lex (headB ++ tr b) = cons ⟨3, [], 0, 1, 11⟩ (cons ⟨3, [], 0, 2, 1⟩ (lexA (tr b) 3 1)) := lex_head (tr b)
  obtain ⟨h1, h2, h3⟩ := hx
  unfold setA
  rw [hl]
  by_cases h : (lex b).2.1 = 0
  · have h' : (lexA (tr b) 3 1).2.1 = 0 := by rw [← h1]; exact h
    rw [if_pos h, if_pos (show (cons _ (cons _ (lexA (tr b) 3 1))).2.1 = 0 from h')]
    have : runB (cons ⟨3, [], 0, 1, 11⟩ (cons ⟨3, [], 0, 2, 1⟩ (lexA (tr b) 3 1))).1 [] = runB (lexA (tr b) 3 1).1 [] := by
      show runB (⟨3, [], 0, 1, 11⟩ :: ⟨3, [], 0, 2, 1⟩ :: (lexA (tr b) 3 1).1) [] = _
      rw [runB_skip rfl, runB_skip rfl]
    rw [this]
    exact like_ofRes (like_runB (h3 h) .nil (by simp))
  · have h' : ¬ (lexA (tr b) 3 1).2.1 = 0 := by rw [← h1]; exact h
    rw [if_neg h, if_neg (show ¬ (cons _ (cons _ (lexA (tr b) 3 1))).2.1 = 0 from h')]
    exact ⟨rfl, h1, fun _ => h2 h⟩
end Go.Proofs.Yteolepmopajamaa
