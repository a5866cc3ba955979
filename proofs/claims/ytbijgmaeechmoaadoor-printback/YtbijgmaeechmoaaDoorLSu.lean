/- Bounds; and what two joined texts come to. -/
import Derived.Test.YtbijgmaeechmoaaDoorLSq
namespace Go.Proofs.YtbijgmaeechmoaaDoor.Lx

/-- No line is further than there are bytes. -/
theorem bounds : ∀ (l : List UInt8) (line col : Nat), (∀ t ∈ (lexA l line col).1, t.line ≤ line + l.length) ∧ (lexA l line col).2.2.1 ≤ line + l.length := by
  intro l
  induction l using text_rec with
  | nil => intro line col; exact ⟨fun t ht => by simp [lexA_nil] at ht; subst ht; simp, by simp [lexA_nil]⟩
  | word c p q hc hp hq ih =>
    intro line col
    rw [lexA_word hc hp hq]
    obtain ⟨h1, h2⟩ := ih line (col + (p.length + 1))
    refine ⟨fun t ht => ?_, by simp only [cons, List.length_cons, List.length_append]; omega⟩
    rcases List.mem_cons.1 ht with rfl | ht
    · simp
    · have := h1 t ht; simp only [List.length_cons, List.length_append]; omega
  | num c p q hc hp hq ih =>
    intro line col
    by_cases hv : vals 0 (c :: p) ≤ most
    · rw [lexA_num hc hp hq hv]
      obtain ⟨h1, h2⟩ := ih line (col + (p.length + 1))
      refine ⟨fun t ht => ?_, by simp only [cons, List.length_cons, List.length_append]; omega⟩
      rcases List.mem_cons.1 ht with rfl | ht
      · simp
      · have := h1 t ht; simp only [List.length_cons, List.length_append]; omega
    · rw [lexA_over hc hp hq hv]; exact ⟨(fun t ht => by cases ht), by simp⟩
  | blank c q hc ih =>
    intro line col
    rw [lexA_blank hc]
    obtain ⟨h1, h2⟩ := ih line (col + 1)
    exact ⟨fun t ht => by have := h1 t ht; simp only [List.length_cons]; omega, by simp only [List.length_cons]; omega⟩
  | remark c p q hc hp hq ih =>
    intro line col
    rw [lexA_remark hc hp hq]
    obtain ⟨h1, h2⟩ := ih line (col + (p.length + 1))
    exact ⟨fun t ht => by have := h1 t ht; simp only [List.length_cons, List.length_append]; omega, by simp only [List.length_cons, List.length_append]; omega⟩
  | line c q hc ih =>
    intro line col
    rw [lexA_line hc]
    obtain ⟨h1, h2⟩ := ih (line + 1) 1
    refine ⟨fun t ht => ?_, by simp only [cons, List.length_cons]; omega⟩
    rcases List.mem_cons.1 ht with rfl | ht
    · simp
    · have := h1 t ht; simp only [List.length_cons]; omega
  | bad c q h1 h2 h3 h4 h5 => intro line col; rw [lexA_bad h1 h2 h3 h4 h5]; exact ⟨(fun t ht => by cases ht), by simp⟩
theorem ans_line {l : List UInt8} {t : Tok} (h : t ∈ ans l) : t.line ≤ 1 + l.length := by
  unfold ans at h
  split at h
  · exact (bounds l 1 1).1 t h
  · cases h
theorem spot_line (l : List UInt8) : (lex l).2.2.1 ≤ 1 + l.length := (bounds l 1 1).2

theorem join_cases (l r : List UInt8) :
    ((lex l).2.1 ≠ 0 ∧ (lex (l ++ [10] ++ r)).2 = (lex l).2) ∨
    (∃ ts L C, (lex l).2 = (0, 0, 0) ∧ ans l = ts ++ [⟨4, [], 0, L, C⟩] ∧ L ≤ 1 + l.length ∧
      (((lex r).2.1 ≠ 0 ∧ (lex (l ++ [10] ++ r)).2 = ((lex r).2.1, (lex r).2.2.1 + L, (lex r).2.2.2)) ∨
       ((lex r).2 = (0, 0, 0) ∧ (lex (l ++ [10] ++ r)).2 = (0, 0, 0) ∧ ans (l ++ [10] ++ r) = ts ++ ⟨3, [], 0, L, C⟩ :: (ans r).map (shiftT L)))) := by
  have e : l ++ [10] ++ r = l ++ 10 :: r := by simp
  rw [e]
  rcases join10 r 10 rfl l 1 1 with ⟨ts, s, h0, h1, h2⟩ | ⟨ts, L, C, h1, h2⟩
  · exact .inl ⟨by unfold lex; rw [h1]; exact h0, by unfold lex; rw [h1, h2]⟩
  · right
    have hl : lex l = (ts ++ [⟨4, [], 0, L, C⟩], 0, 0, 0) := h1
    have ha : ans l = ts ++ [⟨4, [], 0, L, C⟩] := by unfold ans; rw [hl]; rfl
    have hL : L ≤ 1 + l.length := ans_line (t := ⟨4, [], 0, L, C⟩) (by rw [ha]; simp)
    refine ⟨ts, L, C, by rw [hl], ha, hL, ?_⟩
    have hsh := shifts L r 1 1
    rw [show 1 + L = L + 1 by omega] at hsh
    have hz : lex (l ++ 10 :: r) = (ts ++ ⟨3, [], 0, L, C⟩ :: (lex r).1.map (shiftT L), shiftS L (lex r).2) := by
      unfold lex; rw [h2, hsh]
    by_cases he : (lex r).2.1 = 0
    · right
      have h3 : (lex r).2 = (0, 0, 0) := by
        obtain ⟨ts', c', h, _⟩ := counts r 1 1 he
        unfold lex; rw [h]
      refine ⟨h3, by rw [hz, h3]; rfl, ?_⟩
      have hr : ans r = (lex r).1 := by unfold ans; rw [if_pos he]
      unfold ans at hr ⊢
      rw [hz, h3]
      simp [shiftS]
    · left
      refine ⟨he, ?_⟩
      rw [hz]
      unfold shiftS
      rw [if_neg he]
end Go.Proofs.YtbijgmaeechmoaaDoor.Lx
