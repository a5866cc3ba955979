/- The statements' own answer, line by line: plain words and memory. -/
import Derived.Test.YteolepmopajamaaSf
import Derived.Test.YteolepmopajamaaPl
namespace Go.Proofs.Yteolepmopajamaa
open Go.RowKit Lx Kx

/-- A line's end comes first at i. -/
structure Line (rem : List Tok) (i : Nat) (e : Tok) : Prop where
  at_ : rem[i]? = some e
  ends : e.kind = 3 ∨ e.kind = 4
  words : ∀ (j : Nat) (u : Tok), j < i → rem[j]? = some u → u.kind = 1 ∨ u.kind = 2
theorem Fair.kinds {t : Tok} (h : Fair t) : t.kind = 1 ∨ t.kind = 2 ∨ t.kind = 3 ∨ t.kind = 4 := by
  rcases h with h | h | ⟨h, _⟩
  · exact .inl h.1
  · exact .inr (.inl h.1)
  · exact .inr (.inr h)
theorem line_of : ∀ {rem : List Tok}, Ended rem → (∀ t ∈ rem, Fair t) → ∃ i e, Line rem i e
  | [], h, _ => absurd h (by simp [Ended])
  | t :: r, h, hf => by
    rcases (hf t (by simp)).kinds with hk | hk | hk | hk
    · obtain ⟨i, e, h1, h2, h3⟩ := line_of (h.next (by omega)) (fun x hx => hf x (by simp [hx]))
      refine ⟨i + 1, e, by simpa using h1, h2, fun j u hj hu => ?_⟩
      match j with
      | 0 => have : t = u := by simpa using hu
             subst this; exact .inl hk
      | j + 1 => exact h3 j u (by omega) (by simpa using hu)
    · obtain ⟨i, e, h1, h2, h3⟩ := line_of (h.next (by omega)) (fun x hx => hf x (by simp [hx]))
      refine ⟨i + 1, e, by simpa using h1, h2, fun j u hj hu => ?_⟩
      match j with
      | 0 => have : t = u := by simpa using hu
             subst this; exact .inr hk
      | j + 1 => exact h3 j u (by omega) (by simpa using hu)
    · exact ⟨0, t, rfl, .inl hk, fun j u hj => by omega⟩
    · exact ⟨0, t, rfl, .inr hk, fun j u hj => by omega⟩
theorem ended_at : ∀ {rem : List Tok}, Ended rem → ∀ {i : Nat} {e : Tok}, rem[i]? = some e → (e.kind = 4 → rem.drop (i + 1) = []) ∧ (e.kind ≠ 4 → Ended (rem.drop (i + 1)))
  | [], h, _, _, _ => absurd h (by simp [Ended])
  | t :: r, h, 0, e, he => by
    have : t = e := by simpa using he
    subst this
    exact ⟨fun hk => h.last hk, fun hk => h.next hk⟩
  | t :: r, h, i + 1, e, he => by
    have he' : r[i]? = some e := by simpa using he
    have ht : t.kind ≠ 4 := fun hk => by have := h.last hk; subst this; simp at he'
    have := ended_at (h.next ht) he'
    simpa using this
section
variable {rem : List Tok} {i : Nat} {e : Tok}
theorem Line.lt (h : Line rem i e) : i < rem.length := (List.getElem?_eq_some_iff.1 h.at_).1
theorem Line.len (h : Line rem i e) : (rem.take (i + 1)).length = i + 1 := by have := h.lt; rw [List.length_take]; omega
theorem take_at {j n : Nat} (hj : j < n) : (rem.take n)[j]? = rem[j]? := by rw [List.getElem?_take, if_pos hj]
/-- A line that is one token: the end of an empty line. -/
theorem Line.cons (h : Line rem 0 e) : rem = e :: rem.drop 1 := by
  have := drop_tok h.at_
  simpa using this
/-- The first line isn't what is asked. -/
theorem lineB_bad {k : Nat} {t : Tok} (hk : rem[k]? = some t) (hk2 : k < 3) (hj : ∀ j, j < k → ∃ u, rem[j]? = some u ∧ askB j u = true) (ha : askB k t = false) (h0 : k = 0 → t.kind ≠ 3) : runB rem [] = .bad t := by
  have d0 : rem = rem.drop 0 := rfl
  match k, hk2 with
  | 0, _ => rw [d0, drop_tok hk]; exact runB_bad0 ha (h0 rfl)
  | 1, _ =>
    obtain ⟨u, hu, hau⟩ := hj 0 (by omega)
    rw [d0, drop_tok hu, runB_ask0 hau, drop_tok hk]
    exact runB_bad1 (by simpa [askB] using ha)
  | 2, _ =>
    obtain ⟨u, hu, hau⟩ := hj 0 (by omega)
    obtain ⟨v, hv, hav⟩ := hj 1 (by omega)
    have ha' : t.kind ≠ 3 ∧ t.kind ≠ 4 := by simpa [askB] using ha
    rw [d0, drop_tok hu, runB_ask0 hau, drop_tok hv, runB_ask1 (by simpa [askB] using hav), drop_tok hk]
    exact runB_bad2 ha'.1 ha'.2
/-- The first line is what is asked. -/
theorem lineB_good (h : Line rem i e) (hj : ∀ j, j < 3 → j < i + 1 → ∃ u, rem[j]? = some u ∧ askB j u = true) : i = 2 ∧ ∃ t u, rem[0]? = some t ∧ rem[1]? = some u ∧
    (e.kind = 3 → runB rem [] = runT u (rem.drop 3) [] [] []) ∧ (e.kind = 4 → runB rem [] = runT u [e] [] [] []) := by
  have hi : i = 2 := by
    rcases Nat.lt_trichotomy i 2 with hlt | heq | hgt
    · obtain ⟨u, hu, ha⟩ := hj i (by omega) (by omega)
      rw [h.at_] at hu
      cases hu
      have := askB_two ha (by omega)
      have := h.ends
      omega
    · exact heq
    · obtain ⟨u, hu, ha⟩ := hj 2 (by omega) (by omega)
      have h1 := h.words 2 u hgt hu
      have h2 : u.kind = 3 ∨ u.kind = 4 := by simpa [askB] using ha
      omega
  subst hi
  obtain ⟨t, ht, hat⟩ := hj 0 (by omega) (by omega)
  obtain ⟨u, hu, hau⟩ := hj 1 (by omega) (by omega)
  have hr : runB rem [] = runB (rem.drop 2) [t, u] := by
    have d0 : rem = rem.drop 0 := rfl
    rw [d0, drop_tok ht, runB_ask0 hat, drop_tok hu, runB_ask1 (by simpa [askB] using hau)]; rfl
  refine ⟨rfl, t, u, ht, hu, fun h3 => ?_, fun h4 => ?_⟩
  · rw [hr, drop_tok h.at_, runB_line h3]
  · rw [hr, drop_tok h.at_, runB_last h4, runT_end h4]
/-- A task's line isn't what is asked. -/
theorem lineT_bad {b : Tok} {hs : List Tok} {l : List Tk} {k : Nat} {t : Tok} (hk : rem[k]? = some t) (hk2 : k < 13) (hj : ∀ j, j < k → ∃ u, rem[j]? = some u ∧ askT j u = true) (ha : askT k t = false) (h0 : k = 0 → t.kind ≠ 3 ∧ t.kind ≠ 4) : runT b rem [] hs l = .bad t := by
  have hA : AskedT rem 0 k := fun j hj' => by rw [Nat.zero_add]; exact hj j hj'
  have := hA.bad (n := b) (hs := hs) (l := l) (by omega) (by rw [Nat.zero_add]; exact hk) ha h0
  simpa using this
theorem lineT_good {b : Tok} {hs : List Tok} {l : List Tk} (h : Line rem i e) (hj : ∀ j, j < 13 → j < i + 1 → ∃ u, rem[j]? = some u ∧ askT j u = true) : i = 12 ∧
    (e.kind = 3 → runT b rem [] hs l = runT b (rem.drop 13) [] (hs ++ [rem.getD 0 noT]) (l ++ [taskOf rem])) ∧ (e.kind = 4 → runT b rem [] hs l = runT b [e] [] (hs ++ [rem.getD 0 noT]) (l ++ [taskOf rem])) := by
  have hi : i = 12 := by
    rcases Nat.lt_trichotomy i 12 with hlt | heq | hgt
    · obtain ⟨u, hu, ha⟩ := hj i (by omega) (by omega)
      rw [h.at_] at hu
      cases hu
      have := askT_kind ha (by omega)
      have := h.ends
      omega
    · exact heq
    · obtain ⟨u, hu, ha⟩ := hj 12 (by omega) (by omega)
      have h1 := h.words 12 u hgt hu
      rw [askT_over] at ha
      have h2 : u.kind = 3 ∨ u.kind = 4 := by simpa using ha
      omega
  subst hi
  have hA : AskedT rem 0 12 := fun j hj' => by rw [Nat.zero_add]; exact hj j (by omega) (by omega)
  have hat : rem[0 + 12]? = some e := h.at_
  have e0 : ((rem.drop 0).take 12).getD 0 noT = rem.getD 0 noT := by rw [getD_cut (by omega)]
  have e1 : taskOf ((rem.drop 0).take 12) = taskOf rem := by
    unfold taskOf
    simp only [getD_cut (ts := rem) (k := 0) (show 1 < 12 by omega), getD_cut (ts := rem) (k := 0) (show 2 < 12 by omega), getD_cut (ts := rem) (k := 0) (show 3 < 12 by omega), getD_cut (ts := rem) (k := 0) (show 4 < 12 by omega), getD_cut (ts := rem) (k := 0) (show 5 < 12 by omega), getD_cut (ts := rem) (k := 0) (show 6 < 12 by omega), getD_cut (ts := rem) (k := 0) (show 7 < 12 by omega), getD_cut (ts := rem) (k := 0) (show 8 < 12 by omega), getD_cut (ts := rem) (k := 0) (show 9 < 12 by omega), getD_cut (ts := rem) (k := 0) (show 10 < 12 by omega), getD_cut (ts := rem) (k := 0) (show 11 < 12 by omega), Nat.zero_add]
  refine ⟨rfl, fun h3 => ?_, fun h4 => ?_⟩
  · have := hA.line (n := b) (hs := hs) (l := l) hat h3
    rw [e0, e1] at this
    simpa using this
  · have := hA.end4 (n := b) (hs := hs) (l := l) hat h4
    rw [e0, e1, drop_tok hat] at this
    simpa [runT_end h4] using this
end
end Go.Proofs.Yteolepmopajamaa
