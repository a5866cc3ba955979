/- Response times, plain: the least time that a function which never gets less leaves as it is; the recurrence as such a function. -/
import Derived.Test.YtklnokhabomnfaaDm
namespace Go.Proofs.Ytklnokhabomnfaa

/-- The least r up to D with F r = r; else 0 and no. -/
def Resp (F : Int → Int) (D r : Int) (ok : Bool) : Prop :=
  (ok = true ∧ 0 ≤ r ∧ r ≤ D ∧ F r = r ∧ ∀ x, 0 ≤ x → x < r → x < F x) ∨ (ok = false ∧ r = 0 ∧ ∀ x, 0 ≤ x → x ≤ D → x < F x)
def Mono (F : Int → Int) : Prop := ∀ x y, 0 ≤ x → x ≤ y → F x ≤ F y
section
variable {F G : Int → Int} {D r q x w : Int} {ok is : Bool}
theorem Resp.same (h : Resp F D r ok) (k : Resp F D q is) : r = q ∧ ok = is := by
  rcases h with ⟨e1, h0, h1, h2, h3⟩ | ⟨e1, h0, h3⟩ <;> rcases k with ⟨e2, k0, k1, k2, k3⟩ | ⟨e2, k0, k3⟩
  · refine ⟨?_, by rw [e1, e2]⟩
    rcases Int.lt_trichotomy r q with hlt | he | hlt
    · have := k3 r h0 hlt; omega
    · exact he
    · have := h3 q k0 hlt; omega
  · have := k3 r h0 h1; omega
  · have := h3 q k0 k1; omega
  · exact ⟨by rw [h0, k0], by rw [e1, e2]⟩
/-- On the way up from 0: of each time below w more is made. -/
def Climb (F : Int → Int) (w : Int) : Prop := 0 ≤ w ∧ w ≤ F w ∧ ∀ x, 0 ≤ x → x < w → x < F x
theorem Climb.start (h : 0 ≤ F 0) : Climb F 0 := ⟨Int.le_refl _, h, fun x h0 h1 => by omega⟩
theorem Climb.next (hm : Mono F) (h : Climb F w) (hn : F w ≠ w) : Climb F (F w) ∧ w < F w := by
  obtain ⟨h0, h1, h2⟩ := h
  have h3 := hm w (F w) h0 h1
  refine ⟨⟨by omega, h3, fun x x0 x1 => ?_⟩, by omega⟩
  by_cases hx : x < w
  · exact h2 x x0 hx
  · have := hm w x h0 (by omega); omega
theorem Climb.found (h : Climb F w) (he : F w = w) (hD : w ≤ D) : Resp F D w true := .inl ⟨rfl, h.1, hD, he, h.2.2⟩
theorem Climb.over (hm : Mono F) (h : Climb F w) (hD : D < F w) : Resp F D 0 false := by
  refine .inr ⟨rfl, rfl, fun x x0 x1 => ?_⟩
  by_cases hx : x < w
  · exact h.2.2 x x0 hx
  · have := hm w x h.1 (by omega); omega
/-- One by one: below w no time is left as it is. -/
theorem climb_step (hm : Mono F) (h0 : 0 ≤ F 0) : ∀ n : Nat, (∀ x : Int, 0 ≤ x → x < n → F x ≠ x) → Climb F n
  | 0, _ => Climb.start (by simpa using h0)
  | n + 1, h => by
    obtain ⟨a, b, c⟩ := climb_step hm h0 n (fun x x0 x1 => h x x0 (by omega))
    have hn := h n (by omega) (by omega)
    have := hm n ((n + 1 : Nat) : Int) (by omega) (by omega)
    refine ⟨by omega, by omega, fun x x0 x1 => ?_⟩
    by_cases hx : x < n
    · exact c x x0 hx
    · have : x = (n : Int) := by omega
      subst this; omega
theorem resp_is (hm : Mono F) (h0 : 0 ≤ F 0) (D : Int) (hD : 0 ≤ D) : ∃ r ok, Resp F D r ok := by
  suffices H : ∀ n : Nat, (∃ r ok, Resp F D r ok) ∨ ∀ x : Int, 0 ≤ x → x < n → x ≤ D → F x ≠ x by
    rcases H (D.toNat + 1) with h | h
    · exact h
    · have hc := climb_step hm h0 (D.toNat + 1) (fun x x0 x1 => h x x0 x1 (by omega))
      exact ⟨0, false, .inr ⟨rfl, rfl, fun x x0 x1 => hc.2.2 x x0 (by omega)⟩⟩
  intro n
  induction n with
  | zero => exact .inr (fun x h0 h1 => by omega)
  | succ n ih =>
    rcases ih with h | h
    · exact .inl h
    · by_cases hn : (n : Int) ≤ D
      · by_cases he : F n = n
        · have hc := climb_step hm h0 n (fun x x0 x1 => h x x0 x1 (by omega))
          exact .inl ⟨n, true, hc.found he hn⟩
        · refine .inr (fun x x0 x1 x2 => ?_)
          by_cases hx : x < n
          · exact h x x0 hx x2
          · have : x = (n : Int) := by omega
            subst this; exact he
      · refine .inr (fun x x0 x1 x2 => h x x0 (by omega) x2)
theorem Resp.range (h : Resp F D r ok) (hD : 0 ≤ D) : 0 ≤ r ∧ r ≤ D := by
  rcases h with ⟨_, h0, h1, _, _⟩ | ⟨_, h0, _⟩ <;> omega
/-- Of a lesser function the response time is no greater, and is there. -/
theorem Resp.less (h : Resp F D r true) (k : Resp G D q is) (hg : ∀ x, 0 ≤ x → x ≤ D → G x ≤ F x) : is = true ∧ q ≤ r := by
  rcases h with ⟨_, h0, h1, h2, h3⟩ | ⟨e, _, _⟩
  · have := hg r h0 h1
    rcases k with ⟨e2, k0, k1, k2, k3⟩ | ⟨e2, k0, k3⟩
    · refine ⟨e2, ?_⟩
      rcases Int.lt_or_le r q with hlt | hge
      · have := k3 r h0 hlt; omega
      · exact hge
    · have := k3 r h0 h1; omega
  · cases e
theorem Resp.at_ (h : Resp F D r true) : 0 ≤ r ∧ r ≤ D ∧ F r = r ∧ ∀ x, 0 ≤ x → x < r → x < F x := by
  rcases h with ⟨_, h⟩ | ⟨e, _, _⟩
  · exact h
  · cases e
theorem Resp.no (h : Resp F D r false) : r = 0 ∧ ∀ x, 0 ≤ x → x ≤ D → x < F x := by
  rcases h with ⟨e, _⟩ | ⟨_, h⟩
  · cases e
  · exact h
theorem Resp.cong (h : Resp F D r ok) (e : ∀ x, 0 ≤ x → x ≤ D → F x = G x) : Resp G D r ok := by
  rcases h with ⟨e1, h0, h1, h2, h3⟩ | ⟨e1, h0, h3⟩
  · exact .inl ⟨e1, h0, h1, by rw [← e r h0 h1]; exact h2, fun x x0 x1 => by rw [← e x x0 (by omega)]; exact h3 x x0 x1⟩
  · exact .inr ⟨e1, h0, fun x x0 x1 => by rw [← e x x0 x1]; exact h3 x x0 x1⟩
end
end Go.Proofs.Ytklnokhabomnfaa
