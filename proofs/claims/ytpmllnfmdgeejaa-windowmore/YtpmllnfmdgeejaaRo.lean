/- Rows of bools of the call's own; the last jobs as such a row; jobs that are pushed one behind the other. -/
import Derived.Test.YtpmllnfmdgeejaaAw
namespace Go.Proofs.Ytpmllnfmdgeejaa
open Go.RowKit

/-- Block b begins with the bools of l. -/
def Row (W : World) (b : Nat) (l : List Bool) : Prop := ∃ cs : Array Value, Lies W b 4 cs ∧ l.length ≤ cs.size ∧ ∀ (i : Nat) (t : Bool), l[i]? = some t → cs[i]? = some (Value.bool t)
section
variable {W W' : World} {b p g : Nat} {l : List Bool}
theorem Row.lt (h : Row W b l) : b < W.heap.size := by obtain ⟨cs, h1, _⟩ := h; exact h1.lt
theorem Row.tells (h : Row W b l) (hb : Below W.heap.size W W') : Row W' b l := by obtain ⟨cs, h1, h2⟩ := h; exact ⟨cs, h1.below hb h1.lt, h2⟩
theorem Row.turns (h : Row W b l) (ht : Turns p g W W') (hp : b ≠ p) (hg : b ≠ g) : Row W' b l := by obtain ⟨cs, h1, h2⟩ := h; exact ⟨cs, h1.turns ht hp hg, h2⟩
theorem Row.drewN (h : Row W b l) (k : Nat) : Row (W.drewN k) b l := h
theorem Row.cell (h : Row W b l) {i : Nat} {t : Bool} (hi : l[i]? = some t) : W.cell? ⟨b, i, none⟩ = some (.bool t) := by obtain ⟨cs, h1, h2, h3⟩ := h; rw [h1.cell]; exact h3 i t hi
theorem Row.thawed (h : Row W b l) (i : Nat) : W.frozen? ⟨b, i, none⟩ = false := by obtain ⟨cs, h1, h2, h3⟩ := h; exact h1.thawed i
theorem Row.set (h : Row W b l) (k : Nat) (v : Bool) : Row (W.setCell ⟨b, k, none⟩ (.bool v)) b (l.set k v) := by
  obtain ⟨cs, h1, h2, h3⟩ := h
  refine ⟨_, h1.here k _, by simpa using h2, fun i t hi => ?_⟩
  rw [Array.getElem?_setIfInBounds]
  rw [List.getElem?_set] at hi
  split at hi
  · rename_i e
    subst e
    split at hi
    · cases hi
      rw [if_pos rfl, if_pos (by omega)]
    · cases hi
  · rename_i e
    rw [if_neg e]
    exact h3 i t hi
theorem Row.of_own {n m cap B : Nat} {zs : List Bool} (ho : W.ownsRow B 4 1 (.slice (some ⟨b, 0, none⟩) n cap) m (zs.map Value.bool)) (hm : m = zs.length) (h0 : 0 < m) : Row W b zs ∧ B ≤ b := by
  rcases ho.2 with ⟨e, _⟩ | ⟨b', c, cur, e, hb, hl, hnc, _, hcs, ht⟩
  · cases e
  · cases e
    subst hm
    refine ⟨⟨cur, hl, by omega, fun i t hi => ?_⟩, hb⟩
    have hlt := (List.getElem?_eq_some_iff.1 hi).1
    have : (cur.toList.take (zs.length * 1))[i]? = some (Value.bool t) := by rw [ht]; simp [hi]
    rw [List.getElem?_take, if_pos (by omega)] at this
    simpa using this
end
/-- It answers the list, in a row that is new. -/
def NewRow (xs : List Bool) (w : World) (e : Ending) (w' : World) : Prop :=
  ∃ b cap, e = .returned (.slice (some ⟨b, 0, none⟩) xs.length cap) ∧ xs.length ≤ cap ∧ w.heap.size ≤ b ∧ Row w' b xs ∧ Below w.heap.size w w'
theorem lastRow {m n p g : Nat} {xs : List Bool} {w : World} (h : Win m w p g n xs) :
    Calls Try.prog 11 #[.pointer (some ⟨p, 0, none⟩)] w (NewRow xs w) := by
  have hn : 0 < xs.length := by have := h.1; have := h.2.1; have := h.2.2.1; omega
  refine (lasts h).mono ?_
  rintro e w' ⟨b, cap, rfl, ho, hb⟩
  obtain ⟨h1, h2⟩ := Row.of_own ho rfl hn
  refine ⟨b, cap, rfl, ?_, h2, h1, hb⟩
  rcases ho.2 with ⟨e, _⟩ | ⟨b', c, cur, e, hb, hl, hnc, _, hcs, ht⟩
  · cases e
  · cases e; exact hnc

section
variable {w0 W W' : World} {m p g n b c : Nat} {xs : List Bool}
theorem Has.others (h : Has w0 m p g n xs W) (ht : Turns b c W W') (hb : w0.heap.size ≤ b) (hc : w0.heap.size ≤ c) (h1 : p ≠ b) (h2 : p ≠ c) (h3 : g ≠ b) (h4 : g ≠ c) : Has w0 m p g n xs W' :=
  ⟨h.1, h.2.1, h.win.turns ht h1 h2 h3 h4, h.below.trans (ht.below hb hc h.below.size)⟩
theorem Has.set (h : Has w0 m p g n xs W) {a : Addr} (hb : w0.heap.size ≤ a.block) (h1 : p ≠ a.block) (h3 : g ≠ a.block) (v : Value) : Has w0 m p g n xs (W.setCell a v) :=
  h.others ((Turns.refl a.block a.block W).setCell (.inl rfl) v) hb hb h1 h1 h3 h3
end

/-- So many of l were pushed onto a new window. -/
def PushRel (l : List Bool) (w : World) (m p g n : Nat) (i : Value) (W : World) : Prop :=
  ∃ (k : Nat) (X : World), k ≤ l.length ∧ i = .int .i64 (k : Int) ∧ X = W ∧ Has w m p g n (lst n (l.take k)) X
end Go.Proofs.Ytpmllnfmdgeejaa
