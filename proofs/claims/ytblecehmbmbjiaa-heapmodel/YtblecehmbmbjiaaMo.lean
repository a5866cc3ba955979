/- A heap beside a row that reads as its keys in order: each call on it. -/
import Derived.Test.YtblecehmbmbjiaaWo
import Derived.Test.YtblecehmbmbjiaaAw
namespace Go.Proofs.Ytblecehmbmbjiaa
open Go.RowKit

theorem Keys.turns {W W' : World} {A : Option Addr} {c p : Nat} {l : List Ky} (h : Keys W A c l) (ht : Turns (fun k => k = p) W W') (hne : ∀ x, A = some x → x.block ≠ p) : Keys W' A c l := by
  refine ⟨h.le, fun h0 => ?_⟩
  obtain ⟨b, off, ha, hlt, hc⟩ := h.form h0
  refine ⟨b, off, ha, Nat.lt_of_lt_of_le hlt ht.size, fun i t hi j v hj => ?_⟩
  have e := ht.block b hlt (hne _ ha)
  have := hc i t hi j v hj
  unfold World.cell? at this ⊢
  rw [e]; exact this
/-- The heap's keys in order are M, and the row reads as them. -/
structure St (w : World) (p room n c : Nat) (A : Option Addr) (M : List Ky) (W : World) : Prop where
  has : Has w p room M W
  len : M.length = n
  keys : Keys W A c M
  ne : ∀ x, A = some x → x.block ≠ p
  plain : Plain A c
  cb : c ≤ 9223372036854775807
theorem GrowsQ.plain {W0 W : World} {A : Option Addr} {n c : Nat} {l : List Ky} (h : GrowsQ W0 A n c l W) : Plain A c ∧ c ≤ 9223372036854775807 := by
  rcases h.2.2 with ⟨e1, e2⟩ | ⟨g, cap, cur, e1, _, _, _, hcm, _⟩
  · cases e1
    exact ⟨.inl ⟨rfl, rfl⟩, by omega⟩
  · cases e1
    unfold maxLen at hcm
    exact ⟨.inr ⟨g, 0, rfl⟩, by omega⟩
section
variable {w W W' : World} {p room n c : Nat} {A : Option Addr} {M M' : List Ky}
theorem St.more (h : St w p room n c A M W) (hb : Below W.heap.size W W') : St w p room n c A M W' := ⟨h.has.more hb, h.len, h.keys.below (Nat.le_refl _) hb, h.ne, h.plain, h.cb⟩
theorem St.drewN (h : St w p room n c A M W) (d : Nat) : St w p room n c A M (W.drewN d) := h.more (below_drewN (Below.refl _ _) d)
theorem St.same {v : Value} {e : Ending} (h : St w p room n c A M W) (ht : Then v w p room M W e W') : St w p room n c A M W' := ⟨ht.2.1, h.len, h.keys.turns ht.2.2 h.ne, h.ne, h.plain, h.cb⟩
/-- The row was made anew, then the heap turned. -/
theorem St.anew {v : Value} {e : Ending} {X : World} {n' c' : Nat} {A' : Option Addr} (h : Has w p room M W) (hg : GrowsQ W A' n' c' M' X) (hn : M'.length = n') (ht : Then v w p room M' X e W') : St w p room n' c' A' M' W' := by
  have hne : ∀ x, A' = some x → x.block ≠ p := fun x hx => by
    have h1 := hg.fresh x hx
    have h2 := h.heap.lt
    omega
  exact ⟨ht.2.1, hn, hg.keys.turns ht.2.2 hne, hne, hg.plain.1, hg.plain.2⟩
/-- The heap turned, then the row was made anew. -/
theorem St.then {n' c' : Nat} {A' : Option Addr} (h : Has w p room M' W) (hg : GrowsQ W A' n' c' M' W') (hn : M'.length = n') : St w p room n' c' A' M' W' :=
  ⟨h.more hg.1, hn, hg.keys, fun x hx => by
    have h1 := hg.fresh x hx
    have h2 := h.heap.lt
    omega, hg.plain.1, hg.plain.2⟩
end
/-- What the if leaves. -/
def Cut (w : World) (p room k : Nat) (s : Value) (W : World) : Prop := ∃ (n c : Nat) (A : Option Addr) (M : List Ky), s = .slice A n c ∧ n ≤ k + 1 ∧ St w p room n c A M W
def ModelRel (w : World) (p room N : Nat) (s i : Value) (W : World) : Prop := ∃ (k n c : Nat) (A : Option Addr) (M : List Ky), k ≤ N ∧ n ≤ k ∧ i = .int .i64 (k : Int) ∧ s = .slice A n c ∧ St w p room n c A M W
end Go.Proofs.Ytblecehmbmbjiaa
