/- A wheel beside a row that reads as its entries in order: each call on it. -/
import Derived.Test.YtngoclkhhfcjjaaPt
import Derived.Test.YtngoclkhhfcjjaaSt
namespace Go.Proofs.Ytngoclkhhfcjjaa
open Go.RowKit

/-- The wheel's entries in order are M, and the row reads as them. -/
structure St (w : World) (S : Nat → Prop) (p room : Nat) (now : Int) (n c : Nat) (A : Option Addr) (M : List Ky) (W : World) : Prop where
  has : Has w S p room now M W
  len : M.length = n
  keys : Keys W A c M
  far : ∀ x, A = some x → ¬ S x.block ∧ x.block < W.heap.size
  plain : Plain A c
  cb : c ≤ 9223372036854775807
theorem GrowsQ.plain {W0 W : World} {A : Option Addr} {n c : Nat} {l : List Ky} (h : GrowsQ W0 A n c l W) : Plain A c ∧ c ≤ 9223372036854775807 := by
  rcases h.2.2 with ⟨e1, e2⟩ | ⟨g, cap, cur, e1, _, _, _, hcm, _⟩
  · cases e1
    exact ⟨.inl ⟨rfl, rfl⟩, by omega⟩
  · cases e1
    unfold maxLen at hcm
    exact ⟨.inr ⟨g, 0, rfl⟩, by omega⟩
section
variable {w W W' : World} {S : Nat → Prop} {p room n c : Nat} {now : Int} {A : Option Addr} {M M' : List Ky}
theorem St.more (h : St w S p room now n c A M W) (hb : Below W.heap.size W W') : St w S p room now n c A M W' :=
  ⟨h.has.more hb, h.len, h.keys.below (Nat.le_refl _) hb, fun x hx => ⟨(h.far x hx).1, Nat.lt_of_lt_of_le (h.far x hx).2 hb.size⟩, h.plain, h.cb⟩
theorem St.drewN (h : St w S p room now n c A M W) (d : Nat) : St w S p room now n c A M (W.drewN d) := h.more (below_drewN (Below.refl _ _) d)
theorem St.same {v : Value} {e : Ending} (h : St w S p room now n c A M W) (ht : Then v w S p room now M W e W') : ∃ S', St w S' p room now n c A M W' := by
  obtain ⟨_, ⟨S', h1, h2⟩, h3⟩ := ht
  refine ⟨S', h1, h.len, h.keys.turns h3 (fun x hx => (h.far x hx).1), fun x hx => ⟨fun hs => ?_, Nat.lt_of_lt_of_le (h.far x hx).2 h3.size⟩, h.plain, h.cb⟩
  rcases h2 _ hs with h' | h'
  · exact (h.far x hx).1 h'
  · have := (h.far x hx).2; omega
/-- The row was made anew, then the wheel turned. -/
theorem St.anew {v : Value} {e : Ending} {X : World} {n' c' : Nat} {A' : Option Addr} (h : Has w S p room now M W) (hg : GrowsQ W A' n' c' M' X) (hn : M'.length = n') (ht : Then v w S p room now M' X e W') : ∃ S', St w S' p room now n' c' A' M' W' := by
  obtain ⟨_, ⟨S', h1, h2⟩, h3⟩ := ht
  have hlt : ∀ x, A' = some x → W.heap.size ≤ x.block ∧ x.block < X.heap.size := fun x hx => by
    subst hx
    exact own_lt hg.2 (k := x.block) rfl
  have hS : ∀ x, A' = some x → ¬ S x.block := fun x hx hs => by
    have e1 := (hlt x hx).1
    have e2 := (h.inS _ hs).2
    omega
  refine ⟨S', h1, hn, hg.keys.turns h3 hS, fun x hx => ⟨fun hs => ?_, Nat.lt_of_lt_of_le (hlt x hx).2 h3.size⟩, hg.plain.1, hg.plain.2⟩
  rcases h2 _ hs with h' | h'
  · exact hS x hx h'
  · have := (hlt x hx).2; omega
/-- The wheel turned, then the row was made anew. -/
theorem St.then {n' c' : Nat} {A' : Option Addr} (h : Has w S p room now M' W) (hg : GrowsQ W A' n' c' M' W') (hn : M'.length = n') : St w S p room now n' c' A' M' W' := by
  refine ⟨h.more hg.1, hn, hg.keys, fun x hx => ?_, hg.plain.1, hg.plain.2⟩
  subst hx
  have e1 := own_lt hg.2 (k := x.block) rfl
  exact ⟨fun hs => by have e2 := (h.inS _ hs).2; omega, e1.2⟩
/-- The time went on; the row without those that came. -/
theorem St.cut {t : Int} {q : Nat} {A' : Option Addr} {c' : Nat} (h : St w S p room now n c A M W) (hh : Has w S p room t (M.drop q) W') (ht : Turns S W W') (hq : q ≤ n) (hA : (c = q ∧ A' = A ∧ c' = 0) ∨ (c ≠ q ∧ c' = c - q ∧ ∃ b off, A = some ⟨b, off, none⟩ ∧ A' = some ⟨b, off + q * 2, none⟩)) : St w S p room t (n - q) c' A' (M.drop q) W' := by
  have hk := h.keys.turns ht (fun x hx => (h.far x hx).1)
  have hl := h.len
  have hlc := h.keys.le
  have hcb := h.cb
  rcases hA with ⟨e1, rfl, rfl⟩ | ⟨e1, rfl, b, off, rfl, rfl⟩
  · have hnil : M.drop q = [] := List.drop_eq_nil_of_le (by omega)
    have hp : Plain A' 0 := by
      rcases h.plain with ⟨e, _⟩ | e
      · exact .inl ⟨e, rfl⟩
      · exact .inr e
    refine ⟨hh, by rw [List.length_drop]; omega, by rw [hnil]; exact keys_none _ _ _, fun x hx => ⟨(h.far x hx).1, Nat.lt_of_lt_of_le (h.far x hx).2 ht.size⟩, hp, by omega⟩
  · refine ⟨hh, by rw [List.length_drop]; omega, hk.drop q _ (by omega), fun x hx => ?_, .inr ⟨b, _, rfl⟩, by omega⟩
    cases hx
    have := h.far ⟨b, off, none⟩ rfl
    exact ⟨this.1, Nat.lt_of_lt_of_le this.2 ht.size⟩
end
theorem due_cut {t : Int} : ∀ {m : List Ky}, Srt m → due m t = m.take (due m t).length ∧ stay m t = m.drop (due m t).length
  | [], _ => ⟨rfl, rfl⟩
  | x :: l, h => by
    have hx := List.pairwise_cons.1 h
    obtain ⟨h1, h2⟩ := due_cut (t := t) hx.2
    by_cases hxt : x.1 ≤ t
    · have e1 : due (x :: l) t = x :: due l t := by unfold due; rw [List.filter_cons, if_pos (by simpa using hxt)]
      have e2 : stay (x :: l) t = stay l t := by unfold stay; rw [List.filter_cons, if_neg (by simpa using hxt)]
      rw [e1, e2, List.length_cons, List.take_succ_cons, List.drop_succ_cons, ← h1, ← h2]
      exact ⟨rfl, rfl⟩
    · have hall : ∀ d ∈ x :: l, t < d.1 := fun d hd => by
        rcases List.mem_cons.1 hd with rfl | hd
        · omega
        · have := (List.pairwise_cons.1 (srt_times h)).1 d hd
          omega
      obtain ⟨e1, e2⟩ := due_none hall
      rw [e1, e2]
      exact ⟨rfl, rfl⟩
/-- Where a number was found, of the first j entries. -/
def Fnd (M : List Ky) (id : Int) (j : Nat) (kk : Int) : Prop :=
  (∃ (q : Nat) (x : Ky), kk = (q : Int) ∧ q < j ∧ M[q]? = some x ∧ idK x = id) ∨ (kk = -1 ∧ ∀ q x, q < j → M[q]? = some x → idK x ≠ id)
def FndRel (M : List Ky) (id : Int) (V : World) (n : Nat) (kv j : Value) (W : World) : Prop := ∃ (q d : Nat) (kk : Int), q ≤ n ∧ j = .int .i64 (q : Int) ∧ kv = .int .i64 kk ∧ W = V.drewN d ∧ Fnd M id q kk
theorem Fnd.none (M : List Ky) (id : Int) : Fnd M id 0 (-1) := .inr ⟨rfl, fun q _ hq => by omega⟩
theorem Fnd.hit {M : List Ky} {id : Int} {j : Nat} {x : Ky} (hx : M[j]? = some x) (hid : idK x = id) : Fnd M id (j + 1) (j : Int) := .inl ⟨j, x, rfl, by omega, hx, hid⟩
theorem Fnd.miss {M : List Ky} {id kk : Int} {j : Nat} {x : Ky} (h : Fnd M id j kk) (hx : M[j]? = some x) (hid : idK x ≠ id) : Fnd M id (j + 1) kk := by
  rcases h with ⟨q, y, h1, h2, h3, h4⟩ | ⟨h1, h2⟩
  · exact .inl ⟨q, y, h1, by omega, h3, h4⟩
  · refine .inr ⟨h1, fun q y hq hy => ?_⟩
    by_cases e : q = j
    · subst e
      rw [hx] at hy
      cases hy
      exact hid
    · exact h2 q y (by omega) hy
def CntRel (r : Nat) (V : World) (v : Value) (W : World) : Prop := ∃ j d : Nat, j ≤ r ∧ v = .int .i64 (j : Int) ∧ W = V.drewN d
/-- What the if leaves. -/
def Cut (w : World) (p room k : Nat) (s t : Value) (W : World) : Prop := ∃ (S : Nat → Prop) (now : Int) (n c : Nat) (A : Option Addr) (M : List Ky), s = .slice A n c ∧ t = .int .i64 now ∧ n ≤ k + 1 ∧ St w S p room now n c A M W
def ModelRel (w : World) (p room N : Nat) (s t i : Value) (W : World) : Prop := ∃ (k : Nat) (X : World) (S : Nat → Prop) (now : Int) (n c : Nat) (A : Option Addr) (M : List Ky), k ≤ N ∧ n ≤ k ∧ i = .int .i64 (k : Int) ∧ t = .int .i64 now ∧ s = .slice A n c ∧ X = W ∧ St w S p room now n c A M X
end Go.Proofs.Ytngoclkhhfcjjaa
