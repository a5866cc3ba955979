/- A table beside the statement's own row of slots; the statement's own search for a place: what is plain of it. -/
import Derived.Test.YtojnkkkgkmgagaaOw
import Derived.Test.YtojnkkkgkmgagaaPt
namespace Go.Proofs.Ytojnkkkgkmgagaa
open Go.RowKit

/-- The table at p has mt; the statement's own row, apart from it, has mr. -/
structure St (w : World) (p room : Nat) (g : Option Nat) (mt mr : List Ky) (A : Option Addr) (c n : Nat) (W : World) : Prop where
  has : Has w p room g mt W
  own : W.ownsRow w.heap.size 33 4 (.slice A n c) n (flatQ mr)
  ap : ∀ k, (Value.slice A n c).ownBlock = some k → k ≠ p ∧ g ≠ some k
section
variable {w W W' : World} {p room c n : Nat} {g : Option Nat} {mt mr : List Ky} {A : Option Addr}
theorem St.len (h : St w p room g mt mr A c n W) : mr.length = n := by
  have := h.own.1
  rw [length_flatQ] at this
  omega
theorem St.keep (h : St w p room g mt mr A c n W) (hb : Below W.heap.size W W') : St w p room g mt mr A c n W' := ⟨h.has.keep hb, own_below h.own hb, h.ap⟩
theorem St.keys (h : St w p room g mt mr A c n W) : Keys W A c mr := own_keys h.own
theorem St.acts {v : Value} {m' : List Ky} {e : Ending} (h : St w p room g mt mr A c n W) (ha : Then v w p room g m' W e W') :
    e = .returned v ∧ ∃ g', St w p room g' m' mr A c n W' ∧ Turns (fun k => k = p ∨ g = some k) W W' := by
  obtain ⟨rfl, g', h1, h2, h3⟩ := ha
  refine ⟨rfl, g', ⟨h1, own_turns h.own h2 (fun k hk e => ?_), fun k hk => ⟨(h.ap k hk).1, fun e => ?_⟩⟩, h2⟩
  · rcases e with e | e
    · exact (h.ap k hk).1 e
    · exact (h.ap k hk).2 e
  · rcases h3 with h3 | ⟨k', h3, hk'⟩
    · exact (h.ap k hk).2 (h3 ▸ e)
    · rw [h3] at e
      cases e
      have := (own_type h.own hk).2.1
      omega
theorem St.row {A' : Option Addr} {n' c' : Nat} {mr' : List Ky} (h : St w p room g mt mr A c n W) (hg : GrowsQ W A' n' c' mr' W') : St w p room g mt mr' A' c' n' W' := by
  refine ⟨h.has.keep hg.1, (hg.lower h.has.below).2, fun k hk => ?_⟩
  have hk' := (own_lt hg.2 hk).1
  have hp := (h.has.tab.lt (.inl rfl)).2
  refine ⟨by omega, fun e => ?_⟩
  have := (h.has.tab.lt (.inr e)).2
  omega
theorem St.turns {s : Nat} (h : St w p room g mt mr A c n W) (h0 : w.heap.size ≤ s) (hp : p ≠ s) (hg : g ≠ some s) (hA : (Value.slice A n c).ownBlock ≠ some s) (ht : Turns (fun k => k = s) W W') : St w p room g mt mr A c n W' :=
  ⟨h.has.turns h0 hp hg ht, own_turns h.own ht (fun k hk e => hA (by rw [hk, e])), h.ap⟩
theorem St.plain (h : St w p room g mt mr A c n W) : n ≤ c ∧ c ≤ 9223372036854775807 ∧ Plain A c ∧ (0 < n → ∃ b, A = some ⟨b, 0, none⟩) := by
  rcases h.own.2 with ⟨e, hn⟩ | ⟨gb, cap, cur, e, hb, hg, hnc, hc, _⟩
  · cases e
    exact ⟨by omega, by omega, .inl ⟨rfl, rfl⟩, fun h0 => by omega⟩
  · cases e
    unfold maxLen at hc
    exact ⟨hnc, by omega, .inr ⟨gb, 0, rfl⟩, fun _ => ⟨gb, rfl⟩⟩
end

/-- What was found as far as j. -/
def FndTo (m : List Ky) (id : Int) (j : Nat) (r : Int) : Prop := (∃ (i : Nat) (x : Ky), i < j ∧ m[i]? = some x ∧ idK x = id ∧ r = (i : Int)) ∨ ((∀ (i : Nat) (x : Ky), i < j → m[i]? = some x → idK x ≠ id) ∧ r = -1)
theorem FndTo.start (m : List Ky) (id : Int) : FndTo m id 0 (-1) := .inr ⟨fun i x hi => by omega, rfl⟩
theorem FndTo.hit {m : List Ky} {id : Int} {j : Nat} {x : Ky} (hx : m[j]? = some x) (h : idK x = id) : FndTo m id (j + 1) (j : Int) := .inl ⟨j, x, by omega, hx, h, rfl⟩
theorem FndTo.miss {m : List Ky} {id : Int} {j : Nat} {x : Ky} {r : Int} (hf : FndTo m id j r) (hx : m[j]? = some x) (h : idK x ≠ id) : FndTo m id (j + 1) r := by
  rcases hf with ⟨i, y, hi, hy, he, hr⟩ | ⟨hn, hr⟩
  · exact .inl ⟨i, y, by omega, hy, he, hr⟩
  · refine .inr ⟨fun i y hi hy => ?_, hr⟩
    by_cases e : i = j
    · subst e
      rw [hx] at hy
      cases hy
      exact h
    · exact hn i y (by omega) hy
theorem FndTo.all {m : List Ky} {id r : Int} (h : FndTo m id m.length r) : Fnd m id r := by
  rcases h with ⟨i, x, _, hx, he, hr⟩ | ⟨hn, hr⟩
  · exact .inl ⟨i, x, hx, he, hr⟩
  · refine .inr ⟨fun x hx => ?_, hr⟩
    obtain ⟨i, hi⟩ := List.getElem?_of_mem hx
    exact hn i x (List.getElem?_eq_some_iff.1 hi).1 hi
/-- To be apart is to be free of each. -/
theorem apB_free {m : List Ky} {id gr x n : Int} : apB m (id, gr, x, x + n) = true ↔ ∀ s ∈ m, Free gr n x s := by
  unfold apB
  rw [List.all_eq_true]
  constructor
  · intro h s hs hg
    have := h s hs
    unfold hitB at this
    simp only [hg, beq_self_eq_true, Bool.true_and, Bool.not_eq_true', Bool.and_eq_false_iff, decide_eq_false_iff_not] at this
    omega
  · intro h s hs
    unfold hitB
    simp only
    by_cases hg : s.2.1 = gr
    · have := h s hs hg
      rcases this with h1 | h1
      · rw [decide_eq_false (show ¬ x < s.2.2.2 by omega), Bool.and_false]; rfl
      · rw [decide_eq_false (show ¬ s.2.2.1 < x + n by omega), Bool.and_false, Bool.false_and]; rfl
    · rw [show (s.2.1 == gr) = false by simpa using hg]; rfl
/-- So far as x the places were tried. -/
def Tried (m : List Ky) (id gr n fr en x : Int) : Prop := x ≤ en - n ∧ ∀ y, x < y → y ≤ en - n → fr ≤ y ∧ apB m (id, gr, y, y + n) = false
theorem Tried.start (m : List Ky) (id gr n fr en : Int) : Tried m id gr n fr en (en - n) := ⟨Int.le_refl _, fun y h1 h2 => by omega⟩
theorem Tried.next {m : List Ky} {id gr n fr en x : Int} (h : Tried m id gr n fr en x) (h1 : fr ≤ x) (h2 : apB m (id, gr, x, x + n) = false) : Tried m id gr n fr en (x - 1) :=
  ⟨by have := h.1; omega, fun y hy1 hy2 => by
    by_cases e : y = x
    · subst e; exact ⟨h1, h2⟩
    · exact h.2 y (by omega) hy2⟩
theorem Tried.found {m : List Ky} {id gr n fr en x : Int} (hg : Good m) (hn : 1 ≤ n) (h : Tried m id gr n fr en x) (h2 : apB m (id, gr, x, x + n) = true) : lat m gr n en = x := by
  refine lat_eq hn hg h.1 (apB_free.1 h2) (fun y h3 h4 => ?_)
  have h5 := (h.2 y h3 h4).2
  rcases Classical.em (∀ s ∈ m, Free gr n y s) with h6 | h6
  · rw [apB_free.2 h6] at h5; cases h5
  · obtain ⟨s, hs⟩ := Classical.not_forall.1 h6
    obtain ⟨hs1, hs2⟩ := Classical.not_imp.1 hs
    exact ⟨s, hs1, hs2⟩
theorem Tried.none {m : List Ky} {id gr n fr en x : Int} (hg : Good m) (hn : 1 ≤ n) (h : Tried m id gr n fr en x) (h2 : x < fr) : lat m gr n en < fr := by
  rcases Int.lt_or_le (lat m gr n en) fr with h3 | h3
  · exact h3
  · have h4 := (h.2 (lat m gr n en) (by omega) (lat_le gr n (en - n) m)).2
    have h5 := apB_free (id := id).2 (fun s hs => lat_free gr n (en - n) hn hg s hs)
    unfold lat at h4
    rw [h5] at h4
    cases h4

/-! What Reserve answers, way by way. -/
section
variable {room : Nat} {m : List Ky} {id gr n fr en : Int}
theorem res1 (h : ¬ Rgt n fr en) : resE room m id gr n fr en = 1 ∧ resP room m id gr n fr en = 0 ∧ resM room m id gr n fr en = m := by
  have hE : resE room m id gr n fr en = 1 := by unfold resE; rw [if_neg (fun h' => h (rgt_iff.1 h'))]
  exact ⟨hE, by unfold resP; rw [hE]; rfl, by unfold resM; rw [hE]; rfl⟩
theorem res7 (h : Rgt n fr en) (hid : id ∈ m.map idK) : resE room m id gr n fr en = 7 ∧ resP room m id gr n fr en = 0 ∧ resM room m id gr n fr en = m := by
  have hE : resE room m id gr n fr en = 7 := by unfold resE; rw [if_pos (rgt_iff.2 h), if_pos hid]
  exact ⟨hE, by unfold resP; rw [hE]; rfl, by unfold resM; rw [hE]; rfl⟩
theorem res3 (h : Rgt n fr en) (hid : id ∉ m.map idK) (hf : room ≤ m.length) : resE room m id gr n fr en = 3 ∧ resP room m id gr n fr en = 0 ∧ resM room m id gr n fr en = m := by
  have hE : resE room m id gr n fr en = 3 := by unfold resE; rw [if_pos (rgt_iff.2 h), if_neg hid, if_pos hf]
  exact ⟨hE, by unfold resP; rw [hE]; rfl, by unfold resM; rw [hE]; rfl⟩
theorem res4 (h : Rgt n fr en) (hid : id ∉ m.map idK) (hf : m.length < room) (hl : lat m gr n en < fr) : resE room m id gr n fr en = 4 ∧ resP room m id gr n fr en = 0 ∧ resM room m id gr n fr en = m := by
  have hE : resE room m id gr n fr en = 4 := by unfold resE; rw [if_pos (rgt_iff.2 h), if_neg hid, if_neg (by omega), if_pos hl]
  exact ⟨hE, by unfold resP; rw [hE]; rfl, by unfold resM; rw [hE]; rfl⟩
theorem res0 (h : Rgt n fr en) (hid : id ∉ m.map idK) (hf : m.length < room) (hl : fr ≤ lat m gr n en) : resE room m id gr n fr en = 0 ∧ resP room m id gr n fr en = lat m gr n en ∧ resM room m id gr n fr en = putK m (id, gr, lat m gr n en, lat m gr n en + n) := by
  have hE : resE room m id gr n fr en = 0 := by unfold resE; rw [if_pos (rgt_iff.2 h), if_neg hid, if_neg (by omega), if_neg (by omega)]
  exact ⟨hE, by unfold resP; rw [if_pos hE], by unfold resM; rw [if_pos hE]⟩
end
/-- The number in a cell. -/
def cellZ (W : World) (p : Addr) : Int := match W.cell? p with
  | some (.int _ x) => x
  | _ => 0
theorem cellZ_of {W : World} {p : Addr} {x : Int} (h : W.cell? p = some (.int .i64 x)) : cellZ W p = x := by unfold cellZ; rw [h]
end Go.Proofs.Ytojnkkkgkmgagaa
