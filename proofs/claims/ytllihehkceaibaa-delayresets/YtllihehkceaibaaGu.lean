/- Gates: what a guard answers, as functions of lists; a guard in memory. -/
import Derived.Test.YtllihehkceaibaaMem
namespace Go.Proofs.Ytllihehkceaibaa
open Go.RowKit

/-- A gate: its distance, the last time, how often. -/
abbrev Gt := Int × Int × Int
/-- From when on it is open. -/
def openG (x : Gt) : Int := if x.2.2 = 0 then 0 else x.2.1 + x.1
/-- Gone through at t. -/
def pass (x : Gt) (t : Int) : Gt := (x.1, t, x.2.2 + 1)
def zeroG (x : Gt) : Gt := (x.1, 0, 0)
def freshG (a : Int) : Gt := (a, 0, 0)
structure RightG (K : Nat) (x : Gt) : Prop where
  a1 : 1 ≤ x.1
  a2 : x.1 ≤ 1048576
  t1 : 0 ≤ x.2.1
  t2 : x.2.1 ≤ 1099511627776
  c1 : 0 ≤ x.2.2
  c2 : x.2.2 ≤ (K : Int)
theorem RightG.more {K L : Nat} {x : Gt} (h : RightG K x) (hk : K ≤ L) : RightG L x := ⟨h.a1, h.a2, h.t1, h.t2, h.c1, by have := h.c2; omega⟩
theorem RightG.pass {K : Nat} {x : Gt} {t : Int} (h : RightG K x) (h1 : 0 ≤ t) (h2 : t ≤ 1099511627776) : RightG (K + 1) (pass x t) :=
  ⟨h.a1, h.a2, h1, h2, by have := h.c1; show 0 ≤ x.2.2 + 1; omega, by have := h.c2; show x.2.2 + 1 ≤ _; omega⟩
theorem RightG.zero {K : Nat} {x : Gt} (h : RightG K x) : RightG K (zeroG x) := ⟨h.a1, h.a2, Int.le_refl _, by show (0 : Int) ≤ _; omega, Int.le_refl _, by show (0 : Int) ≤ _; omega⟩
theorem RightG.fresh {K : Nat} {a : Int} (h1 : 1 ≤ a) (h2 : a ≤ 1048576) : RightG K (freshG a) := ⟨h1, h2, Int.le_refl _, by show (0 : Int) ≤ _; omega, Int.le_refl _, by show (0 : Int) ≤ _; omega⟩
theorem RightG.open_ {K : Nat} {x : Gt} (h : RightG K x) : 0 ≤ openG x ∧ openG x ≤ 1099512676352 := by
  have h1 := h.a1; have h2 := h.a2; have h3 := h.t1; have h4 := h.t2
  unfold openG
  split <;> omega
/-- The gate of a number, if there is one. -/
def gateAt (gs : List Gt) (i : Int) : Option Gt := if 0 ≤ i then gs[i.toNat]? else none
theorem gateAt_some {gs : List Gt} {i : Int} {x : Gt} (h : gateAt gs i = some x) : ∃ k : Nat, i = (k : Int) ∧ gs[k]? = some x := by
  unfold gateAt at h
  split at h
  · exact ⟨i.toNat, by omega, h⟩
  · cases h
theorem gateAt_none {gs : List Gt} {i : Int} (h : gateAt gs i = none) : i < 0 ∨ (gs.length : Int) ≤ i := by
  unfold gateAt at h
  split at h
  · have := List.getElem?_eq_none_iff.1 h
    omega
  · omega
theorem gateAt_nat (gs : List Gt) (k : Nat) : gateAt gs (k : Int) = gs[k]? := by unfold gateAt; rw [if_pos (by omega)]; simp
theorem gateAt_out {gs : List Gt} {i : Int} (h : i < 0 ∨ (gs.length : Int) ≤ i) : gateAt gs i = none := by
  unfold gateAt
  split
  · exact List.getElem?_eq_none (by omega)
  · rfl
/-- What Go answers. -/
def goV (gs : List Gt) (i t : Int) : Int :=
  match gateAt gs i with
  | none => 1
  | some x => if t < 0 ∨ 1099511627776 < t then 1 else if t < openG x then 6 else 0
/-- The gates behind it. -/
def goS (gs : List Gt) (i t : Int) : List Gt :=
  match gateAt gs i with
  | none => gs
  | some x => if t < 0 ∨ 1099511627776 < t then gs else if t < openG x then gs else gs.set i.toNat (pass x t)
theorem length_goS (gs : List Gt) (i t : Int) : (goS gs i t).length = gs.length := by
  unfold goS
  split
  · rfl
  · split
    · rfl
    · split
      · rfl
      · simp
/-- The first time at which it is open. -/
def openV (gs : List Gt) (i : Int) : Int := match gateAt gs i with
  | none => 0
  | some x => openG x
def isV (gs : List Gt) (i : Int) : Bool := (gateAt gs i).isSome
def countV (gs : List Gt) (i : Int) : Int := match gateAt gs i with
  | none => 0
  | some x => x.2.2

/-- A gate's cells. -/
def cellsG (x : Gt) : List Value := [.int .i64 x.1, .int .i64 x.2.1, .int .i64 x.2.2]
/-- Block g holds just these gates. -/
structure GRow (w : World) (g n : Nat) (gs : List Gt) : Prop where
  le : gs.length ≤ n
  lies : ∃ cs : Array Value, Lies w g 41 cs ∧ cs.size = n * 3 ∧ ∀ i x, gs[i]? = some x → ∀ j v, (cellsG x)[j]? = some v → cs[i * 3 + j]? = some v
section
variable {w w' : World} {p g n K L : Nat} {gs : List Gt} {S : Nat → Prop}
theorem GRow.lt (h : GRow w g n gs) : g < w.heap.size := by
  obtain ⟨cs, h1, _⟩ := h.lies
  exact h1.lt
theorem GRow.same (h : GRow w g n gs) (hs : w'.heap[g]? = w.heap[g]?) : GRow w' g n gs := by
  obtain ⟨cs, h1, h2⟩ := h.lies
  exact ⟨h.le, cs, by unfold Lies; rw [hs]; exact h1, h2⟩
theorem GRow.cells (h : GRow w g n gs) {i : Nat} {x : Gt} (hi : gs[i]? = some x) : w.cell? ⟨g, i * 3, none⟩ = some (.int .i64 x.1) ∧ w.cell? ⟨g, i * 3 + 1, none⟩ = some (.int .i64 x.2.1) ∧ w.cell? ⟨g, i * 3 + 2, none⟩ = some (.int .i64 x.2.2) := by
  obtain ⟨cs, h1, h2, h3⟩ := h.lies
  have H := fun j v => h3 i x hi j v
  exact ⟨by rw [h1.cell]; exact H 0 _ rfl, by rw [h1.cell]; exact H 1 _ rfl, by rw [h1.cell]; exact H 2 _ rfl⟩
theorem GRow.thawed (h : GRow w g n gs) (i : Nat) : w.frozen? ⟨g, i, none⟩ = false := by
  obtain ⟨cs, h1, _⟩ := h.lies
  exact h1.thawed i
/-- A gate is written anew: its last time and how often. -/
theorem GRow.two (h : GRow w g n gs) {i : Nat} {x : Gt} (hi : gs[i]? = some x) (t c : Int) : GRow ((w.setCell ⟨g, i * 3 + 1, none⟩ (.int .i64 t)).setCell ⟨g, i * 3 + 2, none⟩ (.int .i64 c)) g n (gs.set i (x.1, t, c)) := by
  obtain ⟨cs, h1, h2, h3⟩ := h.lies
  have hlt := (List.getElem?_eq_some_iff.1 hi).1
  have hle := h.le
  refine ⟨by simpa using hle, _, (h1.here _ _).here _ _, by simpa using h2, fun k y hk j v hj => ?_⟩
  have hj3 : j < 3 := (List.getElem?_eq_some_iff.1 hj).1
  rw [List.getElem?_set] at hk
  by_cases e : i = k
  · subst e
    rw [if_pos rfl, if_pos hlt] at hk
    have : (x.1, t, c) = y := by simpa using hk
    subst this
    match j, hj3, hj with
    | 0, _, hj =>
      rw [Array.getElem?_setIfInBounds, if_neg (by omega), Array.getElem?_setIfInBounds, if_neg (by omega)]
      exact h3 i x hi 0 v hj
    | 1, _, hj =>
      rw [Array.getElem?_setIfInBounds, if_neg (by omega), Array.getElem?_setIfInBounds, if_pos rfl, if_pos (by omega)]
      exact hj
    | 2, _, hj =>
      rw [Array.getElem?_setIfInBounds, if_pos rfl, if_pos (by simp; omega)]
      exact hj
  · rw [if_neg e] at hk
    rw [Array.getElem?_setIfInBounds, if_neg (by omega), Array.getElem?_setIfInBounds, if_neg (by omega)]
    exact h3 k y hk j v hj
/-- A gate is written anew, whole. -/
theorem GRow.whole (h : GRow w g n gs) {i : Nat} (y : Gt) (hi : i < gs.length) : GRow (((w.setCell ⟨g, i * 3, none⟩ (.int .i64 y.1)).setCell ⟨g, i * 3 + 1, none⟩ (.int .i64 y.2.1)).setCell ⟨g, i * 3 + 2, none⟩ (.int .i64 y.2.2)) g n (gs.set i y) := by
  obtain ⟨cs, h1, h2, h3⟩ := h.lies
  have hle := h.le
  refine ⟨by simpa using hle, _, ((h1.here _ _).here _ _).here _ _, by simpa using h2, fun k z hk j v hj => ?_⟩
  have hj3 : j < 3 := (List.getElem?_eq_some_iff.1 hj).1
  rw [List.getElem?_set] at hk
  by_cases e : i = k
  · subst e
    rw [if_pos rfl, if_pos hi] at hk
    have : y = z := by simpa using hk
    subst this
    match j, hj3, hj with
    | 0, _, hj =>
      rw [Array.getElem?_setIfInBounds, if_neg (by omega), Array.getElem?_setIfInBounds, if_neg (by omega), Array.getElem?_setIfInBounds, if_pos (Nat.add_zero _).symm, if_pos (by omega)]
      exact hj
    | 1, _, hj =>
      rw [Array.getElem?_setIfInBounds, if_neg (by omega), Array.getElem?_setIfInBounds, if_pos rfl, if_pos (by simp; omega)]
      exact hj
    | 2, _, hj =>
      rw [Array.getElem?_setIfInBounds, if_pos rfl, if_pos (by simp; omega)]
      exact hj
  · rw [if_neg e] at hk
    rw [Array.getElem?_setIfInBounds, if_neg (by omega), Array.getElem?_setIfInBounds, if_neg (by omega), Array.getElem?_setIfInBounds, if_neg (by omega)]
    exact h3 k z hk j v hj

/-- At p: a guard; its gates lie in block g. None was gone through more often than K says. -/
structure Grd (w : World) (p g K : Nat) (gs : List Gt) : Prop where
  body : ∃ c, Lies w p 43 #[.slice (some ⟨g, 0, none⟩) gs.length c] ∧ GRow w g c gs
  ne : p ≠ g
  l1 : 1 ≤ gs.length
  l2 : gs.length ≤ 16
  ok : ∀ x ∈ gs, RightG K x
theorem Grd.same (h : Grd w p g K gs) (hp : w'.heap[p]? = w.heap[p]?) (hg : w'.heap[g]? = w.heap[g]?) : Grd w' p g K gs := by
  obtain ⟨c, h1, h2⟩ := h.body
  exact ⟨⟨c, by unfold Lies; rw [hp]; exact h1, h2.same hg⟩, h.ne, h.l1, h.l2, h.ok⟩
theorem Grd.plt (h : Grd w p g K gs) : p < w.heap.size := by obtain ⟨c, h1, h2⟩ := h.body; exact h1.lt
theorem Grd.glt (h : Grd w p g K gs) : g < w.heap.size := by obtain ⟨c, h1, h2⟩ := h.body; exact h2.lt
theorem Grd.below {B : Nat} (h : Grd w p g K gs) (hb : Below B w w') (hp : p < B) (hg : g < B) : Grd w' p g K gs := h.same (hb.block p hp) (hb.block g hg)
theorem Grd.tells (h : Grd w p g K gs) (hb : Below w.heap.size w w') : Grd w' p g K gs := h.below hb h.plt h.glt
theorem Grd.turns (h : Grd w p g K gs) (ht : Turns S w w') (hp : ¬ S p) (hg : ¬ S g) : Grd w' p g K gs := h.same (ht.block p h.plt hp) (ht.block g h.glt hg)
theorem Grd.drewN (h : Grd w p g K gs) (k : Nat) : Grd (w.drewN k) p g K gs := h.same rfl rfl
theorem Grd.more (h : Grd w p g K gs) (hk : K ≤ L) : Grd w p g L gs := ⟨h.body, h.ne, h.l1, h.l2, fun x hx => (h.ok x hx).more hk⟩
theorem Grd.slice (h : Grd w p g K gs) : ∃ c, w.cell? ⟨p, 0, none⟩ = some (.slice (some ⟨g, 0, none⟩) gs.length c) := by obtain ⟨c, h1, h2⟩ := h.body; exact ⟨c, h1.cell 0⟩
theorem Grd.cells (h : Grd w p g K gs) {i : Nat} {x : Gt} (hi : gs[i]? = some x) : w.cell? ⟨g, i * 3, none⟩ = some (.int .i64 x.1) ∧ w.cell? ⟨g, i * 3 + 1, none⟩ = some (.int .i64 x.2.1) ∧ w.cell? ⟨g, i * 3 + 2, none⟩ = some (.int .i64 x.2.2) := by
  obtain ⟨c, h1, h2⟩ := h.body
  exact h2.cells hi
theorem Grd.thawed (h : Grd w p g K gs) (i : Nat) : w.frozen? ⟨g, i, none⟩ = false := by obtain ⟨c, h1, h2⟩ := h.body; exact h2.thawed i
theorem Grd.made (h : Grd w p g K gs) {k : Nat} {y : Gt} (ht : Turns (fun k => k = g) w w') (hr : ∀ c, GRow w g c gs → GRow w' g c (gs.set k y)) (hL : K ≤ L) (hy : RightG L y) : Grd w' p g L (gs.set k y) := by
  have hl : (gs.set k y).length = gs.length := by simp
  obtain ⟨c, h1, h2⟩ := h.body
  refine ⟨⟨c, by rw [hl]; exact h1.turns ht h.ne, hr c h2⟩, h.ne, by rw [hl]; exact h.l1, by rw [hl]; exact h.l2, fun x hx => ?_⟩
  rcases List.mem_or_eq_of_mem_set hx with hx | rfl
  · exact (h.ok x hx).more hL
  · exact hy
/-- A gate is written anew: its last time and how often; nothing else has turned. -/
theorem Grd.two (h : Grd w p g K gs) {i : Nat} {x : Gt} (hi : gs[i]? = some x) {t c : Int} (hL : K ≤ L) (hy : RightG L (x.1, t, c)) :
    Grd ((w.setCell ⟨g, i * 3 + 1, none⟩ (.int .i64 t)).setCell ⟨g, i * 3 + 2, none⟩ (.int .i64 c)) p g L (gs.set i (x.1, t, c)) ∧ Turns (fun k => k = g) w ((w.setCell ⟨g, i * 3 + 1, none⟩ (.int .i64 t)).setCell ⟨g, i * 3 + 2, none⟩ (.int .i64 c)) := by
  have ht : Turns (fun k => k = g) w ((w.setCell ⟨g, i * 3 + 1, none⟩ (.int .i64 t)).setCell ⟨g, i * 3 + 2, none⟩ (.int .i64 c)) := ((Turns.refl (fun k => k = g) _).setCell (a := ⟨g, i * 3 + 1, none⟩) (.inr rfl) _).setCell (a := ⟨g, i * 3 + 2, none⟩) (.inr rfl) _
  exact ⟨h.made ht (fun _ hr => hr.two hi t c) hL hy, ht⟩
theorem Grd.whole (h : Grd w p g K gs) {i : Nat} (y : Gt) (hi : i < gs.length) (hL : K ≤ L) (hy : RightG L y) :
    Grd (((w.setCell ⟨g, i * 3, none⟩ (.int .i64 y.1)).setCell ⟨g, i * 3 + 1, none⟩ (.int .i64 y.2.1)).setCell ⟨g, i * 3 + 2, none⟩ (.int .i64 y.2.2)) p g L (gs.set i y) ∧ Turns (fun k => k = g) w (((w.setCell ⟨g, i * 3, none⟩ (.int .i64 y.1)).setCell ⟨g, i * 3 + 1, none⟩ (.int .i64 y.2.1)).setCell ⟨g, i * 3 + 2, none⟩ (.int .i64 y.2.2)) := by
  have ht : Turns (fun k => k = g) w (((w.setCell ⟨g, i * 3, none⟩ (.int .i64 y.1)).setCell ⟨g, i * 3 + 1, none⟩ (.int .i64 y.2.1)).setCell ⟨g, i * 3 + 2, none⟩ (.int .i64 y.2.2)) :=
    (((Turns.refl (fun k => k = g) _).setCell (a := ⟨g, i * 3, none⟩) (.inr rfl) _).setCell (a := ⟨g, i * 3 + 1, none⟩) (.inr rfl) _).setCell (a := ⟨g, i * 3 + 2, none⟩) (.inr rfl) _
  exact ⟨h.made ht (fun _ hr => hr.whole y hi) hL hy, ht⟩
end
end Go.Proofs.Ytllihehkceaibaa
