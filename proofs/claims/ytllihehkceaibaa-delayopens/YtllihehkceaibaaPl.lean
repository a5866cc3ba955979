/- What follows of gates: distances stay; a gate alone is as it is among all. -/
import Derived.Test.YtllihehkceaibaaAw
namespace Go.Proofs.Ytllihehkceaibaa

def distG (x : Gt) : Int := x.1
theorem dist_set {gs : List Gt} {k : Nat} {x : Gt} (h : gs[k]? = some x) (t : Int) : (gs.set k (pass x t)).map distG = gs.map distG := by
  refine List.ext_getElem? fun i => ?_
  rw [List.getElem?_map, List.getElem?_map, List.getElem?_set]
  by_cases e : k = i
  · subst e
    have hlt := (List.getElem?_eq_some_iff.1 h).1
    rw [if_pos rfl, if_pos hlt, h]
    rfl
  · rw [if_neg e]
theorem dist_go (gs : List Gt) (i t : Int) : (goS gs i t).map distG = gs.map distG := by
  unfold goS
  split
  · rfl
  · rename_i x hx
    split
    · rfl
    · split
      · rfl
      · obtain ⟨k, rfl, hk⟩ := gateAt_some hx
        rw [Int.toNat_natCast]
        exact dist_set hk t
theorem dist_fresh (l : List Int) : (l.map freshG).map distG = l := by
  rw [List.map_map]
  exact (List.map_congr_left (fun _ _ => rfl)).trans (List.map_id l)
theorem zero_fresh (gs : List Gt) : gs.map zeroG = (gs.map distG).map freshG := by
  rw [List.map_map]
  rfl
theorem dist_len {gs : List Gt} {l : List Int} (h : gs.map distG = l) : gs.length = l.length := by rw [← h, List.length_map]
theorem dist_at {gs : List Gt} {l : List Int} (h : gs.map distG = l) {k : Nat} {x : Gt} (hk : gs[k]? = some x) : l[k]? = some x.1 := by
  rw [← h, List.getElem?_map, hk]; rfl
/-- What Go does at a gate that is there. -/
theorem go_at {gs : List Gt} {k : Nat} {x : Gt} (h : gs[k]? = some x) (t : Int) :
    goV gs k t = (if t < 0 ∨ 1099511627776 < t then 1 else if t < openG x then 6 else 0) ∧ goS gs k t = (if t < 0 ∨ 1099511627776 < t then gs else if t < openG x then gs else gs.set k (pass x t)) := by
  have hx : gateAt gs k = some x := by rw [gateAt_nat]; exact h
  constructor
  · unfold goV; rw [hx]
  · unfold goS; rw [hx]; simp
theorem go_out {gs : List Gt} {i : Int} (h : i < 0 ∨ (gs.length : Int) ≤ i) (t : Int) : goV gs i t = 1 ∧ goS gs i t = gs := by
  have hx := gateAt_out h
  constructor
  · unfold goV; rw [hx]
  · unfold goS; rw [hx]
theorem open_at {gs : List Gt} {k : Nat} {x : Gt} (h : gs[k]? = some x) : openV gs k = openG x ∧ isV gs k = true ∧ countV gs k = x.2.2 := by
  have hx : gateAt gs k = some x := by rw [gateAt_nat]; exact h
  unfold openV isV countV
  rw [hx]
  exact ⟨rfl, rfl, rfl⟩
theorem open_out {gs : List Gt} {i : Int} (h : i < 0 ∨ (gs.length : Int) ≤ i) : openV gs i = 0 ∧ isV gs i = false ∧ countV gs i = 0 := by
  have hx := gateAt_out h
  unfold openV isV countV
  rw [hx]
  exact ⟨rfl, rfl, rfl⟩
theorem open_pass {x : Gt} {K : Nat} (h : RightG K x) (t : Int) : openG (pass x t) = t + x.1 := by
  have := h.c1
  unfold openG pass
  rw [if_neg (by show ¬ (x.2.2 + 1 = 0); omega)]
end Go.Proofs.Ytllihehkceaibaa
