/- Two guards apart. -/
import Derived.Test.YtllihehkceaibaaPl
namespace Go.Proofs.Ytllihehkceaibaa
open Go.RowKit

/-- Two guards that the call made, apart. -/
structure Two (w0 : World) (pa ga K : Nat) (gs : List Gt) (pb gb L : Nat) (hs : List Gt) (W : World) : Prop where
  a : Has w0 pa ga K gs W
  b : Has w0 pb gb L hs W
  f1 : pa ≠ gb
  f2 : ga ≠ gb
  f3 : pb ≠ ga
section
variable {w0 W W' : World} {pa ga K pb gb L K' : Nat} {gs hs gs' hs' : List Gt} {S : Nat → Prop} {v : Value} {e : Ending}
theorem Two.flip (h : Two w0 pa ga K gs pb gb L hs W) : Two w0 pb gb L hs pa ga K gs W := ⟨h.b, h.a, h.f3, fun e => h.f2 e.symm, h.f1⟩
theorem Two.tells (h : Two w0 pa ga K gs pb gb L hs W) (hb : Below W.heap.size W W') : Two w0 pa ga K gs pb gb L hs W' := ⟨h.a.tells hb, h.b.tells hb, h.f1, h.f2, h.f3⟩
theorem Two.drewN (h : Two w0 pa ga K gs pb gb L hs W) (n : Nat) : Two w0 pa ga K gs pb gb L hs (W.drewN n) := ⟨h.a.drewN n, h.b.drewN n, h.f1, h.f2, h.f3⟩
theorem Two.next (h : Two w0 pa ga K gs pb gb L hs W) (ha : Has w0 pa ga K' gs' W') (ht : Turns (fun k => k = ga) W W') : Two w0 pa ga K' gs' pb gb L hs W' :=
  ⟨ha, h.b.turns ht (fun k hk => by have := h.a.inG; omega) h.f3 (fun e => h.f2 e.symm), h.f1, h.f2, h.f3⟩
theorem Two.turns (h : Two w0 pa ga K gs pb gb L hs W) (ht : Turns S W W') (hS : ∀ k, S k → w0.heap.size ≤ k) (h1 : ¬ S pa) (h2 : ¬ S ga) (h3 : ¬ S pb) (h4 : ¬ S gb) : Two w0 pa ga K gs pb gb L hs W' :=
  ⟨h.a.turns ht hS h1 h2, h.b.turns ht hS h3 h4, h.f1, h.f2, h.f3⟩
theorem Two.made (ha : Has w0 pa ga K gs W) (hb : Has w0 pb gb L hs W') (hp : W.heap.size ≤ pb) (hg : W.heap.size ≤ gb) (h : Below W.heap.size W W') : Two w0 pa ga K gs pb gb L hs W' := by
  have h1 := ha.grd.plt
  have h2 := ha.grd.glt
  exact ⟨ha.tells h, hb, by omega, by omega, by omega⟩
end
/-- Another gate is as it was. -/
theorem go_other {gs : List Gt} {i : Int} {u : Nat} (h : i ≠ (u : Int)) (t : Int) : (goS gs i t)[u]? = gs[u]? := by
  unfold goS
  split
  · rfl
  · rename_i x hx
    split
    · rfl
    · split
      · rfl
      · obtain ⟨k, rfl, hk⟩ := gateAt_some hx
        rw [Int.toNat_natCast, List.getElem?_set, if_neg (by omega)]
/-- A gate is gone through alike, whatever the others are. -/
theorem go_alike {gs hs : List Gt} {u : Nat} {x : Gt} (h1 : gs[u]? = some x) (h2 : hs[u]? = some x) (t : Int) : goV hs u t = goV gs u t ∧ (goS hs u t)[u]? = (goS gs u t)[u]? := by
  obtain ⟨a1, a2⟩ := go_at h1 t
  obtain ⟨b1, b2⟩ := go_at h2 t
  refine ⟨by rw [a1, b1], ?_⟩
  have l1 := (List.getElem?_eq_some_iff.1 h1).1
  have l2 := (List.getElem?_eq_some_iff.1 h2).1
  rw [a2, b2]
  split
  · rw [h1, h2]
  · split
    · rw [h1, h2]
    · rw [List.getElem?_set, List.getElem?_set, if_pos rfl, if_pos rfl, if_pos l1, if_pos l2]
theorem length_go (gs : List Gt) (i t : Int) : (goS gs i t).length = gs.length := length_goS gs i t
end Go.Proofs.Ytllihehkceaibaa
