/- A verdict's variable that is made on the way of two appends and a verdict. -/
import Derived.Test.YtklnokhabomnfaaVg
import Derived.Test.YtklnokhabomnfaaVt
namespace Go.Proofs.Ytklnokhabomnfaa
open Go.RowKit

theorem Tasks.drop {w : World} {bb off cap k : Nat} {l : List Tk} (h : Tasks w (some ⟨bb, off, none⟩) cap l) (hk : k ≤ l.length) : Tasks w (some ⟨bb, off + k * 11, none⟩) (cap - k) (l.drop k) := by
  refine ⟨by rw [List.length_drop]; have := h.le; omega, fun h0 => ?_⟩
  rw [List.length_drop] at h0
  obtain ⟨b', o', e, hlt, hc⟩ := h.form (by omega)
  cases e
  refine ⟨bb, off + k * 11, rfl, hlt, fun i t hi j v hj => ?_⟩
  rw [List.getElem?_drop] at hi
  have := hc (k + i) t hi j v hj
  rw [show off + k * 11 + i * 11 + j = off + (k + i) * 11 + j by omega]
  exact this
/-- The same, where the cut may be the row's end. -/
theorem Tasks.rest {w : World} {bb off cap k : Nat} {l : List Tk} (h : Tasks w (some ⟨bb, off, none⟩) cap l) (hk : k ≤ l.length) : Tasks w (if cap = k then some ⟨bb, off, none⟩ else some ⟨bb, off + k * 11, none⟩) (cap - k) (l.drop k) := by
  have hle := h.le
  by_cases hc : cap = k
  · have e : l.drop k = [] := List.eq_nil_of_length_eq_zero (by rw [List.length_drop]; omega)
    rw [if_pos hc, e]; exact tasks_none _ _ _
  · rw [if_neg hc]; exact h.drop hk
def VarV (X W : World) (D : Nat) (A : Option Addr) : Prop := Lies W D 29 Zvd ∧ X.heap.size ≤ D ∧ ∀ x, A = some x → x.block ≠ D
section
variable {X W W' Xp w4 U : World} {A0 A2 A3 : Option Addr} {N c D k c2 t : Nat} {zs zs2 : List Tk}
theorem PostT.varOfV (hp : PostT X W A2 A3 N c zs W') (hL : Lies W D 29 Zvd) (hge : X.heap.size ≤ D) (hne : ∀ x, A2 = some x → x.block ≠ D) : VarV X W' D A3 :=
  ⟨hp.2.1 D _ _ hL hne, hge, fun x hx => by
    rcases hp.2.2 x hx with ⟨y, hy, h⟩ | h
    · rw [h]; exact hne y hy
    · have := hL.lt; omega⟩
theorem PostT.apartV (hp : PostT X W A2 A3 N c zs W') (hL : Lies W D 29 Zvd) (hne : ∀ x, A2 = some x → x.block ≠ D) : ∀ x, A3 = some x → x.block ≠ D := fun x hx => by
  rcases hp.2.2 x hx with ⟨y, hy, h⟩ | h
  · rw [h]; exact hne y hy
  · have := hL.lt; omega
theorem PostT.varEV (hp2 : PostT X Xp A0 A2 k c2 zs2 w4) (hp3 : PostT X W A2 A3 N c zs W') (hL : Lies Xp D 29 Zvd) (hW : Lies w4 D 29 Zvd → Lies W D 29 Zvd) (hne : ∀ x, A0 = some x → x.block ≠ D) (hge : X.heap.size ≤ D) : VarV X W' D A3 :=
  hp3.varOfV (hW (hp2.2.1 _ _ _ hL hne)) hge (hp2.apartV hL hne)
theorem PostT.varBV (hp2 : PostT X Xp A0 A2 k c2 zs2 w4) (hp3 : PostT X W A2 A3 N c zs W') (hL : Lies W D 29 Zvd) (hge : w4.heap.size ≤ D) : VarV X W' D A3 :=
  hp3.varOfV hL (Nat.le_trans hp2.1.1.size hge) (own_apart hp2.1 hge)
/-- The variable was there when the verdict's call began. -/
theorem VarV.kept (h : VarV X W D A3) (hb : Below W.heap.size W U) (ht : W.heap.size ≤ t) : Lies U D 29 Zvd ∧ X.heap.size ≤ D ∧ t ≠ D :=
  ⟨h.1.below hb h.1.lt, h.2.1, by have := h.1.lt; omega⟩
theorem var_new (hX : X.heap.size ≤ W.heap.size) (hb : Below (W.alloc (.cells Zvd 29)).heap.size (W.alloc (.cells Zvd 29)) U) (ht : (W.alloc (.cells Zvd 29)).heap.size ≤ t) : Lies U W.heap.size 29 Zvd ∧ X.heap.size ≤ W.heap.size ∧ t ≠ W.heap.size := by
  have h0 : Lies (W.alloc (.cells Zvd 29)) W.heap.size 29 Zvd := Lies.made _ _ _
  have := h0.lt
  exact ⟨h0.below hb h0.lt, hX, by omega⟩
end
/-- As 'Judged', its row's length under a name. -/
def JudgedN (b g : Int) (l : List Tk) (n : Nat) (w : World) (e : Ending) (w' : World) : Prop :=
  ∃ (ok : Bool) (late : Int) (R : List Int) (t : Nat), e = .returned (.tuple #[vdV ok late (some ⟨t, 0, none⟩) n n, .int .i64 0]) ∧ Verd b g l ok late R ∧ Row w' t R ∧ w.heap.size ≤ t ∧ Below w.heap.size w w'
theorem judge_n {b g : Int} {l : List Tk} {a : Option Addr} {cap n : Nat} {w : World} (hn : l.length = n) (hr : (whyF b l).1 = 0) (ht : Tasks w a cap l) (g0 : 1 ≤ g) (g1 : g ≤ 1049576) :
    Calls Try.prog 13 #[.agg #[.int .i64 b, .slice a n cap], .int .i64 g] w (JudgedN b g l n w) := by
  subst hn
  exact judge b g hr ht g0 g1
end Go.Proofs.Ytklnokhabomnfaa
