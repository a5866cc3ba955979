/- Pairs appended, one by one, to a row of the call's own. -/
import Derived.Test.YtklnokhabomnfaaPl
import Derived.Deep.AppendLies
import Derived.Laws.OwnMore
import Derived.Laws.MakeOwn
import Derived.Lib.SliceRun
import Derived.Lib.AppendZeros
namespace Go.Proofs.Ytklnokhabomnfaa
open Go.RowKit

theorem pairInfo' : ((Try.prog.info? 73).map fun i => (i.zero, i.size, i.bytes)) = some (some (.agg #[.int .i64 0, .int .i64 0]), 2, 16) := by kernel_rfl
theorem pairInfo : ∃ i, Try.prog.info? 73 = some i ∧ i.zero = some (.agg #[.int .i64 0, .int .i64 0]) ∧ i.size = 2 ∧ i.bytes = 16 := by
  obtain ⟨i, hi, h⟩ := Option.map_eq_some_iff.1 pairInfo'
  simp only [Prod.mk.injEq] at h
  exact ⟨i, hi, h.1, h.2.1, h.2.2⟩
section
variable {w w' : World} {B : Nat} {e : TypeId} {size : Nat} {v : Value} {n : Nat} {cs : List Value}
theorem own_form (h : w.ownsRow B e size v n cs) : ∃ a cap, v = .slice a n cap ∧ n ≤ cap ∧ (0 < n → ∃ g, a = some ⟨g, 0, none⟩ ∧ ∀ j u, cs[j]? = some u → w.cell? ⟨g, j, none⟩ = some u) := by
  rcases h.2 with ⟨rfl, rfl⟩ | ⟨g, cap, cur, rfl, hb, hg, hnc, _, hsz, ht⟩
  · exact ⟨none, 0, rfl, Nat.le_refl _, fun h => by omega⟩
  · refine ⟨_, cap, rfl, hnc, fun _ => ⟨g, rfl, fun j u hu => ?_⟩⟩
    rw [cell_of_row w g j cur e (0, 0) hg]
    rw [← ht, List.getElem?_take] at hu
    split at hu
    · rw [← Array.getElem?_toList]; exact hu
    · cases hu
theorem own_lt (h : w.ownsRow B e size v n cs) {k : Nat} (hk : v.ownBlock = some k) : B ≤ k ∧ k < w.heap.size := by
  rcases h.2 with ⟨rfl, _⟩ | ⟨g, cap, cur, rfl, hb, hg, _⟩
  · cases hk
  · have : g = k := by simpa [Value.ownBlock] using hk
    subst this
    refine ⟨hb, ?_⟩
    rcases Nat.lt_or_ge g w.heap.size with hlt | hge
    · exact hlt
    · rw [Array.getElem?_eq_none hge] at hg; cases hg
end
/-- A row of pairs of the call's own, from block B on; what W0 had is as it was. -/
structure GrowsP (W0 : World) (B : Nat) (A : Option Addr) (n c : Nat) (zs : List (Int × Int)) (W : World) : Prop where
  below : Below W0.heap.size W0 W
  low : W0.heap.size ≤ B
  high : B ≤ W.heap.size
  own : W.ownsRow B 73 2 (.slice A n c) n (flatP zs)
/-- What is known behind an append: the longer row; what was there at X is as it was, but for the row. -/
def PostP (W0 : World) (B : Nat) (X : World) (A0 A : Option Addr) (n c : Nat) (zs : List (Int × Int)) (W : World) : Prop :=
  GrowsP W0 B A n c zs W ∧ ∀ b ty cs, Lies X b ty cs → (∀ x, A0 = some x → x.block ≠ b) → Lies W b ty cs
section
variable {W0 W X : World} {A A0 : Option Addr} {n m c c0 B : Nat} {xs zs : List (Int × Int)} {b : Nat}
theorem GrowsP.drew (h : GrowsP W0 B A n c zs W) : GrowsP W0 B A n c zs W.drew := ⟨below_drewN h.below 1, h.low, h.high, h.own⟩
theorem GrowsP.start (hb : Below W0.heap.size W0 W) (hB : W.heap.size = B) : GrowsP W0 B none 0 0 [] W := ⟨hb, by subst hB; exact hb.size, by omega, rfl, .inl ⟨rfl, rfl⟩⟩
theorem GrowsP.len (h : GrowsP W0 B A n c zs W) : n = zs.length := by
  have hlen := h.own.1
  rw [length_flatP] at hlen
  omega
theorem GrowsP.pairs (h : GrowsP W0 B A n c zs W) : Pairs W A c zs := by
  have hn := h.len
  obtain ⟨A', c', e, hc, hat⟩ := own_form h.own
  cases e
  refine ⟨by omega, fun h0 => ?_⟩
  obtain ⟨g, rfl, hcell⟩ := hat (by omega)
  exact ⟨g, rfl, (own_lt h.own rfl).2, fun j v hj => hcell _ _ hj⟩
theorem GrowsP.far (h : GrowsP W0 B A n c zs W) (hb : b < B) : ∀ x, A = some x → x.block ≠ b := fun x hx => by
  subst hx
  have := (own_lt h.own (k := x.block) rfl).1
  omega
/-- New memory alone. -/
theorem GrowsP.tells (h : GrowsP W0 B A n c zs W) (hb : Below W.heap.size W X) : GrowsP W0 B A n c zs X := by
  refine ⟨h.below.trans (hb.mono h.below.size), h.low, Nat.le_trans h.high hb.size, h.own.1, ?_⟩
  rcases h.own.2 with h1 | ⟨g, cap, cur, e, h1, h2, h3⟩
  · exact .inl h1
  · refine .inr ⟨g, cap, cur, e, h1, ?_, h3⟩
    have hg : g < W.heap.size := by
      rcases Nat.lt_or_ge g W.heap.size with hlt | hge
      · exact hlt
      · rw [Array.getElem?_eq_none hge] at h2; cases h2
    rw [hb.block g hg]; exact h2
/-- What is written lies elsewhere. -/
theorem GrowsP.other (h : GrowsP W0 B A n c zs W) {p : Addr} (hp : p.block < B) (hw : W0.heap.size ≤ p.block) (v : Value) : GrowsP W0 B A n c zs (W.setCell p v) := by
  refine ⟨h.below.setCell hw v, h.low, by simpa [World.setCell] using h.high, h.own.1, ?_⟩
  rcases h.own.2 with h1 | ⟨g, cap, cur, e, h1, h2, h3⟩
  · exact .inl h1
  · refine .inr ⟨g, cap, cur, e, h1, ?_, h3⟩
    rw [Below.heap_setCell W p v g (by omega)]; exact h2
/-- One pair more, out of a literal. -/
theorem append_pair (ty : TypeId) {u v : Int} (hG : GrowsP W0 B A0 n c0 zs X) (hL : Lies X b 73 #[.int .i64 u, .int .i64 v]) (hb : n + 1 ≤ 2000) :
    ∃ A c' w', (Builtin.append_ #[54, 54] ty #[.slice A0 n c0, .slice (some ⟨b, 0, none⟩) 1 1]).run Try.prog X = .ok (.slice A (n + 1) c') w' ∧ PostP W0 B X A0 A (n + 1) c' (zs ++ [(u, v)]) w' := by
  obtain ⟨i, hi, hz, hs, hbt⟩ := pairInfo
  obtain ⟨g', cap, w', hrun, k1, k2, k3, _⟩ := run_append_lies (P := Try.prog) X 54 ty B 73 i _ 2 16 Try.underlying54 hi hz hs hbt rfl (by omega) (.slice A0 n c0) n (flatP zs) hG.own ⟨b, 0, none⟩ 1 1 [.int .i64 u, .int .i64 v] rfl (fun j x hx => by
      rw [Addr.add_lit, Nat.zero_add, hL.cell, ← Array.getElem?_toList]; exact hx) (by
      intro x hx
      simp only [List.mem_cons, List.not_mem_nil, or_false] at hx
      rcases hx with rfl | rfl <;> rfl) (by omega) (by unfold maxLen; omega) (by omega) hG.high X.heap.size rfl
  refine ⟨some ⟨g', 0, none⟩, cap, w', hrun, ⟨Below.grown hG.below k2 (Nat.le_trans hG.low hG.high) (fun k hk => Nat.le_trans hG.low (own_lt hG.own hk).1), hG.low, Nat.le_trans hG.high k2.size, ?_⟩, fun b' t cs hL' hne => ?_⟩
  · rw [flatP_append]
    simpa [flatP] using k1
  · unfold Lies
    rw [k2.block b' hL'.lt (fun e => ?_)]
    · exact hL'
    · cases A0 with
      | none => cases e
      | some x =>
        have : x.block = b' := by simpa [Value.ownBlock] using e.symm
        exact hne x rfl this
theorem step_append_pair {ops : Array Oper} {o : Oper} {a : Act} {K : Act → World → Prop} {Q : Exit → Act → World → Prop} {E : Prop} (hgd : o.guard = none) (s x : Operand)
    (hop : o.op = .call { callee := .builtin .append, args := #[s, x], argTypes := #[54, 54] })
    (u v : Int) (N : Nat) (hs : a.eval s = .slice A0 n c0) (hx : a.eval x = .slice (some ⟨b, 0, none⟩) 1 1)
    (hG : GrowsP W0 B A0 n c0 zs X) (hL : Lies X b 73 #[.int .i64 u, .int .i64 v]) (hN : n + 1 = N) (hb : N ≤ 2000)
    (h : ∀ A c' w', PostP W0 B X A0 A N c' (zs ++ [(u, v)]) w' → K (a.put o.dst (.slice A N c')) w') :
    if Region.wanted o (yielded ops a.tmps) = true then Oper.wp Try.prog o a X K Q else E := by
  have hw : Region.wanted o (yielded ops a.tmps) = true := by simp [Region.wanted, hgd]
  rw [if_pos hw]
  subst hN
  obtain ⟨A, c', w', hrun, hl⟩ := append_pair o.type hG hL hb
  exact Lib.wp_append_run X s x 54 54 hop _ _ hs hx _ _ hrun (h A c' w' hl)
end
end Go.Proofs.Ytklnokhabomnfaa
