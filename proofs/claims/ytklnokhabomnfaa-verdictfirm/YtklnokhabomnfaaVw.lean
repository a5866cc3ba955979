/- A row of tasks of the call's own, known cell by cell: it is written, too. -/
import Derived.Test.YtklnokhabomnfaaGr
import Derived.Test.YtklnokhabomnfaaVe
namespace Go.Proofs.Ytklnokhabomnfaa
open Go.RowKit

def KRow (W : World) (gr off : Nat) (l : List Tk) : Prop :=
  ∃ cs : Array Value, Lies W gr 39 cs ∧ ∀ i t, l[i]? = some t → ∀ (j : Nat) (v : Value), (cellsK t)[j]? = some v → cs[off + i * 11 + j]? = some v
section
variable {W W' : World} {gr off c B i : Nat} {l : List Tk} {t : Tk}
theorem KRow.lt (h : KRow W gr off l) : gr < W.heap.size := by obtain ⟨cs, h1, _⟩ := h; exact h1.lt
theorem KRow.thawed (h : KRow W gr off l) (k : Nat) : W.frozen? ⟨gr, k, none⟩ = false := by obtain ⟨cs, h1, _⟩ := h; exact h1.thawed k
theorem KRow.cell (h : KRow W gr off l) (hi : l[i]? = some t) {j : Nat} {v : Value} (hj : (cellsK t)[j]? = some v) : W.cell? ⟨gr, off + i * 11 + j, none⟩ = some v := by
  obtain ⟨cs, h1, h2⟩ := h
  rw [h1.cell]; exact h2 i t hi j v hj
theorem KRow.there (h : KRow W gr off l) {a : Addr} (ha : gr ≠ a.block) (u : Value) : KRow (W.setCell a u) gr off l := by
  obtain ⟨cs, h1, h2⟩ := h; exact ⟨cs, h1.there ha u, h2⟩
theorem KRow.below (h : KRow W gr off l) (hb : Below B W W') (hB : gr < B) : KRow W' gr off l := by
  obtain ⟨cs, h1, h2⟩ := h; exact ⟨cs, h1.below hb hB, h2⟩
theorem KRow.tells (h : KRow W gr off l) (hb : Below W.heap.size W W') : KRow W' gr off l := h.below hb h.lt
theorem KRow.drewN (h : KRow W gr off l) (n : Nat) : KRow (W.drewN n) gr off l := h
theorem KRow.tasks (h : KRow W gr off l) (hc : l.length ≤ c) : Tasks W (some ⟨gr, off, none⟩) c l :=
  ⟨hc, fun _ => ⟨gr, off, rfl, h.lt, fun _ _ hi _ _ hj => h.cell hi hj⟩⟩
theorem len_cellsK (t : Tk) : (cellsK t).length = 11 := rfl
theorem KRow.put (h : KRow W gr off l) (hi : l[i]? = some t) {j : Nat} {v : Value} {t' : Tk} (hj : j < 11) (hv : (cellsK t')[j]? = some v) (ho : ∀ q, q ≠ j → (cellsK t')[q]? = (cellsK t)[q]?) :
    KRow (W.setCell ⟨gr, off + i * 11 + j, none⟩ v) gr off (l.set i t') := by
  obtain ⟨cs, h1, h2⟩ := h
  refine ⟨_, h1.here _ v, fun i2 t2 hi2 j2 v2 hj2 => ?_⟩
  have hj11 : j2 < 11 := by have := (List.getElem?_eq_some_iff.1 hj2).1; rwa [len_cellsK] at this
  have hlt := (List.getElem?_eq_some_iff.1 hi).1
  by_cases hii : i2 = i
  · subst hii
    rw [List.getElem?_set_self hlt] at hi2
    cases hi2
    by_cases hjj : j2 = j
    · subst hjj
      rw [hv] at hj2; cases hj2
      have hc := h2 i2 t hi j2 ((cellsK t)[j2]'(by rw [len_cellsK]; exact hj)) (List.getElem?_eq_getElem _)
      have hsz := (Array.getElem?_eq_some_iff.1 hc).1
      rw [Array.getElem?_setIfInBounds, if_pos rfl, if_pos hsz]
    · rw [Array.getElem?_setIfInBounds, if_neg (by omega)]
      rw [ho j2 hjj] at hj2
      exact h2 i2 t hi j2 v2 hj2
  · rw [List.getElem?_set_ne (fun e => hii e.symm)] at hi2
    rw [Array.getElem?_setIfInBounds, if_neg (by omega)]
    exact h2 i2 t2 hi2 j2 v2 hj2
theorem KRow.putK (h : KRow W gr off l) {m k : Int} (hi : l[i]? = some (firmed t m k)) (x : Int) : KRow (W.setCell ⟨gr, off + i * 11 + 8, none⟩ (.int .i64 x)) gr off (l.set i (firmed t m x)) :=
  h.put hi (by omega) rfl (fun q hq => by
    match q, hq with
    | 0, _ => rfl
    | 1, _ => rfl
    | 2, _ => rfl
    | 3, _ => rfl
    | 4, _ => rfl
    | 5, _ => rfl
    | 6, _ => rfl
    | 7, _ => rfl
    | 8, h => exact absurd rfl h
    | 9, _ => rfl
    | 10, _ => rfl
    | q + 11, _ => rfl)
theorem KRow.putM (h : KRow W gr off l) {m k : Int} (hi : l[i]? = some (firmed t m k)) (x : Int) : KRow (W.setCell ⟨gr, off + i * 11 + 7, none⟩ (.int .i64 x)) gr off (l.set i (firmed t x k)) :=
  h.put hi (by omega) rfl (fun q hq => by
    match q, hq with
    | 0, _ => rfl
    | 1, _ => rfl
    | 2, _ => rfl
    | 3, _ => rfl
    | 4, _ => rfl
    | 5, _ => rfl
    | 6, _ => rfl
    | 7, h => exact absurd rfl h
    | 8, _ => rfl
    | 9, _ => rfl
    | 10, _ => rfl
    | q + 11, _ => rfl)
end
theorem own_tk {W : World} {B n c : Nat} {A : Option Addr} {zs : List Tk} (h : W.ownsRow B 39 11 (.slice A n c) n (flatK zs)) (hn : 1 ≤ n) : ∃ gr, A = some ⟨gr, 0, none⟩ ∧ B ≤ gr ∧ n ≤ c ∧ KRow W gr 0 zs := by
  rcases h.2 with ⟨e, _⟩ | ⟨g, cap, cur, e, hb, hg, hnc, _, hsz, ht⟩
  · cases e; omega
  · cases e
    refine ⟨g, rfl, hb, hnc, cur, hg, fun i t hi j v hj => ?_⟩
    have h1 := flatK_at j v hi hj
    rw [← ht, List.getElem?_take] at h1
    split at h1
    · rw [Nat.zero_add, ← Array.getElem?_toList]; exact h1
    · cases h1
/-- A set in a variable of its own, its row the call's own, too. -/
def SetO (X : World) (b : Int) (N : Nat) (zs : List Tk) (s : Value) (W : World) : Prop :=
  ∃ (g gr off c : Nat), s = .pointer (some ⟨g, 0, none⟩) ∧ Lies W g 24 #[.int .i64 b, .slice (some ⟨gr, off, none⟩) N c] ∧ KRow W gr off zs ∧ N ≤ c ∧ g ≠ gr ∧ X.heap.size ≤ gr ∧ Below X.heap.size X W
section
variable {X W W' : World} {A2 A3 : Option Addr} {N c D : Nat} {zs : List Tk}
theorem PostT.lateO (hp : PostT X W A2 A3 N c zs W') (hN : 1 ≤ N) (b : Int) : SetO X b N zs (.pointer (some ⟨W'.heap.size, 0, none⟩)) (W'.alloc (.cells #[.int .i64 b, .slice A3 N c] 24)) := by
  obtain ⟨gr, rfl, hB, hc, hK⟩ := own_tk hp.1.2 hN
  exact ⟨_, gr, 0, c, rfl, Lies.made _ _ _, hK.tells (below_new _ _), hc, by have := hK.lt; omega, hB, hp.1.1.alloc hp.1.1.size _⟩
theorem PostT.earlyO (hp : PostT X W A2 A3 N c zs W') (hv : VarT X W' D A3) (hN : 1 ≤ N) (b : Int) : SetO X b N zs (.pointer (some ⟨D, 0, none⟩)) ((W'.setCell ⟨D, 0, none⟩ (.int .i64 b)).setCell ⟨D, 1, none⟩ (.slice A3 N c)) := by
  obtain ⟨gr, rfl, hB, hc, hK⟩ := own_tk hp.1.2 hN
  have hne : gr ≠ D := hv.2.2 _ rfl
  exact ⟨D, gr, 0, c, rfl, (hv.1.here 0 _).here 1 _, (hK.there (a := ⟨D, 0, none⟩) hne _).there (a := ⟨D, 1, none⟩) hne _, hc, fun e => hne e.symm, hB, (hp.1.1.setCell (p := ⟨D, 0, none⟩) hv.2.1 _).setCell (p := ⟨D, 1, none⟩) hv.2.1 _⟩
end
end Go.Proofs.Ytklnokhabomnfaa
