/- Loads: of a task, of a set. -/
import Derived.Test.YtklnokhabomnfaaBr
import Derived.Test.YtklnokhabomnfaaMk
namespace Go.Proofs.Ytklnokhabomnfaa
open Go.RowKit

/-- A task's whole demand, by the mode. -/
def wholeV (t : Tk) : Int := if t.Mode = 1 then t.C + (t.C + t.Seg - 1) / t.Seg * t.Cost else t.C + t.Cost
theorem whole_eq {t : Tk} {s : Int} {n : Nat} (h : Fine t) (hw : Ways t t.C n s) : t.C + (n : Int) * t.Cost = wholeV t := by
  unfold wholeV
  by_cases hm : t.Mode = 1
  · have hs : 1 ≤ t.Seg := by rcases h.again with h1 | h1 <;> omega
    have h2 := hw.cuts
    rw [hw.retry hm] at h2
    obtain ⟨k, hk, hc⟩ := cuts_ceil h.nums.1 hs
    rw [if_pos hm, ← hk, hc.same h2]
  · rw [if_neg hm, (hw.whole hm).1]
    simp
theorem whole_nums {t : Tk} (h : Fine t) : t.C ≤ wholeV t ∧ wholeV t ≤ 1049624576 := by
  obtain ⟨n, s, hw⟩ := ways_of h h.nums.1
  rw [← whole_eq h hw]
  obtain ⟨b1, b2, b3, b4, _, _⟩ := h.nums
  have hn := hw.cuts.few
  have p0 : 0 ≤ (n : Int) * t.Cost := Int.mul_nonneg (by omega) b3
  have p1 : (n : Int) * t.Cost ≤ 1048576 * 1000 := Int.mul_le_mul (by omega) b4 b3 (by omega)
  omega
theorem wholeAny {t : Tk} (h : Fine t) (w : World) : Calls Try.prog 40 #[aggK t] w (Gives (.int .i64 (wholeV t)) w) := by
  obtain ⟨n, s, hw⟩ := ways_of h h.nums.1
  rw [← whole_eq h hw]
  exact whole h hw w
def loadV (t : Tk) : Int := (1000 * wholeV t + t.T - 1) / t.T
theorem load_nums {t : Tk} (h : Fine t) : 0 ≤ loadV t ∧ loadV t ≤ 1099511627776 := by
  have h1 := whole_nums h
  obtain ⟨b1, b2, b3, b4, b5, b6⟩ := h.nums
  unfold loadV
  refine ⟨Int.ediv_nonneg (by omega) (by omega), ?_⟩
  exact Int.le_trans (Int.ediv_le_self _ (by omega)) (by omega)
/-- The first k tasks' loads, together. -/
def loadsV (l : List Tk) (k : Nat) : Int := ((l.take k).map loadV).sum
theorem loads_next {l : List Tk} {k : Nat} {t : Tk} (h : l[k]? = some t) : loadsV l (k + 1) = loadsV l k + loadV t := by
  unfold loadsV
  rw [List.take_add_one, h]; simp
theorem loads_nums {l : List Tk} (h : ∀ t ∈ l, Fine t) : ∀ k, k ≤ l.length → 0 ≤ loadsV l k ∧ loadsV l k ≤ (k : Int) * 1099511627776
  | 0, _ => by simp [loadsV]
  | k + 1, hk => by
    have hx : l[k]? = some l[k] := List.getElem?_eq_getElem (by omega)
    have h1 := loads_nums h k (by omega)
    have h2 := load_nums (h _ (List.getElem_mem (by omega : k < l.length)))
    rw [loads_next hx]
    omega
structure SetBox (w : World) (b : Int) (a : Option Addr) (n cap : Nat) (W : World) : Prop where
  below : Below w.heap.size w W
  lies : Lies W w.heap.size 24 #[.int .i64 b, .slice a n cap]
section
variable {w W W' : World} {b : Int} {a : Option Addr} {n cap : Nat}
theorem SetBox.made (w : World) (b : Int) (a : Option Addr) (n cap : Nat) : SetBox w b a n cap (w.alloc (.cells #[.int .i64 b, .slice a n cap] 24)) := ⟨below_new _ _, Lies.made _ _ _⟩
theorem SetBox.tells (h : SetBox w b a n cap W) (hb : Below W.heap.size W W') : SetBox w b a n cap W' := ⟨h.below.trans (hb.mono h.below.size), h.lies.below hb h.lies.lt⟩
theorem SetBox.drewN (h : SetBox w b a n cap W) (k : Nat) : SetBox w b a n cap (W.drewN k) := ⟨below_drewN h.below k, h.lies.drewN k⟩
theorem SetBox.cells (h : SetBox w b a n cap W) : W.cell? ⟨w.heap.size, 0, none⟩ = some (.int .i64 b) ∧ W.cell? ⟨w.heap.size, 1, none⟩ = some (.slice a n cap) := ⟨h.lies.cell 0, h.lies.cell 1⟩
end
def LoadRel (b : Int) (l : List Tk) (a : Option Addr) (cap : Nat) (w : World) (s i : Value) (W : World) : Prop :=
  ∃ k : Nat, k ≤ l.length ∧ i = .int .i64 (k : Int) ∧ s = .int .i64 (loadsV l k) ∧ SetBox w b a l.length cap W
end Go.Proofs.Ytklnokhabomnfaa
