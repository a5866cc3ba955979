/- Rows of cells of the call's own, told by a function from places; a row of bools that is made. -/
import Derived.Test.YtfialaigkcgncaaLk
import Derived.Laws.MakeOwn
namespace Go.Proofs.Ytfialaigkcgncaa
open Go.RowKit

theorem below_new (w : World) (o : Obj) : Below w.heap.size w (w.alloc o) := (Below.refl _ _).alloc (Nat.le_refl _) _
/-- Block b holds just n cells, f of each place. -/
def Row (W : World) (b : Nat) (t : TypeId) (n : Nat) (f : Nat → Value) : Prop := ∃ cs : Array Value, Lies W b t cs ∧ cs.size = n ∧ ∀ i, i < n → cs[i]? = some (f i)
section
variable {W W' : World} {b n B : Nat} {t : TypeId} {f f' : Nat → Value} {S : Nat → Prop}
theorem Row.lt (h : Row W b t n f) : b < W.heap.size := by obtain ⟨cs, h1, _⟩ := h; exact h1.lt
theorem Row.below (h : Row W b t n f) (hb : Below B W W') (hB : b < B) : Row W' b t n f := by obtain ⟨cs, h1, h2⟩ := h; exact ⟨cs, h1.below hb hB, h2⟩
theorem Row.tells (h : Row W b t n f) (hb : Below W.heap.size W W') : Row W' b t n f := h.below hb h.lt
theorem Row.turns (h : Row W b t n f) (ht : Turns S W W') (hS : ¬ S b) : Row W' b t n f := by obtain ⟨cs, h1, h2⟩ := h; exact ⟨cs, h1.turns ht hS, h2⟩
theorem Row.drewN (h : Row W b t n f) (k : Nat) : Row (W.drewN k) b t n f := h
theorem Row.cell (h : Row W b t n f) {i : Nat} (hi : i < n) : W.cell? ⟨b, i, none⟩ = some (f i) := by obtain ⟨cs, h1, h2, h3⟩ := h; rw [h1.cell]; exact h3 i hi
theorem Row.thawed (h : Row W b t n f) (i : Nat) : W.frozen? ⟨b, i, none⟩ = false := by obtain ⟨cs, h1, h2, h3⟩ := h; exact h1.thawed i
theorem Row.eq (h : Row W b t n f) (e : ∀ i, i < n → f i = f' i) : Row W b t n f' := by
  obtain ⟨cs, h1, h2, h3⟩ := h
  exact ⟨cs, h1, h2, fun i hi => by rw [h3 i hi, e i hi]⟩
theorem Row.set (h : Row W b t n f) {k : Nat} {v : Value} (e : ∀ i, i < n → f' i = if i = k then v else f i) : Row (W.setCell ⟨b, k, none⟩ v) b t n f' := by
  obtain ⟨cs, h1, h2, h3⟩ := h
  refine ⟨_, h1.here k v, by simpa using h2, fun i hi => ?_⟩
  rw [Array.getElem?_setIfInBounds, e i hi]
  by_cases hk : k = i
  · subst hk
    rw [if_pos rfl, if_pos (by omega), if_pos rfl]
  · rw [if_neg hk, if_neg (fun h => hk h.symm)]
    exact h3 i hi
theorem Row.there (h : Row W b t n f) {a : Addr} (ha : b ≠ a.block) (u : Value) : Row (W.setCell a u) b t n f := by
  obtain ⟨cs, h1, h2⟩ := h
  exact ⟨cs, h1.there ha u, h2⟩
theorem Row.made (W : World) (t : TypeId) (n : Nat) (z : Value) : Row (W.alloc (.cells (madeCells #[z] n) t)) W.heap.size t n (fun _ => z) :=
  ⟨_, Lies.made _ _ _, size_madeCells _ _, fun i hi => by simp [madeCells, hi, Nat.mod_one]⟩
end
theorem boolInfo' : ((Try.prog.info? 4).map fun i => (i.zero, i.size, i.bytes)) = some (some (.bool false), 1, 1) := by kernel_rfl
theorem boolInfo : ∃ i, Try.prog.info? 4 = some i ∧ i.zero = some (.bool false) ∧ i.size = 1 ∧ i.bytes = 1 := by
  obtain ⟨i, hi, h⟩ := Option.map_eq_some_iff.1 boolInfo'
  simp only [Prod.mk.injEq] at h
  exact ⟨i, hi, h.1, h.2.1, h.2.2⟩
theorem make_bools (n : Nat) (hn : n ≤ 1000) (W : World) : (Instr.makeSlice 27 (.int .i64 (n : Int)) (.int .i64 (n : Int))).run Try.prog W = .ok (.slice (some ⟨W.heap.size, 0, none⟩) n n) (W.alloc (.cells (madeCells #[.bool false] n) 4)) := by
  obtain ⟨i, hi, hz, hs, hb⟩ := boolInfo
  have := run_make (P := Try.prog) W 27 4 i (Value.bool false) Try.underlying27 hi hz .i64 .i64 n n (by omega) (by omega) (by rw [hb]; omega) (by omega)
  rw [hs] at this
  simp only [Int.toNat_natCast, Nat.mul_one] at this
  exact this

end Go.Proofs.Ytfialaigkcgncaa
