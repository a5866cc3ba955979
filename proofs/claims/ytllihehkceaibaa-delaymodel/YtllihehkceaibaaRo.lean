/- Rows of cells of the call's own, told by a function from places; rows of numbers made by one append. -/
import Derived.Test.YtllihehkceaibaaTw
namespace Go.Proofs.Ytllihehkceaibaa
open Go.RowKit

/-- Block b holds just n cells, f of each place. -/
def Row (W : World) (b : Nat) (t : TypeId) (n : Nat) (f : Nat → Value) : Prop := ∃ cs : Array Value, Lies W b t cs ∧ cs.size = n ∧ ∀ i, i < n → cs[i]? = some (f i)
section
variable {W W' : World} {b n B : Nat} {t : TypeId} {f f' : Nat → Value} {S : Nat → Prop}
theorem Row.lt (h : Row W b t n f) : b < W.heap.size := by obtain ⟨cs, h1, _⟩ := h; exact h1.lt
theorem Row.below (h : Row W b t n f) (hb : Below B W W') (hB : b < B) : Row W' b t n f := by obtain ⟨cs, h1, h2⟩ := h; exact ⟨cs, h1.below hb hB, h2⟩
theorem Row.tells (h : Row W b t n f) (hb : Below W.heap.size W W') : Row W' b t n f := h.below hb h.lt
theorem Row.turns (h : Row W b t n f) (ht : Turns S W W') (hS : ¬ S b) : Row W' b t n f := by obtain ⟨cs, h1, h2⟩ := h; exact ⟨cs, h1.turns ht hS, h2⟩
theorem Row.drewN (h : Row W b t n f) (k : Nat) : Row (W.drewN k) b t n f := h
theorem Row.cell (h : Row W b t n f) {i : Nat} (hi : i < n) : W.cell? ⟨b, i, none⟩ = some (f i) := by obtain ⟨cs, h1, h2, h3⟩ := h; rw [h1.cell]; exact h3 i hi
theorem Row.thawed (h : Row W b t n f) (i : Nat) : W.frozen? ⟨b, i, none⟩ = false := by obtain ⟨cs, h1, h2, h3⟩ := h; exact h1.thawed i
theorem Row.eq (h : Row W b t n f) (e : ∀ i, i < n → f i = f' i) : Row W b t n f' := by
  obtain ⟨cs, h1, h2, h3⟩ := h
  exact ⟨cs, h1, h2, fun i hi => by rw [h3 i hi, e i hi]⟩
theorem Row.set (h : Row W b t n f) {k : Nat} {v : Value} (e : ∀ i, i < n → f' i = if i = k then v else f i) : Row (W.setCell ⟨b, k, none⟩ v) b t n f' := by
  obtain ⟨cs, h1, h2, h3⟩ := h
  refine ⟨_, h1.here k v, by simpa using h2, fun i hi => ?_⟩
  rw [Array.getElem?_setIfInBounds, e i hi]
  by_cases hk : k = i
  · subst hk
    rw [if_pos rfl, if_pos (by omega), if_pos rfl]
  · rw [if_neg hk, if_neg (fun h => hk h.symm)]
    exact h3 i hi
theorem Row.there (h : Row W b t n f) {a : Addr} (ha : b ≠ a.block) (u : Value) : Row (W.setCell a u) b t n f := by
  obtain ⟨cs, h1, h2⟩ := h
  exact ⟨cs, h1.there ha u, h2⟩
theorem Row.made (W : World) (t : TypeId) (n : Nat) (z : Value) : Row (W.alloc (.cells (madeCells #[z] n) t)) W.heap.size t n (fun _ => z) :=
  ⟨_, Lies.made _ _ _, size_madeCells _ _, fun i hi => by simp [madeCells, hi, Nat.mod_one]⟩
end
theorem intInfo' : ((Try.prog.info? 3).map fun i => (i.zero, i.size, i.bytes)) = some (some (.int .i64 0), 1, 8) := by kernel_rfl
theorem intInfo : ∃ i, Try.prog.info? 3 = some i ∧ i.zero = some (.int .i64 0) ∧ i.size = 1 ∧ i.bytes = 8 := by
  obtain ⟨i, hi, h⟩ := Option.map_eq_some_iff.1 intInfo'
  simp only [Prod.mk.injEq] at h
  exact ⟨i, hi, h.1, h.2.1, h.2.2⟩
theorem boolInfo' : ((Try.prog.info? 4).map fun i => (i.zero, i.size, i.bytes)) = some (some (.bool false), 1, 1) := by kernel_rfl
theorem boolInfo : ∃ i, Try.prog.info? 4 = some i ∧ i.zero = some (.bool false) ∧ i.size = 1 ∧ i.bytes = 1 := by
  obtain ⟨i, hi, h⟩ := Option.map_eq_some_iff.1 boolInfo'
  simp only [Prod.mk.injEq] at h
  exact ⟨i, hi, h.1, h.2.1, h.2.2⟩
/-- A row of so many zeros is made. -/
theorem make_ints (n : Nat) (hn : n ≤ 1000) (W : World) : (Instr.makeSlice 22 (.int .i64 (n : Int)) (.int .i64 (n : Int))).run Try.prog W = .ok (.slice (some ⟨W.heap.size, 0, none⟩) n n) (W.alloc (.cells (madeCells #[.int .i64 0] n) 3)) := by
  obtain ⟨i, hi, hz, hs, hb⟩ := intInfo
  have := run_make (P := Try.prog) W 22 3 i (Value.int .i64 0) Try.underlying22 hi hz .i64 .i64 n n (by omega) (by omega) (by rw [hb]; omega) (by omega)
  rw [hs] at this
  simp only [Int.toNat_natCast, Nat.mul_one] at this
  exact this
theorem make_bools (n : Nat) (hn : n ≤ 1000) (W : World) : (Instr.makeSlice 37 (.int .i64 (n : Int)) (.int .i64 (n : Int))).run Try.prog W = .ok (.slice (some ⟨W.heap.size, 0, none⟩) n n) (W.alloc (.cells (madeCells #[.bool false] n) 4)) := by
  obtain ⟨i, hi, hz, hs, hb⟩ := boolInfo
  have := run_make (P := Try.prog) W 37 4 i (Value.bool false) Try.underlying37 hi hz .i64 .i64 n n (by omega) (by omega) (by rw [hb]; omega) (by omega)
  rw [hs] at this
  simp only [Int.toNat_natCast, Nat.mul_one] at this
  exact this

/-- Block o, from place k on, holds the numbers of l. -/
def Rest (W : World) (o k : Nat) (l : List Int) : Prop := ∃ cs : Array Value, Lies W o 3 cs ∧ l.length ≤ cs.size ∧ ∀ i x, k ≤ i → l[i]? = some x → cs[i]? = some (.int .i64 x)
section
variable {W W' : World} {o k : Nat} {l : List Int} {S : Nat → Prop}
theorem Rest.lt (h : Rest W o k l) : o < W.heap.size := by obtain ⟨cs, h1, _⟩ := h; exact h1.lt
theorem Rest.tells (h : Rest W o k l) (hb : Below W.heap.size W W') : Rest W' o k l := by obtain ⟨cs, h1, h2⟩ := h; exact ⟨cs, h1.below hb h1.lt, h2⟩
theorem Rest.turns (h : Rest W o k l) (ht : Turns S W W') (hS : ¬ S o) : Rest W' o k l := by obtain ⟨cs, h1, h2⟩ := h; exact ⟨cs, h1.turns ht hS, h2⟩
theorem Rest.drewN (h : Rest W o k l) (n : Nat) : Rest (W.drewN n) o k l := h
theorem Rest.cell (h : Rest W o k l) {i : Nat} {x : Int} (hk : k ≤ i) (hi : l[i]? = some x) : W.cell? ⟨o, i, none⟩ = some (.int .i64 x) := by obtain ⟨cs, h1, h2, h3⟩ := h; rw [h1.cell]; exact h3 i x hk hi
theorem Rest.thawed (h : Rest W o k l) (i : Nat) : W.frozen? ⟨o, i, none⟩ = false := by obtain ⟨cs, h1, h2, h3⟩ := h; exact h1.thawed i
theorem Rest.set (h : Rest W o k l) (v : Value) : Rest (W.setCell ⟨o, k, none⟩ v) o (k + 1) l := by
  obtain ⟨cs, h1, h2, h3⟩ := h
  refine ⟨_, h1.here k v, by simpa using h2, fun i x hk hi => ?_⟩
  rw [Array.getElem?_setIfInBounds, if_neg (by omega)]
  exact h3 i x (by omega) hi
theorem Rest.ints {c : Nat} (h : Rest W o 0 l) (hc : l.length ≤ c) : Ints W (some ⟨o, 0, none⟩) c l :=
  ⟨hc, fun _ => ⟨o, 0, rfl, h.lt, fun i t hi => by rw [Nat.zero_add]; exact h.cell (by omega) hi⟩⟩
end
/-- Numbers as cells. -/
def cellsI (l : List Int) : List Value := l.map (Value.int .i64)
/-- 'append([]int{}, l...)', l not empty: a row of the call's own. -/
theorem append_ints (ty : TypeId) {X : World} {l : List Int} {a : Option Addr} {c : Nat} (h : Ints X a c l) (hl : 0 < l.length) (hb : l.length ≤ 1000) {q : Nat} (hq : X.heap.size = q) :
    ∃ o c' w', (Builtin.append_ #[22, 22] ty #[.slice (some ⟨q, 0, none⟩) 0 0, .slice a l.length c]).run Try.prog (X.alloc (.cells #[] 3)) = .ok (.slice (some ⟨o, 0, none⟩) l.length c') w' ∧ l.length ≤ c' ∧ Rest w' o 0 l ∧ Below X.heap.size X w' ∧ X.heap.size ≤ o := by
  subst hq
  obtain ⟨i, hi, hz, hs, hbt⟩ := intInfo
  have B1 := below_new X (.cells #[] 3)
  have hi2 := h.below (Nat.le_refl _) B1
  obtain ⟨b, off, rfl, hbl, hc⟩ := hi2.form hl
  have hown : (X.alloc (.cells #[] 3)).ownsRow X.heap.size 3 1 (.slice (some ⟨X.heap.size, 0, none⟩) 0 0) 0 [] := World.ownsRow_lit X #[] 0 (Nat.le_refl _) (by unfold maxLen; omega) rfl
  obtain ⟨o, c', w', hrun, k1, k2, k3, _⟩ := run_append_lies (P := Try.prog) (X.alloc (.cells #[] 3)) 22 ty X.heap.size 3 i _ 1 8 Try.underlying22 hi hz hs hbt rfl (by omega) _ 0 [] hown ⟨b, off, none⟩ l.length c (cellsI l) (by simp [cellsI]) (fun j u hu => by
      rw [Addr.add_lit]
      simp only [cellsI, List.getElem?_map, Option.map_eq_some_iff] at hu
      obtain ⟨z, hz', rfl⟩ := hu
      exact hc j z hz') (by
      intro u hu
      obtain ⟨z, _, rfl⟩ := List.mem_map.1 hu
      rfl) hl (by unfold maxLen; omega) (by omega) B1.size (X.alloc (.cells #[] 3)).heap.size rfl
  rw [Nat.zero_add, List.nil_append] at k1
  rw [Nat.zero_add] at hrun
  have hw : Below X.heap.size X w' := Below.grown B1 k2 B1.size (fun k hk => by cases hk; exact Nat.le_refl _)
  rcases k1.2 with ⟨h', _⟩ | ⟨g', cap, cur, e, hb', hg, hnc, hmx, hsz, ht⟩
  · cases h'
  · cases e
    refine ⟨o, c', w', hrun, hnc, ⟨cur, hg, by omega, fun i x _ hx => ?_⟩, hw, hb'⟩
    have hlt := (List.getElem?_eq_some_iff.1 hx).1
    have : (cellsI l)[i]? = some (.int .i64 x) := by simp [cellsI, hx]
    rw [← ht, List.getElem?_take] at this
    split at this
    · rw [← Array.getElem?_toList]; exact this
    · cases this
theorem wpList_append_ints {X : World} {ops : Array Oper} {rest : List Oper} {o : Oper} {act : Act} {Q : Exit → Act → World → Prop} (hgd : o.guard = none) (s x : Operand)
    (hop : o.op = .call { callee := .builtin .append, args := #[s, x], argTypes := #[22, 22] })
    (l : List Int) (a : Option Addr) (c q : Nat) (hs : act.eval s = .slice (some ⟨q, 0, none⟩) 0 0) (hx : act.eval x = .slice a l.length c)
    (hI : Ints X a c l) (hl : 0 < l.length) (hb : l.length ≤ 1000) (hq : X.heap.size = q)
    (h : ∀ g c' w', l.length ≤ c' → Rest w' g 0 l → Below X.heap.size X w' → X.heap.size ≤ g → wpList Try.prog ops Q rest (act.put o.dst (.slice (some ⟨g, 0, none⟩) l.length c')) w') : wpList Try.prog ops Q (o :: rest) act (X.alloc (.cells #[] 3)) := by
  obtain ⟨g, c', w', hrun, k1, k2, k3, k4⟩ := append_ints o.type hI hl hb hq
  exact Lib.wpList_append_run _ hgd s x 22 22 hop _ _ hs hx _ _ hrun (h g c' w' k1 k2 k3 k4)
end Go.Proofs.Ytllihehkceaibaa
