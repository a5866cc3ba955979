/- Rows of the statement's own jobs (number, then time): read, laid, made by appends in whatever order their statement draws. -/
import Derived.Test.YtlodfipiodlgdaaGk
import Derived.Test.YtlodfipiodlgdaaAw
namespace Go.Proofs.Ytlodfipiodlgdaa.Jb
open Go.RowKit

/-- A job as a value; its cells: its number, its time. -/
def aggQ (k : Ky) : Value := .agg #[.int .i64 k.2, .int .i64 k.1]
def cellsQ (k : Ky) : List Value := [.int .i64 k.2, .int .i64 k.1]
theorem len_cellsQ (k : Ky) : (cellsQ k).length = 2 := rfl
theorem one_cellsQ (k : Ky) : ∀ u ∈ cellsQ k, u.oneCell' = true := by
  intro u hu
  simp only [cellsQ, List.mem_cons, List.not_mem_nil, or_false] at hu
  rcases hu with rfl | rfl <;> rfl
/-- A slice that begins at a, with room for cap, reads as the keys l. -/
structure Keys (w : World) (a : Option Addr) (cap : Nat) (l : List Ky) : Prop where
  le : l.length ≤ cap
  form : 0 < l.length → ∃ b off, a = some ⟨b, off, none⟩ ∧ b < w.heap.size ∧ ∀ i t, l[i]? = some t → ∀ j v, (cellsQ t)[j]? = some v → w.cell? ⟨b, off + i * 2 + j, none⟩ = some v
section
variable {w w' : World} {a : Option Addr} {cap : Nat} {l : List Ky} {B : Nat}
theorem Keys.below (h : Keys w a cap l) (hB : w.heap.size ≤ B) (hb : Below B w w') : Keys w' a cap l := by
  refine ⟨h.le, fun h0 => ?_⟩
  obtain ⟨b, off, ha, hlt, hc⟩ := h.form h0
  refine ⟨b, off, ha, Nat.lt_of_lt_of_le hlt hb.size, fun i t hi j v hj => ?_⟩
  rw [hb.cell (p := ⟨b, off + i * 2 + j, none⟩) (Nat.lt_of_lt_of_le hlt hB)]; exact hc i t hi j v hj
theorem Keys.drewN (h : Keys w a cap l) (n : Nat) : Keys (w.drewN n) a cap l := ⟨h.le, h.form⟩
theorem Keys.take (h : Keys w a cap l) (k : Nat) : Keys w a cap (l.take k) := by
  refine ⟨by rw [List.length_take]; have := h.le; omega, fun h0 => ?_⟩
  obtain ⟨b, off, ha, hlt, hc⟩ := h.form (by rw [List.length_take] at h0; omega)
  refine ⟨b, off, ha, hlt, fun i t hi => hc i t ?_⟩
  rw [List.getElem?_take] at hi
  split at hi
  · exact hi
  · cases hi
/-- An entry's two cells. -/
theorem Keys.cells (h : Keys w a cap l) {i : Nat} {t : Ky} (hi : l[i]? = some t) : ∃ b off, a = some ⟨b, off, none⟩ ∧ b < w.heap.size ∧
    w.cell? ⟨b, off + i * 2, none⟩ = some (.int .i64 t.2) ∧ w.cell? ⟨b, off + i * 2 + 1, none⟩ = some (.int .i64 t.1) := by
  have hlt := (List.getElem?_eq_some_iff.1 hi).1
  obtain ⟨b, off, ha, hb, hc⟩ := h.form (by omega)
  have H := fun j v => hc i t hi j v
  exact ⟨b, off, ha, hb, H 0 _ rfl, H 1 _ rfl⟩
end
/-- Keys as cells. -/
def flatQ : List Ky → List Value
  | [] => []
  | t :: l => cellsQ t ++ flatQ l
theorem length_flatQ : ∀ l, (flatQ l).length = l.length * 2
  | [] => rfl
  | t :: l => by simp [flatQ, cellsQ, length_flatQ l]; omega
theorem flatQ_append : ∀ a b, flatQ (a ++ b) = flatQ a ++ flatQ b
  | [], _ => rfl
  | t :: a, b => by simp [flatQ, flatQ_append a b]
theorem flatQ_at : ∀ {l : List Ky} {i : Nat} {t : Ky} (j : Nat) (v : Value), l[i]? = some t → (cellsQ t)[j]? = some v → (flatQ l)[i * 2 + j]? = some v
  | [], i, t, j, v, h, _ => by simp at h
  | q :: l, 0, t, j, v, h, hj => by
    have : q = t := by simpa using h
    subst this
    have hlt : j < (cellsQ q).length := (List.getElem?_eq_some_iff.1 hj).1
    rw [flatQ, Nat.zero_mul, Nat.zero_add, List.getElem?_append_left hlt]; exact hj
  | q :: l, i + 1, t, j, v, h, hj => by
    rw [flatQ, List.getElem?_append_right (by simp [cellsQ]; omega), show (i + 1) * 2 + j - (cellsQ q).length = i * 2 + j by simp [cellsQ]; omega]
    exact flatQ_at j v (by simpa using h) hj
theorem keys_row {w : World} {b cap : Nat} {l : List Ky} {cs : Array Value} (h : Lies w b 32 cs) (hs : cs.toList = flatQ l) (hc : l.length ≤ cap) : Keys w (some ⟨b, 0, none⟩) cap l :=
  ⟨hc, fun _ => ⟨b, 0, rfl, h.lt, fun i t hi j v hj => by
    rw [h.cell, Nat.zero_add, ← Array.getElem?_toList, hs]; exact flatQ_at j v hi hj⟩⟩
theorem keys_none (w : World) (a : Option Addr) (cap : Nat) : Keys w a cap [] := ⟨Nat.zero_le _, fun h => by cases h⟩
theorem one_flatQ : ∀ l : List Ky, ∀ u ∈ flatQ l, u.oneCell' = true
  | [], u, h => by simp [flatQ] at h
  | t :: l, u, h => by
    rw [flatQ, List.mem_append] at h
    rcases h with h | h
    · exact one_cellsQ t u h
    · exact one_flatQ l u h
theorem flatQ_inv : ∀ {l : List Ky} {j : Nat} {u : Value}, (flatQ l)[j]? = some u → ∃ i t k, l[i]? = some t ∧ (cellsQ t)[k]? = some u ∧ j = i * 2 + k
  | [], j, u, h => by simp [flatQ] at h
  | q :: l, j, u, h => by
    rw [flatQ] at h
    by_cases hj : j < 2
    · rw [List.getElem?_append_left (by simp [cellsQ]; omega)] at h
      exact ⟨0, q, j, rfl, h, by omega⟩
    · rw [List.getElem?_append_right (by simp [cellsQ]; omega)] at h
      obtain ⟨i, t, k, h1, h2, h3⟩ := flatQ_inv h
      have hlen : (cellsQ q).length = 2 := rfl
      exact ⟨i + 1, t, k, by simpa using h1, h2, by omega⟩

theorem keyInfo' : ((Try.prog.info? 32).map fun i => (i.zero, i.size, i.bytes)) = some (some (aggQ (0, 0)), 2, 16) := by kernel_rfl
theorem keyRow : ∃ i, Try.prog.info? 32 = some i ∧ i.zero = some (aggQ (0, 0)) ∧ i.size = 2 ∧ i.bytes = 16 := by
  obtain ⟨i, hi, h⟩ := Option.map_eq_some_iff.1 keyInfo'
  simp only [Prod.mk.injEq] at h
  exact ⟨i, hi, h.1, h.2.1, h.2.2⟩
/-- A row of the call's own, behind W0: what W0 had is as it was. -/
def GrowsQ (W0 : World) (A : Option Addr) (n c : Nat) (zs : List Ky) (W : World) : Prop := Below W0.heap.size W0 W ∧ W.ownsRow W0.heap.size 32 2 (.slice A n c) n (flatQ zs)
/-- Behind an append: the longer row; blocks but the old row's are as they were. -/
def PostQ (W0 X : World) (A0 : Option Addr) (A : Option Addr) (n c : Nat) (zs : List Ky) (W : World) : Prop :=
  GrowsQ W0 A n c zs W ∧ (∀ b ty cs, Lies X b ty cs → (∀ x, A0 = some x → x.block ≠ b) → Lies W b ty cs) ∧ ∀ x, A = some x → (∃ y, A0 = some y ∧ x.block = y.block) ∨ x.block = X.heap.size
section
variable {W0 W X : World} {A A0 : Option Addr} {n m c : Nat} {xs zs : List Ky} {b : Nat}
theorem GrowsQ.alloc (h : GrowsQ W0 A n c zs W) (o : Obj) : GrowsQ W0 A n c zs (W.alloc o) := ⟨h.1.alloc h.1.size o, h.2.alloc o⟩
theorem GrowsQ.nil (h : Below W0.heap.size W0 W) (hb : W.heap.size = b) : GrowsQ W0 (some ⟨b, 0, none⟩) 0 0 [] (W.alloc (.cells #[] 32)) := by
  subst hb
  exact ⟨h.alloc h.size _, World.ownsRow_lit W #[] 0 h.size (by unfold maxLen; omega) rfl⟩
theorem GrowsQ.keys (h : GrowsQ W0 A n c zs W) : Keys W A c zs := by
  have hlen := h.2.1
  rw [length_flatQ] at hlen
  have hn : n = zs.length := by omega
  obtain ⟨A', c', e, hc, hat⟩ := own_form h.2
  cases e
  refine ⟨by omega, fun h0 => ?_⟩
  obtain ⟨g, rfl, hcell⟩ := hat (by omega)
  refine ⟨g, 0, rfl, (own_lt h.2 rfl).2, fun i t hi j v hj => ?_⟩
  rw [Nat.zero_add]
  exact hcell _ _ (flatQ_at j v hi hj)
theorem GrowsQ.fresh (h : GrowsQ W0 A n c zs W) : ∀ x, A = some x → W0.heap.size ≤ x.block := fun x hx => by
  subst hx
  exact (own_lt h.2 (k := x.block) rfl).1
theorem lies_made {cs : Array Value} {ty : TypeId} (hb : W.heap.size = b) : Lies (W.alloc (.cells cs ty)) b ty cs := by subst hb; exact Lies.made _ _ _
end
theorem run_append_keys {w : World} (ty : TypeId) {base n m c : Nat} {v : Value} {xs l : List Ky} {sa : Option Addr} (ho : w.ownsRow base 32 2 v n (flatQ xs)) (hm : l.length = m) (hr : Keys w sa c l) (hb : n + m ≤ 2000) (hbase : base ≤ w.heap.size) :
    ∃ A cap w', (Builtin.append_ #[28, 28] ty #[v, .slice sa m c]).run Try.prog w = .ok (.slice A (n + m) cap) w' ∧ w'.ownsRow base 32 2 (.slice A (n + m) cap) (n + m) (flatQ (xs ++ l)) ∧ w.grownBy w' v.ownBlock ∧ ((Value.slice A (n + m) cap).ownBlock = v.ownBlock ∨ (Value.slice A (n + m) cap).ownBlock = some w.heap.size) := by
  obtain ⟨i, hi, hz, hs, hbt⟩ := keyRow
  by_cases h0 : m = 0
  · subst h0
    obtain rfl : l = [] := List.eq_nil_of_length_eq_zero hm
    have hl : ∀ (x : Addr), (loadCells x 0).run Try.prog w = .ok #[] w := fun x => by simpa using run_loadCells_list (P := Try.prog) w x [] (by simp)
    obtain ⟨A, cap, rfl, hnc, _⟩ := own_form ho
    refine ⟨A, cap, w, ?_, by simpa using ho, ⟨rfl, rfl, rfl, Nat.le_refl _, fun _ _ _ => rfl⟩, .inl rfl⟩
    cases A <;> cases sa <;> simp [Builtin.append_, run_underlying Try.underlying28, sizeOf, typeInfo, hi, hs, Builtin.lenOf, Builtin.firstCells, hl, hnc, storeCells]
  · obtain ⟨b, off, rfl, _, hc⟩ := hr.form (by omega)
    obtain ⟨g, cap, w', hrun, h1, h2, h3, _⟩ := run_append_lies (P := Try.prog) w 28 ty base 32 i _ 2 16 Try.underlying28 hi hz hs hbt rfl (by omega) v n (flatQ xs) ho ⟨b, off, none⟩ m c (flatQ l) (by rw [length_flatQ, hm]) (fun j u hu => by
        obtain ⟨i, t, k, h1, h2, rfl⟩ := flatQ_inv hu
        rw [Addr.add_lit, ← Nat.add_assoc]; exact hc i t h1 k u h2) (one_flatQ l) (by omega) (by unfold maxLen; omega) (by omega) hbase w.heap.size rfl
    refine ⟨_, cap, w', hrun, by rw [flatQ_append]; exact h1, h2, ?_⟩
    rcases h3 with h | h
    · exact .inl (by rw [h]; rfl)
    · exact .inr (by rw [h]; rfl)

theorem post_append {W0 X : World} {A0 : Option Addr} (ty : TypeId) {n m c c0 : Nat} {xs l : List Ky} {sa : Option Addr} (hG : GrowsQ W0 A0 n c0 xs X) (hm : l.length = m) (hr : Keys X sa c l) (hb : n + m ≤ 2000) :
    ∃ A cap w', (Builtin.append_ #[28, 28] ty #[.slice A0 n c0, .slice sa m c]).run Try.prog X = .ok (.slice A (n + m) cap) w' ∧ PostQ W0 X A0 A (n + m) cap (xs ++ l) w' := by
  obtain ⟨A, cap, w', hrun, h1, h2, h3⟩ := run_append_keys ty (c := c) hG.2 hm hr hb hG.1.size
  refine ⟨A, cap, w', hrun, ⟨Below.grown hG.1 h2 hG.1.size (fun k hk => (own_lt hG.2 hk).1), h1⟩, fun b t cs hL hne => ?_, fun x hx => ?_⟩
  · unfold Lies
    rw [h2.block b hL.lt (fun e => ?_)]
    · exact hL
    · cases A0 with
      | none => cases e
      | some x =>
        have : x.block = b := by simpa [Value.ownBlock] using e.symm
        exact hne x rfl this
  · subst hx
    rcases h3 with h | h
    · cases A0 with
      | none => cases h
      | some y => exact .inl ⟨y, rfl, by simpa [Value.ownBlock] using h⟩
    · exact .inr (by simpa [Value.ownBlock] using h)
theorem step_append_keys {X : World} {ops : Array Oper} {o : Oper} {a : Act} {K : Act → World → Prop} {Q : Exit → Act → World → Prop} {E : Prop} (hgd : o.guard = none) (s x : Operand)
    (hop : o.op = .call { callee := .builtin .append, args := #[s, x], argTypes := #[28, 28] })
    (W0 : World) (A0 : Option Addr) (n m c c0 N : Nat) (xs l : List Ky) (sa : Option Addr) (hs : a.eval s = .slice A0 n c0) (hx : a.eval x = .slice sa m c)
    (hG : GrowsQ W0 A0 n c0 xs X) (hm : l.length = m) (hr : Keys X sa c l) (hN : n + m = N) (hb : N ≤ 2000)
    (h : ∀ A cap w', PostQ W0 X A0 A N cap (xs ++ l) w' → K (a.put o.dst (.slice A N cap)) w') :
    if Region.wanted o (yielded ops a.tmps) = true then Oper.wp Try.prog o a X K Q else E := by
  have hw : Region.wanted o (yielded ops a.tmps) = true := by simp [Region.wanted, hgd]
  rw [if_pos hw]
  subst hN
  obtain ⟨A, cap, w', hrun, hl⟩ := post_append o.type (c := c) hG hm hr hb
  exact Lib.wp_append_run X s x 28 28 hop _ _ hs hx _ _ hrun (h A cap w' hl)
section
variable {W0 X W : World} {A0 A : Option Addr} {n c : Nat} {zs : List Ky}
theorem GrowsQ.bel (h : GrowsQ W0 A n c zs W) : Below W0.heap.size W0 W := h.1
theorem PostQ.grows (h : PostQ W0 X A0 A n c zs W) : GrowsQ W0 A n c zs W := h.1
theorem PostQ.bel (h : PostQ W0 X A0 A n c zs W) : Below W0.heap.size W0 W := h.1.1
theorem PostQ.keep (h : PostQ W0 X A0 A n c zs W) (b : Nat) (ty : TypeId) (cs : Array Value) (hL : Lies X b ty cs) (hne : ∀ x, A0 = some x → x.block ≠ b) : Lies W b ty cs := h.2.1 b ty cs hL hne
end
/-- As before, where what is appended was there ahead of the row. -/
theorem step_append_old {X : World} {ops : Array Oper} {o : Oper} {a : Act} {K : Act → World → Prop} {Q : Exit → Act → World → Prop} {E : Prop} (hgd : o.guard = none) (s x : Operand)
    (hop : o.op = .call { callee := .builtin .append, args := #[s, x], argTypes := #[28, 28] })
    (W0 : World) (A0 : Option Addr) (n m c c0 N : Nat) (xs l : List Ky) (sa : Option Addr) (hs : a.eval s = .slice A0 n c0) (hx : a.eval x = .slice sa m c)
    (hG : GrowsQ W0 A0 n c0 xs X) (hm : l.length = m) (hr : Keys W0 sa c l) (hN : n + m = N) (hb : N ≤ 2000)
    (h : ∀ A cap w', PostQ W0 X A0 A N cap (xs ++ l) w' → K (a.put o.dst (.slice A N cap)) w') :
    if Region.wanted o (yielded ops a.tmps) = true then Oper.wp Try.prog o a X K Q else E :=
  step_append_keys hgd s x hop W0 A0 n m c c0 N xs l sa hs hx hG hm (hr.below (Nat.le_refl _) hG.1) hN hb h

theorem GrowsQ.drew {W0 W : World} {A : Option Addr} {n c : Nat} {zs : List Ky} (h : GrowsQ W0 A n c zs W) : GrowsQ W0 A n c zs W.drew := ⟨below_drewN h.1 1, h.2⟩
theorem lies_drew {W : World} {b : Nat} {ty : TypeId} {cs : Array Value} (h : Lies W b ty cs) : Lies W.drew b ty cs := h
theorem drew_size (W : World) : W.drew.heap.size = W.heap.size := rfl
theorem Keys.setCell {W : World} {A : Option Addr} {c : Nat} {l : List Ky} (h : Keys W A c l) {p : Addr} (hp : ∀ x, A = some x → x.block ≠ p.block) (v : Value) : Keys (W.setCell p v) A c l := by
  refine ⟨h.le, fun h0 => ?_⟩
  obtain ⟨b, off, ha, hlt, hc⟩ := h.form h0
  refine ⟨b, off, ha, by simpa [World.setCell] using hlt, fun i t hi j v' hj => ?_⟩
  rw [World.cell?_setCell_far W p ⟨b, off + i * 2 + j, none⟩ v (fun e => hp ⟨b, off, none⟩ ha e.symm)]
  exact hc i t hi j v' hj
section
variable (X : World) (o o' : Obj) (ty : TypeId) (cs : Array Value)
theorem lies_m0 : Lies (X.alloc (.cells cs ty)) X.heap.size ty cs := lies_made rfl
theorem lies_m1 : Lies ((X.alloc o).alloc (.cells cs ty)) (X.heap.size + 1) ty cs := lies_made (by simp)
theorem lies_m2 : Lies (((X.alloc o).alloc o').alloc (.cells cs ty)) (X.heap.size + 1 + 1) ty cs := lies_made (by simp)
theorem grows_n0 : GrowsQ X (some ⟨X.heap.size, 0, none⟩) 0 0 [] (X.alloc (.cells #[] 32)) := GrowsQ.nil (Below.refl _ _) rfl
theorem grows_n1 : GrowsQ X (some ⟨X.heap.size + 1, 0, none⟩) 0 0 [] ((X.alloc o).alloc (.cells #[] 32)) := GrowsQ.nil (below_new _ _) (by simp)
theorem grows_n2 : GrowsQ X (some ⟨X.heap.size + 1 + 1, 0, none⟩) 0 0 [] (((X.alloc o).alloc o').alloc (.cells #[] 32)) := GrowsQ.nil ((below_new _ _).alloc (by simp) _) (by simp)
theorem block_ne {a b : Nat} (h : a ≠ b) : ∀ x : Addr, some (⟨a, 0, none⟩ : Addr) = some x → x.block ≠ b := fun x hx => by cases hx; exact h
theorem own_apart {X W : World} {A : Option Addr} {n c D : Nat} {zs : List Ky} (h : GrowsQ X A n c zs W) (hD : W.heap.size ≤ D) : ∀ x, A = some x → x.block ≠ D := fun x hx => by
  have := (own_lt h.2 (k := x.block) (by rw [hx]; rfl)).2
  omega
end
theorem Keys.turns {w w' : World} {S : Nat → Prop} {A : Option Addr} {c : Nat} {l : List Ky} (h : Keys w A c l) (ht : Turns S w w') (hS : ∀ x, A = some x → ¬ S x.block) : Keys w' A c l := by
  refine ⟨h.le, fun h0 => ?_⟩
  obtain ⟨b, off, ha, hlt, hc⟩ := h.form h0
  refine ⟨b, off, ha, Nat.lt_of_lt_of_le hlt ht.size, fun i t hi j v hj => ?_⟩
  have hh := ht.block b hlt (hS ⟨b, off, none⟩ ha)
  have : w'.cell? ⟨b, off + i * 2 + j, none⟩ = w.cell? ⟨b, off + i * 2 + j, none⟩ := by simp only [World.cell?, hh]
  rw [this]
  exact hc i t hi j v hj
theorem keys_2 {W : World} {b : Nat} (k0 k1 : Int) (h : Lies W b 32 #[.int .i64 k1, .int .i64 k0]) : Keys W (some ⟨b, 0, none⟩) 1 [(k0, k1)] := keys_row h rfl (by simp)
theorem GrowsQ.lower {w X W : World} {A : Option Addr} {n c : Nat} {zs : List Ky} (h : GrowsQ X A n c zs W) (hb : Below w.heap.size w X) : GrowsQ w A n c zs W := by
  refine ⟨hb.trans (h.1.mono hb.size), h.2.1, ?_⟩
  rcases h.2.2 with hn | ⟨g, cap, cur, e, hg, rest⟩
  · exact .inl hn
  · exact .inr ⟨g, cap, cur, e, Nat.le_trans hb.size hg, rest⟩
theorem Keys.drop {w : World} {b off c : Nat} {l : List Ky} (h : Keys w (some ⟨b, off, none⟩) c l) (j c' : Nat) (hc : l.length - j ≤ c') : Keys w (some ⟨b, off + j * 2, none⟩) c' (l.drop j) := by
  refine ⟨by rw [List.length_drop]; exact hc, fun h0 => ?_⟩
  rw [List.length_drop] at h0
  obtain ⟨b', off', e, hb, hat⟩ := h.form (by omega)
  cases e
  refine ⟨b, off + j * 2, rfl, hb, fun i t hi m v hm => ?_⟩
  rw [List.getElem?_drop] at hi
  have := hat _ t hi m v hm
  rw [show off + j * 2 + i * 2 + m = off + (j + i) * 2 + m by omega]; exact this
theorem below_d1 (X : World) (o : Obj) : Below X.heap.size X (X.alloc o).drew := below_drewN (below_new _ _) 1
theorem below_d2 (X : World) (o o' : Obj) : Below X.heap.size X ((X.alloc o).alloc o').drew := below_drewN ((below_new _ _).alloc (by simp) _) 1
end Go.Proofs.Ytlodfipiodlgdaa.Jb
