/- A row of tasks of the call's own, made by appends, in whatever order its statement draws. -/
import Derived.Test.YtklnokhabomnfaaLt
import Derived.Test.YtklnokhabomnfaaRo
import Derived.Deep.AppendLies
import Derived.Deep.RegionHeld3
import Derived.Lib.AppendZeros
import Derived.Laws.OwnMore
namespace Go.Proofs.Ytklnokhabomnfaa
open Go.RowKit

theorem taskInfo' : ((Try.prog.info? 39).map fun i => (i.zero, i.size, i.bytes)) = some (some (aggK ⟨⟨#[]⟩, 0, 0, 0, 0, 0, 0, 0, 0, 0, 0⟩), 11, 96) := by kernel_rfl
theorem taskInfo : ∃ i, Try.prog.info? 39 = some i ∧ i.zero = some (aggK ⟨⟨#[]⟩, 0, 0, 0, 0, 0, 0, 0, 0, 0, 0⟩) ∧ i.size = 11 ∧ i.bytes = 96 := by
  obtain ⟨i, hi, h⟩ := Option.map_eq_some_iff.1 taskInfo'
  simp only [Prod.mk.injEq] at h
  exact ⟨i, hi, h.1, h.2.1, h.2.2⟩
theorem one_cellsK (t : Tk) : ∀ u ∈ cellsK t, u.oneCell' = true := by
  intro u hu
  simp only [cellsK, List.mem_cons, List.not_mem_nil, or_false] at hu
  rcases hu with rfl | rfl | rfl | rfl | rfl | rfl | rfl | rfl | rfl | rfl | rfl <;> rfl

section
variable {w w' : World} {B : Nat} {e : TypeId} {size : Nat} {v : Value} {n : Nat} {cs : List Value}
theorem own_formG (h : w.ownsRow B e size v n cs) : ∃ a cap, v = .slice a n cap ∧ n ≤ cap ∧ (0 < n → ∃ g, a = some ⟨g, 0, none⟩ ∧ ∀ j u, cs[j]? = some u → w.cell? ⟨g, j, none⟩ = some u) := by
  rcases h.2 with ⟨rfl, rfl⟩ | ⟨g, cap, cur, rfl, hb, hg, hnc, _, hsz, ht⟩
  · exact ⟨none, 0, rfl, Nat.le_refl _, fun h => by omega⟩
  · refine ⟨_, cap, rfl, hnc, fun _ => ⟨g, rfl, fun j u hu => ?_⟩⟩
    rw [cell_of_row w g j cur e (0, 0) hg]
    rw [← ht, List.getElem?_take] at hu
    split at hu
    · rw [← Array.getElem?_toList]; exact hu
    · cases hu
theorem own_ltG (h : w.ownsRow B e size v n cs) {k : Nat} (hk : v.ownBlock = some k) : B ≤ k ∧ k < w.heap.size := by
  rcases h.2 with ⟨rfl, _⟩ | ⟨g, cap, cur, rfl, hb, hg, _⟩
  · cases hk
  · have : g = k := by simpa [Value.ownBlock] using hk
    subst this
    refine ⟨hb, ?_⟩
    rcases Nat.lt_or_ge g w.heap.size with hlt | hge
    · exact hlt
    · rw [Array.getElem?_eq_none hge] at hg; cases hg
end
theorem one_flatK : ∀ l : List Tk, ∀ u ∈ flatK l, u.oneCell' = true
  | [], u, h => by simp [flatK] at h
  | t :: l, u, h => by
    rw [flatK, List.mem_append] at h
    rcases h with h | h
    · exact one_cellsK t u h
    · exact one_flatK l u h
theorem flatK_inv : ∀ {l : List Tk} {j : Nat} {u : Value}, (flatK l)[j]? = some u → ∃ i t k, l[i]? = some t ∧ (cellsK t)[k]? = some u ∧ j = i * 11 + k
  | [], j, u, h => by simp [flatK] at h
  | q :: l, j, u, h => by
    rw [flatK] at h
    by_cases hj : j < 11
    · rw [List.getElem?_append_left (by simp [cellsK]; omega)] at h
      exact ⟨0, q, j, rfl, h, by omega⟩
    · rw [List.getElem?_append_right (by simp [cellsK]; omega)] at h
      obtain ⟨i, t, k, h1, h2, h3⟩ := flatK_inv h
      have hlen : (cellsK q).length = 11 := rfl
      exact ⟨i + 1, t, k, by simpa using h1, h2, by omega⟩

/-- A row of the call's own, behind W0: what W0 had is as it was. -/
def GrowsT (W0 : World) (A : Option Addr) (n c : Nat) (zs : List Tk) (W : World) : Prop := Below W0.heap.size W0 W ∧ W.ownsRow W0.heap.size 39 11 (.slice A n c) n (flatK zs)
/-- Behind an append: the longer row; blocks but the old row's are as they were. -/
def PostT (W0 X : World) (A0 : Option Addr) (A : Option Addr) (n c : Nat) (zs : List Tk) (W : World) : Prop :=
  GrowsT W0 A n c zs W ∧ (∀ b ty cs, Lies X b ty cs → (∀ x, A0 = some x → x.block ≠ b) → Lies W b ty cs) ∧ ∀ x, A = some x → (∃ y, A0 = some y ∧ x.block = y.block) ∨ x.block = X.heap.size
section
variable {W0 W X : World} {A A0 : Option Addr} {n m c : Nat} {xs zs : List Tk} {b : Nat}
theorem GrowsT.alloc (h : GrowsT W0 A n c zs W) (o : Obj) : GrowsT W0 A n c zs (W.alloc o) := ⟨h.1.alloc h.1.size o, h.2.alloc o⟩
theorem GrowsT.nil (h : Below W0.heap.size W0 W) (hb : W.heap.size = b) : GrowsT W0 (some ⟨b, 0, none⟩) 0 0 [] (W.alloc (.cells #[] 39)) := by
  subst hb
  exact ⟨h.alloc h.size _, World.ownsRow_lit W #[] 0 h.size (by unfold maxLen; omega) rfl⟩
theorem GrowsT.tasks (h : GrowsT W0 A n c zs W) : Tasks W A c zs := by
  have hlen := h.2.1
  rw [length_flatK] at hlen
  have hn : n = zs.length := by omega
  obtain ⟨A', c', e, hc, hat⟩ := own_formG h.2
  cases e
  refine ⟨by omega, fun h0 => ?_⟩
  obtain ⟨g, rfl, hcell⟩ := hat (by omega)
  refine ⟨g, 0, rfl, (own_ltG h.2 rfl).2, fun i t hi j v hj => ?_⟩
  rw [Nat.zero_add]
  exact hcell _ _ (flatK_at j v hi hj)
theorem GrowsT.fresh (h : GrowsT W0 A n c zs W) : ∀ x, A = some x → W0.heap.size ≤ x.block := fun x hx => by
  subst hx
  exact (own_ltG h.2 (k := x.block) rfl).1
theorem lies_made {cs : Array Value} {ty : TypeId} (hb : W.heap.size = b) : Lies (W.alloc (.cells cs ty)) b ty cs := by subst hb; exact Lies.made _ _ _
def boxC (t : Tk) : Array Value := #[.string t.name, .int .i64 t.T, .int .i64 t.D, .int .i64 t.C, .int .i64 t.A, .int .i64 t.Seg, .int .i64 t.Cost, .int .i64 t.M, .int .i64 t.K, .int .i64 t.Mode, .int .i64 t.Prio]
theorem tasks_one {t : Tk} (h : Lies W b 39 (boxC t)) : Tasks W (some ⟨b, 0, none⟩) 1 [t] := tasks_row h (by simp [flatK, cellsK, boxC]) (by simp)
end

theorem run_append_tasks {w : World} (ty : TypeId) {base n m c : Nat} {v : Value} {xs l : List Tk} {sa : Option Addr} (ho : w.ownsRow base 39 11 v n (flatK xs)) (hm : l.length = m) (hr : Tasks w sa c l) (hb : n + m ≤ 2000) (hbase : base ≤ w.heap.size) :
    ∃ A cap w', (Builtin.append_ #[22, 22] ty #[v, .slice sa m c]).run Try.prog w = .ok (.slice A (n + m) cap) w' ∧ w'.ownsRow base 39 11 (.slice A (n + m) cap) (n + m) (flatK (xs ++ l)) ∧ w.grownBy w' v.ownBlock ∧ ((Value.slice A (n + m) cap).ownBlock = v.ownBlock ∨ (Value.slice A (n + m) cap).ownBlock = some w.heap.size) := by
  obtain ⟨i, hi, hz, hs, hbt⟩ := taskInfo
  by_cases h0 : m = 0
  · subst h0
    obtain rfl : l = [] := List.eq_nil_of_length_eq_zero hm
    have hl : ∀ (x : Addr), (loadCells x 0).run Try.prog w = .ok #[] w := fun x => by simpa using run_loadCells_list (P := Try.prog) w x [] (by simp)
    obtain ⟨A, cap, rfl, hnc, _⟩ := own_formG ho
    refine ⟨A, cap, w, ?_, by simpa using ho, ⟨rfl, rfl, rfl, Nat.le_refl _, fun _ _ _ => rfl⟩, .inl rfl⟩
    cases A <;> cases sa <;> simp [Builtin.append_, run_underlying Try.underlying22, sizeOf, typeInfo, hi, hs, Builtin.lenOf, Builtin.firstCells, hl, hnc, storeCells]
  · obtain ⟨b, off, rfl, _, hc⟩ := hr.form (by omega)
    obtain ⟨g, cap, w', hrun, h1, h2, h3, _⟩ := run_append_lies (P := Try.prog) w 22 ty base 39 i _ 11 96 Try.underlying22 hi hz hs hbt rfl (by omega) v n (flatK xs) ho ⟨b, off, none⟩ m c (flatK l) (by rw [length_flatK, hm]) (fun j u hu => by
        obtain ⟨i, t, k, h1, h2, rfl⟩ := flatK_inv hu
        rw [Addr.add_lit, ← Nat.add_assoc]; exact hc i t h1 k u h2) (one_flatK l) (by omega) (by unfold maxLen; omega) (by omega) hbase w.heap.size rfl
    refine ⟨_, cap, w', hrun, by rw [flatK_append]; exact h1, h2, ?_⟩
    rcases h3 with h | h
    · exact .inl (by rw [h]; rfl)
    · exact .inr (by rw [h]; rfl)

theorem post_append {W0 X : World} {A0 : Option Addr} (ty : TypeId) {n m c c0 : Nat} {xs l : List Tk} {sa : Option Addr} (hG : GrowsT W0 A0 n c0 xs X) (hm : l.length = m) (hr : Tasks X sa c l) (hb : n + m ≤ 2000) :
    ∃ A cap w', (Builtin.append_ #[22, 22] ty #[.slice A0 n c0, .slice sa m c]).run Try.prog X = .ok (.slice A (n + m) cap) w' ∧ PostT W0 X A0 A (n + m) cap (xs ++ l) w' := by
  obtain ⟨A, cap, w', hrun, h1, h2, h3⟩ := run_append_tasks ty (c := c) hG.2 hm hr hb hG.1.size
  refine ⟨A, cap, w', hrun, ⟨Below.grown hG.1 h2 hG.1.size (fun k hk => (own_ltG hG.2 hk).1), h1⟩, fun b t cs hL hne => ?_, fun x hx => ?_⟩
  · unfold Lies
    rw [h2.block b hL.lt (fun e => ?_)]
    · exact hL
    · cases A0 with
      | none => cases e
      | some x =>
        have : x.block = b := by simpa [Value.ownBlock] using e.symm
        exact hne x rfl this
  · subst hx
    rcases h3 with h | h
    · cases A0 with
      | none => cases h
      | some y => exact .inl ⟨y, rfl, by simpa [Value.ownBlock] using h⟩
    · exact .inr (by simpa [Value.ownBlock] using h)
theorem step_append_tasks {X : World} {ops : Array Oper} {o : Oper} {a : Act} {K : Act → World → Prop} {Q : Exit → Act → World → Prop} {E : Prop} (hgd : o.guard = none) (s x : Operand)
    (hop : o.op = .call { callee := .builtin .append, args := #[s, x], argTypes := #[22, 22] })
    (W0 : World) (A0 : Option Addr) (n m c c0 N : Nat) (xs l : List Tk) (sa : Option Addr) (hs : a.eval s = .slice A0 n c0) (hx : a.eval x = .slice sa m c)
    (hG : GrowsT W0 A0 n c0 xs X) (hm : l.length = m) (hr : Tasks X sa c l) (hN : n + m = N) (hb : N ≤ 2000)
    (h : ∀ A cap w', PostT W0 X A0 A N cap (xs ++ l) w' → K (a.put o.dst (.slice A N cap)) w') :
    if Region.wanted o (yielded ops a.tmps) = true then Oper.wp Try.prog o a X K Q else E := by
  have hw : Region.wanted o (yielded ops a.tmps) = true := by simp [Region.wanted, hgd]
  rw [if_pos hw]
  subst hN
  obtain ⟨A, cap, w', hrun, hl⟩ := post_append o.type (c := c) hG hm hr hb
  exact Lib.wp_append_run X s x 22 22 hop _ _ hs hx _ _ hrun (h A cap w' hl)
section
variable {W0 X W : World} {A0 A : Option Addr} {n c : Nat} {zs : List Tk}
theorem GrowsT.bel (h : GrowsT W0 A n c zs W) : Below W0.heap.size W0 W := h.1
theorem PostT.grows (h : PostT W0 X A0 A n c zs W) : GrowsT W0 A n c zs W := h.1
theorem PostT.bel (h : PostT W0 X A0 A n c zs W) : Below W0.heap.size W0 W := h.1.1
theorem PostT.keep (h : PostT W0 X A0 A n c zs W) (b : Nat) (ty : TypeId) (cs : Array Value) (hL : Lies X b ty cs) (hne : ∀ x, A0 = some x → x.block ≠ b) : Lies W b ty cs := h.2.1 b ty cs hL hne
end
/-- As before, where what is appended was there ahead of the row. -/
theorem step_append_old {X : World} {ops : Array Oper} {o : Oper} {a : Act} {K : Act → World → Prop} {Q : Exit → Act → World → Prop} {E : Prop} (hgd : o.guard = none) (s x : Operand)
    (hop : o.op = .call { callee := .builtin .append, args := #[s, x], argTypes := #[22, 22] })
    (W0 : World) (A0 : Option Addr) (n m c c0 N : Nat) (xs l : List Tk) (sa : Option Addr) (hs : a.eval s = .slice A0 n c0) (hx : a.eval x = .slice sa m c)
    (hG : GrowsT W0 A0 n c0 xs X) (hm : l.length = m) (hr : Tasks W0 sa c l) (hN : n + m = N) (hb : N ≤ 2000)
    (h : ∀ A cap w', PostT W0 X A0 A N cap (xs ++ l) w' → K (a.put o.dst (.slice A N cap)) w') :
    if Region.wanted o (yielded ops a.tmps) = true then Oper.wp Try.prog o a X K Q else E :=
  step_append_tasks hgd s x hop W0 A0 n m c c0 N xs l sa hs hx hG hm (hr.below (Nat.le_refl _) hG.1) hN hb h

theorem GrowsT.drew {W0 W : World} {A : Option Addr} {n c : Nat} {zs : List Tk} (h : GrowsT W0 A n c zs W) : GrowsT W0 A n c zs W.drew := ⟨below_drewN h.1 1, h.2⟩
theorem Lies.drew {W : World} {b : Nat} {ty : TypeId} {cs : Array Value} (h : Lies W b ty cs) : Lies W.drew b ty cs := h
theorem drew_size (W : World) : W.drew.heap.size = W.heap.size := rfl
theorem Tasks.setCell {W : World} {A : Option Addr} {c : Nat} {l : List Tk} (h : Tasks W A c l) {p : Addr} (hp : ∀ x, A = some x → x.block ≠ p.block) (v : Value) : Tasks (W.setCell p v) A c l := by
  refine ⟨h.le, fun h0 => ?_⟩
  obtain ⟨b, off, ha, hlt, hc⟩ := h.form h0
  refine ⟨b, off, ha, by simpa [World.setCell] using hlt, fun i t hi j v' hj => ?_⟩
  rw [World.cell?_setCell_far W p ⟨b, off + i * 11 + j, none⟩ v (fun e => hp ⟨b, off, none⟩ ha e.symm)]
  exact hc i t hi j v' hj
section
variable (X : World) (o o' : Obj) (ty : TypeId) (cs : Array Value)
theorem lies_m0 : Lies (X.alloc (.cells cs ty)) X.heap.size ty cs := lies_made rfl
theorem lies_m1 : Lies ((X.alloc o).alloc (.cells cs ty)) (X.heap.size + 1) ty cs := lies_made (by simp)
theorem lies_m2 : Lies (((X.alloc o).alloc o').alloc (.cells cs ty)) (X.heap.size + 1 + 1) ty cs := lies_made (by simp)
theorem grows_n0 : GrowsT X (some ⟨X.heap.size, 0, none⟩) 0 0 [] (X.alloc (.cells #[] 39)) := GrowsT.nil (Below.refl _ _) rfl
theorem grows_n1 : GrowsT X (some ⟨X.heap.size + 1, 0, none⟩) 0 0 [] ((X.alloc o).alloc (.cells #[] 39)) := GrowsT.nil (below_new _ _) (by simp)
theorem grows_n2 : GrowsT X (some ⟨X.heap.size + 1 + 1, 0, none⟩) 0 0 [] (((X.alloc o).alloc o').alloc (.cells #[] 39)) := GrowsT.nil ((below_new _ _).alloc (by simp) _) (by simp)
theorem block_ne {a b : Nat} (h : a ≠ b) : ∀ x : Addr, some (⟨a, 0, none⟩ : Addr) = some x → x.block ≠ b := fun x hx => by cases hx; exact h
theorem own_apart {X W : World} {A : Option Addr} {n c D : Nat} {zs : List Tk} (h : GrowsT X A n c zs W) (hD : W.heap.size ≤ D) : ∀ x, A = some x → x.block ≠ D := fun x hx => by
  have := (own_ltG h.2 (k := x.block) (by rw [hx]; rfl)).2
  omega
end
/-- A variable that was made on the way: it is as it was made, and lies apart from the row. -/
def VarT (X W : World) (D : Nat) (A : Option Addr) : Prop := Lies W D 24 #[.int .i64 0, .slice none 0 0] ∧ X.heap.size ≤ D ∧ ∀ x, A = some x → x.block ≠ D
section
variable {X W W' : World} {A2 A3 : Option Addr} {N c D : Nat} {zs : List Tk}
theorem PostT.varOf (hp : PostT X W A2 A3 N c zs W') (hL : Lies W D 24 #[.int .i64 0, .slice none 0 0]) (hge : X.heap.size ≤ D) (hne : ∀ x, A2 = some x → x.block ≠ D) : VarT X W' D A3 :=
  ⟨hp.2.1 D _ _ hL hne, hge, fun x hx => by
    rcases hp.2.2 x hx with ⟨y, hy, h⟩ | h
    · rw [h]; exact hne y hy
    · have := hL.lt; omega⟩
theorem PostT.apart (hp : PostT X W A2 A3 N c zs W') (hL : Lies W D 24 #[.int .i64 0, .slice none 0 0]) (hne : ∀ x, A2 = some x → x.block ≠ D) : ∀ x, A3 = some x → x.block ≠ D := fun x hx => by
  rcases hp.2.2 x hx with ⟨y, hy, h⟩ | h
  · rw [h]; exact hne y hy
  · have := hL.lt; omega
theorem below_d1 (X : World) (o : Obj) : Below X.heap.size X (X.alloc o).drew := below_drewN (below_new _ _) 1
theorem below_d2 (X : World) (o o' : Obj) : Below X.heap.size X ((X.alloc o).alloc o').drew := below_drewN ((below_new _ _).alloc (by simp) _) 1
theorem below_d3 (X : World) (o o' o'' : Obj) : Below X.heap.size X (((X.alloc o).alloc o').alloc o'').drew := below_drewN (((below_new _ _).alloc (by simp) _).alloc (by simp; omega) _) 1
theorem PostT.early_below (hp : PostT X W A2 A3 N c zs W') (hv : VarT X W' D A3) (u v : Value) : Below X.heap.size X ((W'.setCell ⟨D, 0, none⟩ u).setCell ⟨D, 1, none⟩ v) :=
  (hp.1.1.setCell (p := ⟨D, 0, none⟩) hv.2.1 _).setCell (p := ⟨D, 1, none⟩) hv.2.1 _
theorem PostT.varE {Xp w4 : World} {A0 : Option Addr} {k c2 : Nat} {zs2 : List Tk} (hp2 : PostT X Xp A0 A2 k c2 zs2 w4) (hp3 : PostT X W A2 A3 N c zs W') (hL : Lies Xp D 24 #[.int .i64 0, .slice none 0 0]) (hW : Lies w4 D 24 #[.int .i64 0, .slice none 0 0] → Lies W D 24 #[.int .i64 0, .slice none 0 0]) (hne : ∀ x, A0 = some x → x.block ≠ D) (hge : X.heap.size ≤ D) : VarT X W' D A3 :=
  hp3.varOf (hW (hp2.2.1 _ _ _ hL hne)) hge (hp2.apart hL hne)
theorem PostT.varB {Xp w4 : World} {A0 : Option Addr} {k c2 : Nat} {zs2 : List Tk} (hp2 : PostT X Xp A0 A2 k c2 zs2 w4) (hp3 : PostT X W A2 A3 N c zs W') (hL : Lies W D 24 #[.int .i64 0, .slice none 0 0]) (hge : w4.heap.size ≤ D) : VarT X W' D A3 :=
  hp3.varOf hL (Nat.le_trans hp2.1.1.size hge) (own_apart hp2.1 hge)
theorem tasks_11 {b : Nat} (n : ByteArray) (t1 t2 t3 t4 t5 t6 t7 t8 t9 t10 : Int) (h : Lies W b 39 #[.string n, .int .i64 t1, .int .i64 t2, .int .i64 t3, .int .i64 t4, .int .i64 t5, .int .i64 t6, .int .i64 t7, .int .i64 t8, .int .i64 t9, .int .i64 t10]) : Tasks W (some ⟨b, 0, none⟩) 1 [⟨n, t1, t2, t3, t4, t5, t6, t7, t8, t9, t10⟩] := tasks_one h
/-- A set in a variable of its own. -/
def SetT (X : World) (b : Int) (N : Nat) (zs : List Tk) (s : Value) (W : World) : Prop :=
  ∃ (g : Nat) (A : Option Addr) (c : Nat), s = .pointer (some ⟨g, 0, none⟩) ∧ Lies W g 24 #[.int .i64 b, .slice A N c] ∧ Tasks W A c zs ∧ Below X.heap.size X W
theorem PostT.late (hp : PostT X W A2 A3 N c zs W') (b : Int) : SetT X b N zs (.pointer (some ⟨W'.heap.size, 0, none⟩)) (W'.alloc (.cells #[.int .i64 b, .slice A3 N c] 24)) :=
  ⟨_, A3, c, rfl, Lies.made _ _ _, hp.1.tasks.below (Nat.le_refl _) (below_new _ _), hp.1.1.alloc hp.1.1.size _⟩
theorem PostT.early (hp : PostT X W A2 A3 N c zs W') (hv : VarT X W' D A3) (b : Int) : SetT X b N zs (.pointer (some ⟨D, 0, none⟩)) ((W'.setCell ⟨D, 0, none⟩ (.int .i64 b)).setCell ⟨D, 1, none⟩ (.slice A3 N c)) :=
  ⟨D, A3, c, rfl, (hv.1.here 0 _).here 1 _, (hp.1.tasks.setCell (p := ⟨D, 0, none⟩) hv.2.2 _).setCell (p := ⟨D, 1, none⟩) hv.2.2 _, (hp.1.1.setCell (p := ⟨D, 0, none⟩) hv.2.1 _).setCell (p := ⟨D, 1, none⟩) hv.2.1 _⟩
end
end Go.Proofs.Ytklnokhabomnfaa
