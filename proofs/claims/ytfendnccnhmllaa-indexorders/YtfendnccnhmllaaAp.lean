/- Texts appended to a row of the call's own: none, one or many, whatever room there is. -/
import Derived.Test.YtfendnccnhmllaaHas
namespace Go.Proofs.Ytfendnccnhmllaa
open Go.RowKit

/-- How a row stands behind an append: it is the old one, or a new one. -/
def Longer (base : Nat) (w : World) (v : Value) (n : Nat) (zs : List ByteArray) (A : Option Addr) (cap : Nat) (w' : World) : Prop :=
  w'.ownsRow base 9 1 (.slice A n cap) n (zs.map .string) ∧ w.grownBy w' v.ownBlock ∧ ((Value.slice A n cap).ownBlock = v.ownBlock ∨ (Value.slice A n cap).ownBlock = some w.heap.size)

theorem run_append_any {w : World} (ty : TypeId) {base n m c : Nat} {v : Value} {xs l : List ByteArray} {sa : Option Addr} (ho : w.ownsRow base 9 1 v n (xs.map .string)) (hm : l.length = m) (hr : Reads w sa l) (hb : n + m ≤ 2000) (hbase : base ≤ w.heap.size) :
    ∃ A cap w', (Builtin.append_ #[22, 22] ty #[v, .slice sa m c]).run Try.prog w = .ok (.slice A (n + m) cap) w' ∧ Longer base w v (n + m) (xs ++ l) A cap w' := by
  obtain ⟨i, hi, hz, hs, hbt⟩ := textInfo
  by_cases h0 : m = 0
  · subst h0
    obtain rfl : l = [] := List.eq_nil_of_length_eq_zero hm
    have hl : ∀ (x : Addr), (loadCells x 0).run Try.prog w = .ok #[] w := fun x => by simpa using run_loadCells_list (P := Try.prog) w x [] (by simp)
    obtain ⟨A, cap, rfl, hnc, _⟩ := own_form ho
    refine ⟨A, cap, w, ?_, by simpa using ho, ⟨rfl, rfl, rfl, Nat.le_refl _, fun _ _ _ => rfl⟩, .inl rfl⟩
    cases A <;> cases sa <;> simp [Builtin.append_, run_underlying Try.underlying22, sizeOf, typeInfo, hi, hs, Builtin.lenOf, Builtin.firstCells, hl, hnc, storeCells]
  · obtain ⟨b, off, rfl, _, hc⟩ := hr (by omega)
    obtain ⟨g, cap, w', hrun, h1, h2, h3, h4⟩ := run_append_lies (P := Try.prog) w 22 ty base 9 i _ 1 16 Try.underlying22 hi hz hs hbt rfl (by omega) v n (xs.map .string) ho ⟨b, off, none⟩ m c (l.map .string) (by simp [hm]) (fun j u hu => by
        rw [List.getElem?_map] at hu
        obtain ⟨z, hz', rfl⟩ := Option.map_eq_some_iff.1 hu
        rw [Addr.add_lit]; exact hc j z hz') (fun u hu => by
        obtain ⟨z, _, rfl⟩ := List.mem_map.1 hu
        rfl) (by omega) (by unfold maxLen; omega) (by omega) hbase w.heap.size rfl
    refine ⟨_, cap, w', hrun, by rw [List.map_append]; exact h1, h2, ?_⟩
    rcases h3 with h | h
    · exact .inl (by rw [h]; rfl)
    · exact .inr (by rw [h]; rfl)

theorem wpList_append_any {w : World} {ops : Array Oper} {rest : List Oper} {o : Oper} {a : Act} {Q : Exit → Act → World → Prop} (hgd : o.guard = none) (s x : Operand)
    (hop : o.op = .call { callee := .builtin .append, args := #[s, x], argTypes := #[22, 22] })
    (base n m c N : Nat) (v : Value) (xs l : List ByteArray) (sa : Option Addr) (hs : a.eval s = v) (hx : a.eval x = .slice sa m c)
    (ho : w.ownsRow base 9 1 v n (xs.map .string)) (hm : l.length = m) (hr : Reads w sa l) (hN : n + m = N) (hb : N ≤ 2000) (hbase : base ≤ w.heap.size)
    (h : ∀ A cap w', Longer base w v N (xs ++ l) A cap w' → wpList Try.prog ops Q rest (a.put o.dst (.slice A N cap)) w') : wpList Try.prog ops Q (o :: rest) a w := by
  subst hN
  obtain ⟨A, cap, w', hrun, hl⟩ := run_append_any o.type (c := c) ho hm hr hb hbase
  exact Lib.wpList_append_run w hgd s x 22 22 hop _ _ hs hx _ _ hrun (h A cap w' hl)

theorem step_append_any {w : World} {ops : Array Oper} {o : Oper} {a : Act} {K : Act → World → Prop} {Q : Exit → Act → World → Prop} {E : Prop} (hgd : o.guard = none) (s x : Operand)
    (hop : o.op = .call { callee := .builtin .append, args := #[s, x], argTypes := #[22, 22] })
    (base n m c N : Nat) (v : Value) (xs l : List ByteArray) (sa : Option Addr) (hs : a.eval s = v) (hx : a.eval x = .slice sa m c)
    (ho : w.ownsRow base 9 1 v n (xs.map .string)) (hm : l.length = m) (hr : Reads w sa l) (hN : n + m = N) (hb : N ≤ 2000) (hbase : base ≤ w.heap.size)
    (h : ∀ A cap w', Longer base w v N (xs ++ l) A cap w' → K (a.put o.dst (.slice A N cap)) w') :
    if Region.wanted o (yielded ops a.tmps) = true then Oper.wp Try.prog o a w K Q else E := by
  have hw : Region.wanted o (yielded ops a.tmps) = true := by simp [Region.wanted, hgd]
  rw [if_pos hw]
  subst hN
  obtain ⟨A, cap, w', hrun, hl⟩ := run_append_any o.type (c := c) ho hm hr hb hbase
  exact Lib.wp_append_run w s x 22 22 hop _ _ hs hx _ _ hrun (h A cap w' hl)

theorem Longer.below {base B : Nat} {w0 w w' : World} {v : Value} {n : Nat} {zs : List ByteArray} {A : Option Addr} {cap : Nat} (h : Longer base w v n zs A cap w') (hb : Below B w0 w) (hB : B ≤ w.heap.size) (hv : ∀ k, v.ownBlock = some k → B ≤ k) : Below B w0 w' :=
  Below.grown hb h.2.1 hB hv
end Go.Proofs.Ytfendnccnhmllaa
