/- Tasks in a row of the call's own; the reader with all that it has read. -/
import Derived.Test.YtbijgmaeechmoaaDoorRn
import Derived.Test.YtbijgmaeechmoaaDoorLPt
namespace Go.Proofs.YtbijgmaeechmoaaDoor
open Go.RowKit Lx Kx
set_option maxRecDepth 100000

def boxC (t : Tk) : Array Value := (cellsK t).toArray
def flatK : List Tk → List Value
  | [] => []
  | t :: l => cellsK t ++ flatK l
theorem length_flatK : ∀ l, (flatK l).length = l.length * 11
  | [] => rfl
  | t :: l => by simp [flatK, cellsK, length_flatK l]; omega
theorem flatK_append : ∀ a b, flatK (a ++ b) = flatK a ++ flatK b
  | [], _ => rfl
  | t :: a, b => by simp [flatK, flatK_append a b]
theorem flatK_at : ∀ {l : List Tk} {i : Nat} {t : Tk} (j : Nat) (v : Value), l[i]? = some t → (cellsK t)[j]? = some v → (flatK l)[i * 11 + j]? = some v
  | [], i, t, j, v, h, _ => by simp at h
  | q :: l, 0, t, j, v, h, hj => by
    have : q = t := by simpa using h
    subst this
    have hlt : j < (cellsK q).length := (List.getElem?_eq_some_iff.1 hj).1
    rw [flatK, Nat.zero_mul, Nat.zero_add, List.getElem?_append_left hlt]; exact hj
  | q :: l, i + 1, t, j, v, h, hj => by
    rw [flatK, List.getElem?_append_right (by simp [cellsK]; omega), show (i + 1) * 11 + j - (cellsK q).length = i * 11 + j by simp [cellsK]; omega]
    exact flatK_at j v (by simpa using h) hj
theorem one_cellsK (t : Tk) : ∀ u ∈ cellsK t, u.oneCell' = true := by
  intro u hu
  simp only [cellsK, List.mem_cons, List.not_mem_nil, or_false] at hu
  rcases hu with rfl | rfl | rfl | rfl | rfl | rfl | rfl | rfl | rfl | rfl | rfl <;> rfl
theorem taskInfo' : ((Tryd.prog.info? 26).map fun i => (i.zero, i.size, i.bytes)) = some (some (aggK ⟨⟨#[]⟩, 0, 0, 0, 0, 0, 0, 0, 0, 0, 0⟩), 11, 96) := by kernel_rfl
theorem taskInfo : ∃ i, Tryd.prog.info? 26 = some i ∧ i.zero = some (aggK ⟨⟨#[]⟩, 0, 0, 0, 0, 0, 0, 0, 0, 0, 0⟩) ∧ i.size = 11 ∧ i.bytes = 96 := by
  obtain ⟨i, hi, h⟩ := Option.map_eq_some_iff.1 taskInfo'
  simp only [Prod.mk.injEq] at h
  exact ⟨i, hi, h.1, h.2.1, h.2.2⟩

/-- How a row of tasks stands behind an append. -/
def LongerK (base : Nat) (w : World) (v : Value) (n : Nat) (zs : List Tk) (A : Option Addr) (cap : Nat) (w' : World) : Prop :=
  w'.ownsRow base 26 11 (.slice A n cap) n (flatK zs) ∧ w.grownBy w' v.ownBlock ∧ ((Value.slice A n cap).ownBlock = v.ownBlock ∨ (Value.slice A n cap).ownBlock = some w.heap.size)
theorem run_append_task {w : World} (ty : TypeId) {base n c b : Nat} {v : Value} {xs : List Tk} {t : Tk} (ho : w.ownsRow base 26 11 v n (flatK xs)) (hb : Lies w b 26 (boxC t)) (hn : n ≤ 1000000) (hbase : base ≤ w.heap.size) :
    ∃ A cap w', (Builtin.append_ #[22, 22] ty #[v, .slice (some ⟨b, 0, none⟩) 1 c]).run Tryd.prog w = .ok (.slice A (n + 1) cap) w' ∧ LongerK base w v (n + 1) (xs ++ [t]) A cap w' := by
  obtain ⟨i, hi, hz, hs, hbt⟩ := taskInfo
  obtain ⟨g, cap, w', hrun, h1, h2, h3, h4⟩ := run_append_lies (P := Tryd.prog) w 22 ty base 26 i _ 11 96 Tryd.underlying22 hi hz hs hbt rfl (by omega) v n (flatK xs) ho ⟨b, 0, none⟩ 1 c (cellsK t) rfl (fun j u hu => by
      rw [Addr.add_lit, Nat.zero_add, hb.cell, ← Array.getElem?_toList]; exact hu) (one_cellsK t) (by omega) (by unfold maxLen; omega) (by omega) hbase w.heap.size rfl
  refine ⟨_, cap, w', hrun, by rw [flatK_append]; simpa [flatK] using h1, h2, ?_⟩
  rcases h3 with h | h
  · exact .inl (by rw [h]; rfl)
  · exact .inr (by rw [h]; rfl)
theorem step_append_task {w : World} {ops : Array Oper} {o : Oper} {a : Act} {K : Act → World → Prop} {Q : Exit → Act → World → Prop} {E : Prop} (hgd : o.guard = none) (s x : Operand)
    (hop : o.op = .call { callee := .builtin .append, args := #[s, x], argTypes := #[22, 22] })
    (base n c N b : Nat) (v : Value) (xs : List Tk) (t : Tk) (hs : a.eval s = v) (hx : a.eval x = .slice (some ⟨b, 0, none⟩) 1 c)
    (ho : w.ownsRow base 26 11 v n (flatK xs)) (hb : Lies w b 26 (boxC t)) (hN : n + 1 = N) (hn : n ≤ 1000000) (hbase : base ≤ w.heap.size)
    (h : ∀ A cap w', LongerK base w v N (xs ++ [t]) A cap w' → K (a.put o.dst (.slice A N cap)) w') :
    if Region.wanted o (yielded ops a.tmps) = true then Oper.wp Tryd.prog o a w K Q else E := by
  have hw : Region.wanted o (yielded ops a.tmps) = true := by simp [Region.wanted, hgd]
  rw [if_pos hw]
  subst hN
  obtain ⟨A, cap, w', hrun, hl⟩ := run_append_task o.type (c := c) ho hb hn hbase
  exact Lib.wp_append_run w s x 22 22 hop _ _ hs hx _ _ hrun (h A cap w' hl)
theorem lies_longerK {W w1 : World} {base g n c : Nat} {t : TypeId} {cs : Array Value} {v : Value} {zs : List Tk} {A : Option Addr} (hL : Lies W g t cs) (hl : LongerK base W v n zs A c w1) (hv : v.ownBlock ≠ some g) : Lies w1 g t cs := by
  unfold Lies; rw [hl.2.1.block g hL.lt (fun e => hv e.symm)]; exact hL
theorem tasks_own {w : World} {B n : Nat} {v : Value} {l : List Tk} (h : w.ownsRow B 26 11 v n (flatK l)) : ∃ A c, v = .slice A l.length c ∧ n = l.length ∧ Tasks w A c l ∧ ∀ x, A = some x → B ≤ x.block := by
  have hlen := h.1
  rw [length_flatK] at hlen
  have hn : n = l.length := by omega
  obtain ⟨A, c, rfl, hc, hat⟩ := own_form h
  refine ⟨A, c, by rw [hn], hn, ⟨by omega, fun h0 => ?_⟩, fun x hx => ?_⟩
  · obtain ⟨g, rfl, hcell⟩ := hat (by omega)
    refine ⟨g, 0, rfl, (own_lt h rfl).2, fun i t hi j v hj => ?_⟩
    rw [Nat.zero_add]
    exact hcell _ _ (flatK_at j v hi hj)
  · subst hx
    exact (own_lt h (k := x.block) rfl).1

/-- The two rows that a reader has. -/
structure Rows (w0 : World) (g : Nat) (T F : Value) (hs : List Tok) (l : List Tk) (w : World) : Prop where
  tasks : w.ownsRow w0.heap.size 26 11 T l.length (flatK l)
  firsts : w.ownsRow w0.heap.size 61 5 F hs.length (flatT hs)
  tg : T.ownBlock ≠ some g
  fg : F.ownBlock ≠ some g
  tf : ∀ y, T.ownBlock = some y → F.ownBlock ≠ some y
theorem Rows.turns {w0 w w' : World} {g : Nat} {T F : Value} {hs : List Tok} {l : List Tk} (h : Rows w0 g T F hs l w) (ht : Turns (fun i => i = g) w w') : Rows w0 g T F hs l w' := by
  refine ⟨own_same h.tasks (fun k hk => ht.block k (own_lt h.tasks hk).2 (fun e => h.tg (by rw [hk, e]))), own_same h.firsts (fun k hk => ht.block k (own_lt h.firsts hk).2 (fun e => h.fg (by rw [hk, e]))), h.tg, h.fg, h.tf⟩
/-- The reader at g: token k is next; Burst, its token, the first words, the tasks. -/
def Rd (w0 : World) (g : Nat) (A : Option Addr) (c : Nat) (ts : List Tok) (k : Nat) (B : Int) (b : Tok) (hs : List Tok) (l : List Tk) (w : World) : Prop :=
  ∃ T F, Rs w0 g A c ts ⟨B, T, b, F⟩ k w ∧ Rows w0 g T F hs l w
end Go.Proofs.YtbijgmaeechmoaaDoor
