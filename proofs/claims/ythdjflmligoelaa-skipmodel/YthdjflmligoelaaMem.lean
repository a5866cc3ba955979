/- Words for memory, and a ring as it lies there: so many cells of a block (behind others, 'pre'), that hold where its places are, where the list begins and how long it is; a block of places. -/
import Derived.Test.YthdjflmligoelaaRows
import Derived.WalkKit
import Derived.Below
import Derived.Lib.Hide
import Derived.BigQuiet
import Derived.Deep.QuietTactic
import Derived.Deep.Draws
import Derived.Laws.Rows
import Derived.Laws.MakeOwn
namespace Go.Proofs.Ythdjflmligoelaa
open Go.RowKit

/-- Block b is just these cells; none of them is frozen. -/
def Lies (w : World) (b : Nat) (t : TypeId) (cs : Array Value) : Prop := w.heap[b]? = some (.cells cs t (0, 0))

/-- Of what was there only the blocks p and g have turned. -/
structure Turns (p g : Nat) (w w' : World) : Prop where
  os : w'.os = w.os
  tape : w'.tape = w.tape
  output : w'.output = w.output
  size : w.heap.size ≤ w'.heap.size
  block : ∀ k, k < w.heap.size → k ≠ p → k ≠ g → w'.heap[k]? = w.heap[k]?

section
variable {w w' w'' : World} {b p g : Nat} {t : TypeId} {cs : Array Value}
theorem Lies.lt (h : Lies w b t cs) : b < w.heap.size := by
  unfold Lies at h
  rcases Nat.lt_or_ge b w.heap.size with hlt | hge
  · exact hlt
  · rw [Array.getElem?_eq_none hge] at h; cases h
theorem Lies.cell (h : Lies w b t cs) (i : Nat) : w.cell? ⟨b, i, none⟩ = cs[i]? := cell_of_row w b i cs t (0, 0) h
theorem Lies.thawed (h : Lies w b t cs) (i : Nat) : w.frozen? ⟨b, i, none⟩ = false := by
  unfold Lies at h; simp [World.frozen?, h]
theorem Lies.drewN (h : Lies w b t cs) (n : Nat) : Lies (w.drewN n) b t cs := h
theorem Lies.made (w : World) (t : TypeId) (cs : Array Value) : Lies (w.alloc (.cells cs t)) w.heap.size t cs := heap_alloc_new w _
theorem Lies.alloc (h : Lies w b t cs) (o : Obj) : Lies (w.alloc o) b t cs := by
  unfold Lies; rw [Below.heap_alloc w o b h.lt]; exact h
theorem Lies.here (h : Lies w b t cs) (i : Nat) (u : Value) : Lies (w.setCell ⟨b, i, none⟩ u) b t (cs.setIfInBounds i u) := by
  unfold Lies at h ⊢; simp [World.setCell, Array.getElem?_modify, h]
theorem Lies.there (h : Lies w b t cs) {a : Addr} (ha : b ≠ a.block) (u : Value) : Lies (w.setCell a u) b t cs := by
  unfold Lies; rw [Below.heap_setCell w a u b ha]; exact h
theorem Lies.below {B : Nat} (h : Lies w b t cs) (hb : Below B w w') (hB : b < B) : Lies w' b t cs := by
  unfold Lies; rw [hb.block b hB]; exact h
theorem Lies.turns (h : Lies w b t cs) (ht : Turns p g w w') (hp : b ≠ p) (hg : b ≠ g) : Lies w' b t cs := by
  unfold Lies; rw [ht.block b h.lt hp hg]; exact h

theorem Turns.refl (p g : Nat) (w : World) : Turns p g w w := ⟨rfl, rfl, rfl, Nat.le_refl _, fun _ _ _ _ => rfl⟩
theorem Turns.trans (h : Turns p g w w') (k : Turns p g w' w'') : Turns p g w w'' :=
  ⟨k.os.trans h.os, k.tape.trans h.tape, k.output.trans h.output, Nat.le_trans h.size k.size,
   fun i hi h1 h2 => (k.block i (Nat.lt_of_lt_of_le hi h.size) h1 h2).trans (h.block i hi h1 h2)⟩
theorem Turns.drewN (h : Turns p g w w') (n : Nat) : Turns p g w (w'.drewN n) := ⟨h.os, h.tape, h.output, h.size, h.block⟩
theorem Turns.setCell (h : Turns p g w w') {a : Addr} (ha : a.block = p ∨ a.block = g) (u : Value) : Turns p g w (w'.setCell a u) :=
  ⟨h.os, h.tape, h.output, by simpa [World.setCell] using h.size, fun i hi h1 h2 => (Below.heap_setCell w' a u i (by rcases ha with e | e <;> omega)).trans (h.block i hi h1 h2)⟩
theorem Turns.below {B : Nat} (h : Turns p g w w') (hp : B ≤ p) (hg : B ≤ g) (hB : B ≤ w.heap.size) : Below B w w' :=
  ⟨h.os, h.tape, h.output, h.size, fun k hk => h.block k (by omega) (by omega) (by omega)⟩
theorem Turns.of_below (h : Below w.heap.size w w') : Turns p g w w' := ⟨h.os, h.tape, h.output, h.size, fun k hk _ _ => h.block k hk⟩
theorem Turns.size_of (h : Turns p g w w') {B : Nat} (hB : B ≤ w.heap.size) : B ≤ w'.heap.size := Nat.le_trans hB h.size
theorem below_drewN {B : Nat} (h : Below B w w') (n : Nat) : Below B w (w'.drewN n) := ⟨h.os, h.tape, h.output, h.size, h.block⟩
end

/-- A ring at p, its places at g: n of them, the list from place f on. -/
structure IsRing {α : Type} (emb : α → Value) (T E : TypeId) (pre : List Value) (w : World) (p g n f : Nat) (xs : List α) : Prop where
  ne : p ≠ g
  n1 : 1 ≤ n
  n2 : n ≤ 4096
  f1 : f < n
  len : xs.length ≤ n
  head : Lies w p T (pre ++ [Value.slice (some ⟨g, 0, none⟩) n n, Value.int .i64 (f : Int), Value.int .i64 (xs.length : Int)]).toArray
  body : ∃ cs, Lies w g E cs ∧ cs.size = n ∧ ∀ i u, xs[i]? = some u → cs[(f + i) % n]? = some (emb u)

namespace Rg
theorem round {f i n : Nat} (hf : f < n) (hi : i ≤ n) : (f + i) % n = if f + i < n then f + i else f + i - n := by
  split
  · rename_i h; exact Nat.mod_eq_of_lt h
  · rename_i h; rw [Nat.mod_eq_sub_mod (by omega), Nat.mod_eq_of_lt (by omega)]
theorem apart {f i j n : Nat} (hf : f < n) (hi : i < j) (hj : j < n) : (f + i) % n ≠ (f + j) % n := by
  rw [round hf (by omega), round hf (by omega)]; split <;> split <;> omega
theorem next {f i n : Nat} : ((f + 1) % n + i) % n = (f + (i + 1)) % n := by
  rw [Nat.mod_add_mod]; congr 1; omega
end Rg

section
variable {α : Type} {emb : α → Value} {T E : TypeId} {pre : List Value} {w w' : World} {p g n f : Nat} {xs : List α}
theorem IsRing.c0 (h : IsRing emb T E pre w p g n f xs) : w.cell? ⟨p, pre.length, none⟩ = some (.slice (some ⟨g, 0, none⟩) n n) := by rw [h.head.cell]; simp
theorem IsRing.c1 (h : IsRing emb T E pre w p g n f xs) : w.cell? ⟨p, pre.length + 1, none⟩ = some (.int .i64 (f : Int)) := by rw [h.head.cell]; simp
theorem IsRing.c2 (h : IsRing emb T E pre w p g n f xs) : w.cell? ⟨p, pre.length + 2, none⟩ = some (.int .i64 (xs.length : Int)) := by rw [h.head.cell]; simp
theorem IsRing.t (h : IsRing emb T E pre w p g n f xs) (i : Nat) : w.frozen? ⟨p, i, none⟩ = false := h.head.thawed i
theorem IsRing.at_ (h : IsRing emb T E pre w p g n f xs) {i : Nat} {u : α} (hu : xs[i]? = some u) : w.cell? ⟨g, (f + i) % n, none⟩ = some (emb u) := by
  obtain ⟨cs, hl, _, hc⟩ := h.body
  rw [hl.cell]; exact hc i u hu
theorem IsRing.some_ (h : IsRing emb T E pre w p g n f xs) {j : Nat} (hj : j < n) : ∃ u, w.cell? ⟨g, j, none⟩ = some u := by
  obtain ⟨cs, hl, hs, _⟩ := h.body
  rw [hl.cell]; exact ⟨cs[j], by simp [hs, hj]⟩
theorem IsRing.tg (h : IsRing emb T E pre w p g n f xs) (i : Nat) : w.frozen? ⟨g, i, none⟩ = false := by
  obtain ⟨cs, hl, _⟩ := h.body; exact hl.thawed i
theorem IsRing.ltp (h : IsRing emb T E pre w p g n f xs) : p < w.heap.size := h.head.lt
theorem IsRing.ltg (h : IsRing emb T E pre w p g n f xs) : g < w.heap.size := by obtain ⟨cs, hl, _⟩ := h.body; exact hl.lt
theorem IsRing.of_heap (h : IsRing emb T E pre w p g n f xs) (e : w'.heap = w.heap) : IsRing emb T E pre w' p g n f xs := by
  refine ⟨h.ne, h.n1, h.n2, h.f1, h.len, ?_, ?_⟩
  · unfold Lies; rw [e]; exact h.head
  · unfold Lies; rw [e]; exact h.body
theorem IsRing.drewN (h : IsRing emb T E pre w p g n f xs) (k : Nat) : IsRing emb T E pre (w.drewN k) p g n f xs := ⟨h.ne, h.n1, h.n2, h.f1, h.len, h.head, h.body⟩
theorem IsRing.below {B : Nat} (h : IsRing emb T E pre w p g n f xs) (hb : Below B w w') (hp : p < B) (hg : g < B) : IsRing emb T E pre w' p g n f xs := by
  obtain ⟨cs, hl, hs⟩ := h.body
  exact ⟨h.ne, h.n1, h.n2, h.f1, h.len, h.head.below hb hp, cs, hl.below hb hg, hs⟩
theorem IsRing.below_all (h : IsRing emb T E pre w p g n f xs) (hb : Below w.heap.size w w') : IsRing emb T E pre w' p g n f xs := h.below hb h.ltp h.ltg

/-- Behind a Put: the next place has x, and the length is one more. -/
theorem IsRing.put (h : IsRing emb T E pre w p g n f xs) (hlt : xs.length < n) (x : α) :
    IsRing emb T E pre ((w.setCell ⟨g, (f + xs.length) % n, none⟩ (emb x)).setCell ⟨p, pre.length + 2, none⟩ (.int .i64 ((xs.length : Int) + 1))) p g n f (xs ++ [x]) := by
  obtain ⟨cs, hl, hs, hc⟩ := h.body
  refine ⟨h.ne, h.n1, h.n2, h.f1, by simp; omega, ?_, cs.setIfInBounds ((f + xs.length) % n) (emb x), ?_, by simp [hs], ?_⟩
  · have := ((h.head.there (a := ⟨g, (f + xs.length) % n, none⟩) h.ne (emb x)).here (pre.length + 2) (.int .i64 ((xs.length : Int) + 1)))
    simpa using this
  · exact (hl.here _ (emb x)).there (a := ⟨p, pre.length + 2, none⟩) (Ne.symm h.ne) _
  · intro i u hu
    rw [Array.getElem?_setIfInBounds]
    by_cases hi : i < xs.length
    · rw [List.getElem?_append_left hi] at hu
      rw [if_neg (Ne.symm (Rg.apart h.f1 hi hlt))]
      exact hc i u hu
    · have : i = xs.length := by
        have := (List.getElem?_eq_some_iff.1 hu).1
        simp at this; omega
      subst this
      have hm : (f + xs.length) % n < n := Nat.mod_lt _ (by have := h.n1; omega)
      simp at hu
      simp [hs, hm, hu]

/-- Behind a Take: the first place is the zero, the list goes on one further. -/
theorem IsRing.take {x : α} (h : IsRing emb T E pre w p g n f (x :: xs)) (z : Value) :
    IsRing emb T E pre (((w.setCell ⟨g, f, none⟩ z).setCell ⟨p, pre.length + 1, none⟩ (.int .i64 (((f + 1) % n : Nat) : Int))).setCell ⟨p, pre.length + 2, none⟩ (.int .i64 (xs.length : Int))) p g n ((f + 1) % n) xs := by
  obtain ⟨cs, hl, hs, hc⟩ := h.body
  have hlen := h.len
  simp at hlen
  refine ⟨h.ne, h.n1, h.n2, Nat.mod_lt _ (by have := h.n1; omega), by omega, ?_, cs.setIfInBounds f z, ?_, by simp [hs], ?_⟩
  · have := (((h.head.there (a := ⟨g, f, none⟩) h.ne z).here (pre.length + 1) (.int .i64 (((f + 1) % n : Nat) : Int))).here (pre.length + 2) (.int .i64 (xs.length : Int)))
    simpa using this
  · exact ((hl.here _ z).there (a := ⟨p, pre.length + 1, none⟩) (Ne.symm h.ne) _).there (a := ⟨p, pre.length + 2, none⟩) (Ne.symm h.ne) _
  · intro i u hu
    have hi := (List.getElem?_eq_some_iff.1 hu).1
    rw [Rg.next, Array.getElem?_setIfInBounds]
    have h0 : (f + 0) % n ≠ (f + (i + 1)) % n := Rg.apart h.f1 (by omega) (by omega)
    rw [Nat.add_zero, Nat.mod_eq_of_lt h.f1] at h0
    rw [if_neg h0]
    exact hc (i + 1) u (by simpa using hu)
end

/-- It answers v; some draws were made, nothing else. -/
def Saw (v : Value) (w : World) (e : Ending) (w' : World) : Prop := e = .returned v ∧ ∃ m, w' = w.drewN m
/-- It answers v; the world stands. -/
def Says (v : Value) (w : World) (e : Ending) (w' : World) : Prop := e = .returned v ∧ w = w'
theorem ret_int {k : IntKind} {a b : Int} (h : a = b) : Ending.returned (.int k a) = .returned (.int k b) := by rw [h]
/-- What a skipper holds ahead of its window: kind, k, how many jobs, how often it failed. -/
structure Hd where
  kd : Int
  k : Int
  j : Int
  fl : Int
end Go.Proofs.Ythdjflmligoelaa
