/- A table, and beside it a list of texts in a row of the call's own. -/
import Derived.Test.YtfendnccnhmllaaKeeps
namespace Go.Proofs.Ytfendnccnhmllaa
open Go.RowKit

/-- A table with the names ys, and apart from it a row with the texts xs, both made behind w0. -/
def Both (w0 : World) (p room : Nat) (ys : List ByteArray) (A : Option Addr) (n c : Nat) (xs : List ByteArray) (W : World) : Prop :=
  ∃ S, Idx S w0.heap.size W p room ys ∧ W.ownsRow w0.heap.size 9 1 (.slice A n c) n (xs.map .string) ∧ (∀ b, (Value.slice A n c).ownBlock = some b → ¬ S b) ∧ Below w0.heap.size w0 W
/-- It answers v, and so they are. -/
def BothThen (v : Value) (w0 : World) (p room : Nat) (ys : List ByteArray) (A : Option Addr) (n c : Nat) (xs : List ByteArray) (e : Ending) (W : World) : Prop := e = .returned v ∧ Both w0 p room ys A n c xs W
section
variable {w0 W W' : World} {p room n c : Nat} {A : Option Addr} {xs ys : List ByteArray}
theorem Both.below (h : Both w0 p room ys A n c xs W) : Below w0.heap.size w0 W := let ⟨_, _, _, _, h4⟩ := h; h4
theorem Both.more (h : Both w0 p room ys A n c xs W) (hb : Below W.heap.size W W') : Both w0 p room ys A n c xs W' :=
  let ⟨S, h1, h2, h3, h4⟩ := h
  ⟨S, h1.more hb, own_same h2 (fun k hk => hb.block k (own_lt h2 hk).2), h3, h4.trans (hb.mono h4.size)⟩
theorem Both.drewN (h : Both w0 p room ys A n c xs W) (k : Nat) : Both w0 p room ys A n c xs (W.drewN k) := h.more (below_drewN (Below.refl _ _) k)
theorem Both.has (h : Both w0 p room ys A n c xs W) : Has w0 p room ys W := let ⟨S, h1, _, _, h4⟩ := h; ⟨⟨S, h1⟩, h4⟩
theorem Both.len (h : Both w0 p room ys A n c xs W) : n = xs.length := by
  obtain ⟨S, h1, h2, h3, h4⟩ := h
  have := h2.1
  simpa using this.symm
theorem Both.reads (h : Both w0 p room ys A n c xs W) : Reads W A xs := by
  obtain ⟨S, h1, h2, h3, h4⟩ := h
  obtain ⟨A', c', e, _, hr⟩ := Reads.own h2
  cases e
  exact hr
theorem Both.new (h : Has w0 p room ys W) : Both w0 p room ys none 0 0 [] W :=
  let ⟨S, h1⟩ := h.1
  ⟨S, h1, World.ownsRow_nil _ _ _ _, (fun _ hb => by cases hb), h.2⟩
theorem Both.saw {v : Value} {e : Ending} (h : Both w0 p room ys A n c xs W) (hs : Saw v W e W') : BothThen v w0 p room ys A n c xs e W' := by
  obtain ⟨rfl, m, rfl⟩ := hs
  exact ⟨rfl, h.drewN m⟩
theorem both_put (s : ByteArray) (hs : nm s = true) (hx : s ∉ ys) (hl : ys.length < room) (h : Both w0 p room ys A n c xs W) :
    Calls Try.prog 11 #[.pointer (some ⟨p, 0, none⟩), .string s] W (BothThen (.tuple #[.int .i64 (ys.length : Int), .int .i64 0]) w0 p room (ys ++ [s]) A n c xs) := by
  obtain ⟨S, h1, h2, h3, h4⟩ := h
  refine (put s hs hx hl h1).mono ?_
  rintro e W' ⟨rfl, ⟨S', hi, _, hS'⟩, ht⟩
  refine ⟨rfl, S', hi, own_same h2 (fun k hk => ht.block k (own_lt h2 hk).2 (h3 k hk)), fun b hb hS => ?_, h4.trans (ht.below (fun k hk => (h1.inS k hk).1) h4.size)⟩
  rcases hS' b hS with h | h
  · exact h3 b hb h
  · have := (own_lt h2 hb).2; omega
theorem both_put_arg (s : ByteArray) (hs : nm s = false) (h : Both w0 p room ys A n c xs W) :
    Calls Try.prog 11 #[.pointer (some ⟨p, 0, none⟩), .string s] W (BothThen (.tuple #[.int .i64 0, .int .i64 1]) w0 p room ys A n c xs) :=
  (put_arg s hs).mono fun _ _ hw => h.saw hw
theorem both_put_twice (s : ByteArray) (hs : nm s = true) (hx : s ∈ ys) (h : Both w0 p room ys A n c xs W) :
    Calls Try.prog 11 #[.pointer (some ⟨p, 0, none⟩), .string s] W (BothThen (.tuple #[.int .i64 0, .int .i64 7]) w0 p room ys A n c xs) :=
  let ⟨_, h1, _⟩ := h
  (put_twice s hs hx h1).mono fun _ _ hw => h.saw hw
theorem both_put_full (s : ByteArray) (hs : nm s = true) (hx : s ∉ ys) (hl : ys.length = room) (h : Both w0 p room ys A n c xs W) :
    Calls Try.prog 11 #[.pointer (some ⟨p, 0, none⟩), .string s] W (BothThen (.tuple #[.int .i64 0, .int .i64 3]) w0 p room ys A n c xs) :=
  let ⟨_, h1, _⟩ := h
  (put_full s hs hx hl h1).mono fun _ _ hw => h.saw hw
theorem both_find (s : ByteArray) (k : Nat) (hk : ys[k]? = some s) (h : Both w0 p room ys A n c xs W) :
    Calls Try.prog 14 #[.pointer (some ⟨p, 0, none⟩), .string s] W (BothThen (.tuple #[.int .i64 (k : Int), .bool true]) w0 p room ys A n c xs) :=
  let ⟨_, h1, _⟩ := h
  (find_yes s k hk h1).mono fun _ _ hw => h.saw hw
theorem both_find_no (s : ByteArray) (hs : s ∉ ys) (h : Both w0 p room ys A n c xs W) :
    Calls Try.prog 14 #[.pointer (some ⟨p, 0, none⟩), .string s] W (BothThen (.tuple #[.int .i64 0, .bool false]) w0 p room ys A n c xs) :=
  let ⟨_, h1, _⟩ := h
  (find_no s hs h1).mono fun _ _ hw => h.saw hw
theorem both_name (k : Nat) (s : ByteArray) (hk : ys[k]? = some s) (h : Both w0 p room ys A n c xs W) :
    Calls Try.prog 15 #[.pointer (some ⟨p, 0, none⟩), .int .i64 (k : Int)] W (Says (.tuple #[.string s, .bool true]) W) :=
  let ⟨_, h1, _⟩ := h
  name_yes k s hk h1
theorem both_name_no (i : Int) (hi : i < 0 ∨ (ys.length : Int) ≤ i) (h : Both w0 p room ys A n c xs W) :
    Calls Try.prog 15 #[.pointer (some ⟨p, 0, none⟩), .int .i64 i] W (Says (.tuple #[.string ⟨#[]⟩, .bool false]) W) :=
  let ⟨_, h1, _⟩ := h
  name_no i hi h1
/-- Behind 'append(m, s)'. -/
theorem Both.longer {s : ByteArray} {A' : Option Addr} {c' N : Nat} {base : Nat} (h : Both w0 p room ys A n c xs W) (hbase : base = w0.heap.size) (hl : Longer base (W.alloc (.cells #[.string s] 9)) (.slice A n c) N (xs ++ [s]) A' c' W') : Both w0 p room ys A' N c' (xs ++ [s]) W' := by
  subst hbase
  obtain ⟨S, h1, h2, h3, h4⟩ := h
  have keep : ∀ k, k < W.heap.size → (Value.slice A n c).ownBlock ≠ some k → W'.heap[k]? = W.heap[k]? := fun k hk hne => by
    rw [hl.2.1.block k (by simp; omega) (fun e => hne e.symm)]
    exact Below.heap_alloc W _ k hk
  refine ⟨S, h1.same (by have := hl.2.1.size; simp at this; omega) (fun k hk => keep k (h1.inS k hk).2 (fun e => h3 k e hk)), hl.1, fun b hb hS => ?_, hl.below (h4.alloc h4.size _) (by have := h4.size; simp; omega) (fun k hk => (own_lt h2 hk).1)⟩
  rcases hl.2.2 with h | h
  · exact h3 b (by rw [← h]; exact hb) hS
  · rw [h] at hb
    have := (h1.inS b hS).2
    simp at hb
    omega
end
end Go.Proofs.Ytfendnccnhmllaa
