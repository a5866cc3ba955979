/- Bytes appended to a row of the call's own; a text as bytes. -/
import Derived.Test.YteolepmopajamaaLAw
import Derived.Lib.AppendZerosOnto
import Derived.Laws.OwnMore
namespace Go.Proofs.Yteolepmopajamaa.Lx
open Go.RowKit

theorem byteInfo : ∃ i z, Try.prog.info? 5 = some i ∧ i.zero = some z ∧ i.size = 1 ∧ i.bytes = 1 ∧ z.cells.size = 1 := ⟨_, _, rfl, rfl, rfl, rfl, rfl⟩
theorem bytesV_append (a b : List UInt8) : bytesV (a ++ b) = bytesV a ++ bytesV b := by simp [bytesV]
theorem length_bytesV (l : List UInt8) : (bytesV l).length = l.length := by simp [bytesV]
theorem bytesV_at {l : List UInt8} {i : Nat} {c : UInt8} (h : l[i]? = some c) : (bytesV l)[i]? = some (.int .u8 (c.toNat : Int)) := by simp [bytesV, h]
/-- A row of the call's own reads as its bytes. -/
theorem Bytes.own {w : World} {B n c : Nat} {A : Option Addr} {l : List UInt8} (h : w.ownsRow B 5 1 (.slice A n c) n (bytesV l)) : n = l.length ∧ Bytes w A c l := by
  have hlen := h.1
  rw [length_bytesV] at hlen
  have hn : n = l.length := by omega
  refine ⟨hn, ?_⟩
  rcases h.2 with ⟨e, h0⟩ | ⟨g, cap, cur, e, hb, hg, hnc, _, hsz, ht⟩
  · cases e
    exact ⟨by omega, .inl rfl⟩
  · cases e
    refine ⟨by omega, .inr ⟨g, 0, rfl, lt_of_block hg, fun i x hi => ?_⟩⟩
    rw [Nat.zero_add, cell_of_row w g i cur 5 (0, 0) hg]
    have hu := bytesV_at hi
    rw [← ht, List.getElem?_take] at hu
    split at hu
    · rw [← Array.getElem?_toList]; exact hu
    · cases hu

/-- How a row of bytes stands behind an append. -/
def LongerB (base : Nat) (w : World) (v : Value) (n : Nat) (zs : List UInt8) (A : Option Addr) (cap : Nat) (w' : World) : Prop :=
  w'.ownsRow base 5 1 (.slice A n cap) n (bytesV zs) ∧ w.grownBy w' v.ownBlock ∧ ((Value.slice A n cap).ownBlock = v.ownBlock ∨ (Value.slice A n cap).ownBlock = some w.heap.size)
theorem LongerB.below {base B : Nat} {w0 w w' : World} {v : Value} {n : Nat} {zs : List UInt8} {A : Option Addr} {cap : Nat} (h : LongerB base w v n zs A cap w') (hb : Below B w0 w) (hB : B ≤ w.heap.size) (hv : ∀ k, v.ownBlock = some k → B ≤ k) : Below B w0 w' :=
  Below.grown hb h.2.1 hB hv

theorem run_append_bytes {w : World} (ty : TypeId) {base n m c : Nat} {v : Value} {xs l : List UInt8} {sa : Option Addr} (ho : w.ownsRow base 5 1 v n (bytesV xs)) (hm : l.length = m) (hr : Bytes w sa c l) (hb : n + m ≤ 1000000) (hbase : base ≤ w.heap.size) :
    ∃ A cap w', (Builtin.append_ #[22, 22] ty #[v, .slice sa m c]).run Try.prog w = .ok (.slice A (n + m) cap) w' ∧ LongerB base w v (n + m) (xs ++ l) A cap w' := by
  obtain ⟨i, z, hi, hz, hs, hbt, hzs⟩ := byteInfo
  by_cases h0 : m = 0
  · subst h0
    obtain rfl : l = [] := List.eq_nil_of_length_eq_zero hm
    have hl : ∀ (x : Addr), (loadCells x 0).run Try.prog w = .ok #[] w := fun x => by simpa using run_loadCells_list (P := Try.prog) w x [] (by simp)
    obtain ⟨A, cap, rfl, hnc, _⟩ := own_form ho
    refine ⟨A, cap, w, ?_, by simpa using ho, ⟨rfl, rfl, rfl, Nat.le_refl _, fun _ _ _ => rfl⟩, .inl rfl⟩
    cases A <;> cases sa <;> simp [Builtin.append_, run_underlying Try.underlying22, sizeOf, typeInfo, hi, hs, Builtin.lenOf, Builtin.firstCells, hl, hnc, storeCells]
  · obtain ⟨b, off, rfl, _, hc⟩ := hr.at_ (by have := hr.le; omega)
    obtain ⟨g, cap, w', hrun, h1, h2, h3, h4⟩ := run_append_lies (P := Try.prog) w 22 ty base 5 i z 1 1 Try.underlying22 hi hz hs hbt hzs (by omega) v n (bytesV xs) ho ⟨b, off, none⟩ m c (bytesV l) (by rw [length_bytesV]; omega) (fun j u hu => by
        simp only [bytesV, List.getElem?_map] at hu
        obtain ⟨x, hx, rfl⟩ := Option.map_eq_some_iff.1 hu
        rw [Addr.add_lit]; exact hc j x hx) (fun u hu => by
        obtain ⟨x, _, rfl⟩ := List.mem_map.1 hu
        rfl) (by omega) (by unfold maxLen; omega) (by omega) hbase w.heap.size rfl
    refine ⟨_, cap, w', hrun, by rw [bytesV_append]; exact h1, h2, ?_⟩
    rcases h3 with h | h
    · exact .inl (by rw [h]; rfl)
    · exact .inr (by rw [h]; rfl)

theorem wpList_append_bytes {w : World} {ops : Array Oper} {rest : List Oper} {o : Oper} {a : Act} {Q : Exit → Act → World → Prop} (hgd : o.guard = none) (s x : Operand)
    (hop : o.op = .call { callee := .builtin .append, args := #[s, x], argTypes := #[22, 22] })
    (base n m c N : Nat) (v : Value) (xs l : List UInt8) (sa : Option Addr) (hs : a.eval s = v) (hx : a.eval x = .slice sa m c)
    (ho : w.ownsRow base 5 1 v n (bytesV xs)) (hm : l.length = m) (hr : Bytes w sa c l) (hN : n + m = N) (hb : N ≤ 1000000) (hbase : base ≤ w.heap.size)
    (h : ∀ A cap w', LongerB base w v N (xs ++ l) A cap w' → wpList Try.prog ops Q rest (a.put o.dst (.slice A N cap)) w') : wpList Try.prog ops Q (o :: rest) a w := by
  subst hN
  obtain ⟨A, cap, w', hrun, hl⟩ := run_append_bytes o.type ho hm hr hb hbase
  exact Lib.wpList_append_run w hgd s x 22 22 hop _ _ hs hx _ _ hrun (h A cap w' hl)

/-- The empty literal. -/
theorem own_empty (w : World) {base : Nat} (hb : base ≤ w.heap.size) : (w.alloc (.cells #[] 5)).ownsRow base 5 1 (.slice (some ⟨w.heap.size, 0, none⟩) 0 0) 0 (bytesV []) :=
  World.ownsRow_lit w #[] 0 hb (by unfold maxLen; omega) rfl
/-- One byte, as a literal. -/
theorem bytes_one (w : World) (c : UInt8) {z : Int} (hz : z = (c.toNat : Int)) : Bytes (w.alloc (.cells #[.int .u8 z] 5)) (some ⟨w.heap.size, 0, none⟩) 1 [c] := by
  subst hz
  exact bytes_row (heap_alloc_new w _) (Nat.le_refl _) (fun i x hi => by
    have h0 : i = 0 := by have := (List.getElem?_eq_some_iff.1 hi).1; simp at this; omega
    subst h0
    have : c = x := by simpa using hi
    subst this; rfl)
/-- A text as bytes. -/
theorem bytes_conv (w : World) (s : ByteArray) : Bytes (Lib.bytesWorld w 5 s) (some ⟨w.heap.size, 0, none⟩) (grownCap w s.size 0 5) s.data.toList := by
  refine ⟨by rw [Array.length_toList]; exact grownCap_ge w s.size 0 5, .inr ⟨w.heap.size, 0, rfl, by rw [Lib.bytesWorld_size]; omega, fun i c hi => ?_⟩⟩
  have hlt : i < s.size := by have := (List.getElem?_eq_some_iff.1 hi).1; rw [Array.length_toList] at this; exact this
  rw [Nat.zero_add, Lib.bytesWorld_cell w 5 s i hlt, List.getD, hi]; rfl
theorem below_conv (w : World) (s : ByteArray) : Below w.heap.size w (Lib.bytesWorld w 5 s) :=
  ⟨rfl, rfl, rfl, by rw [Lib.bytesWorld_size]; omega, fun k hk => Lib.bytesWorld_at_old w 5 s k hk⟩
theorem own_conv {w : World} {B n : Nat} {v : Value} {cs : List Value} {e : TypeId} {size : Nat} (h : w.ownsRow B e size v n cs) (s : ByteArray) : (Lib.bytesWorld w 5 s).ownsRow B e size v n cs :=
  own_same h (fun k hk => Lib.bytesWorld_at_old w 5 s k (own_lt h hk).2)
theorem conv_bytes (w : World) (s : ByteArray) : (convert 9 22 (.string s)).run Try.prog w = .ok (.slice (some ⟨w.heap.size, 0, none⟩) s.size (grownCap w s.size 0 5)) (Lib.bytesWorld w 5 s) :=
  Lib.run_convert_string_bytes (P := Try.prog) w 9 22 5 s Try.underlying9 Try.underlying22 Try.underlying5
/-- The text of a whole row of bytes. -/
theorem Bytes.whole {w : World} {a : Option Addr} {cap : Nat} {l : List UInt8} (h : Bytes w a cap l) (c : Nat) : (convert 22 9 (.slice a l.length c)).run Try.prog w = .ok (.string ⟨l.toArray⟩) w := by
  by_cases h0 : l.length = 0
  · obtain rfl : l = [] := List.eq_nil_of_length_eq_zero h0
    exact text_none w a c
  · obtain ⟨b, off, rfl, _, _⟩ := h.at_ (by have := h.le; omega)
    have := h.text (i := 0) (n := l.length) (by omega) rfl (by have := h.le; omega) c
    simpa using this
end Go.Proofs.Yteolepmopajamaa.Lx
