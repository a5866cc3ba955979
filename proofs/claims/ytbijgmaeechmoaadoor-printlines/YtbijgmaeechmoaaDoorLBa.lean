/- A text as bytes, bytes as a text. -/
import Derived.Test.YtbijgmaeechmoaaDoorLBy
namespace Go.Proofs.YtbijgmaeechmoaaDoor.Lx
open Go.RowKit

theorem bytes_row {w : World} {b cap : Nat} {cs : Array Value} {fr : Nat × Nat} {l : List UInt8} (h : w.heap[b]? = some (.cells cs 5 fr)) (hl : l.length ≤ cap) (hc : ∀ (i : Nat) (c : UInt8), l[i]? = some c → cs[i]? = some (Value.int .u8 (c.toNat : Int))) : Bytes w (some ⟨b, 0, none⟩) cap l :=
  ⟨hl, .inr ⟨b, 0, rfl, lt_of_block h, fun i c hi => by rw [Nat.zero_add, cell_of_row w b i cs 5 fr h]; exact hc i c hi⟩⟩
/-- One byte, as a literal. -/
theorem bytes_one (w : World) (c : UInt8) {z : Int} (hz : z = (c.toNat : Int)) : Bytes (w.alloc (.cells #[.int .u8 z] 5)) (some ⟨w.heap.size, 0, none⟩) 1 [c] := by
  subst hz
  exact bytes_row (heap_alloc_new w _) (Nat.le_refl _) (fun i x hi => by
    have h0 : i = 0 := by have := (List.getElem?_eq_some_iff.1 hi).1; simp at this; omega
    subst h0
    have : c = x := by simpa using hi
    subst this; rfl)
/-- A text as bytes. -/
theorem bytes_conv (w : World) (s : ByteArray) : Bytes (Lib.bytesWorld w 5 s) (some ⟨w.heap.size, 0, none⟩) (grownCap w s.size 0 5) s.data.toList := by
  refine ⟨by rw [Array.length_toList]; exact grownCap_ge w s.size 0 5, .inr ⟨w.heap.size, 0, rfl, by rw [Lib.bytesWorld_size]; omega, fun i c hi => ?_⟩⟩
  have hlt : i < s.size := by have := (List.getElem?_eq_some_iff.1 hi).1; rw [Array.length_toList] at this; exact this
  rw [Nat.zero_add, Lib.bytesWorld_cell w 5 s i hlt, List.getD, hi]; rfl
theorem below_conv (w : World) (s : ByteArray) : Below w.heap.size w (Lib.bytesWorld w 5 s) :=
  ⟨rfl, rfl, rfl, by rw [Lib.bytesWorld_size]; omega, fun k hk => Lib.bytesWorld_at_old w 5 s k hk⟩
theorem conv_bytes (w : World) (s : ByteArray) : (convert 9 40 (.string s)).run Tryd.prog w = .ok (.slice (some ⟨w.heap.size, 0, none⟩) s.size (grownCap w s.size 0 5)) (Lib.bytesWorld w 5 s) :=
  Lib.run_convert_string_bytes (P := Tryd.prog) w 9 40 5 s Tryd.underlying9 Tryd.underlying40 Tryd.underlying5
/-- The text of a whole row of bytes. -/
theorem Bytes.whole {w : World} {a : Option Addr} {cap : Nat} {l : List UInt8} (h : Bytes w a cap l) (c : Nat) : (convert 40 9 (.slice a l.length c)).run Tryd.prog w = .ok (.string ⟨l.toArray⟩) w := by
  by_cases h0 : l.length = 0
  · obtain rfl : l = [] := List.eq_nil_of_length_eq_zero h0
    exact text_none w a c
  · obtain ⟨b, off, rfl, _, _⟩ := h.at_ (by have := h.le; omega)
    have := h.text (i := 0) (n := l.length) (by omega) rfl (by have := h.le; omega) c
    simpa using this
end Go.Proofs.YtbijgmaeechmoaaDoor.Lx
