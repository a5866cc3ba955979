/- Tasks in a row; a name, a priority that an earlier task has. -/
import Derived.Test.YtklnokhabomnfaaLf
import Derived.IntWalk
import Derived.Lib.Strings
namespace Go.Proofs.Ytklnokhabomnfaa
open Go.RowKit

/-- A slice that begins at a, with room for cap, reads as the tasks l. -/
structure Tasks (w : World) (a : Option Addr) (cap : Nat) (l : List Tk) : Prop where
  le : l.length ≤ cap
  form : 0 < l.length → ∃ b off, a = some ⟨b, off, none⟩ ∧ b < w.heap.size ∧ ∀ i t, l[i]? = some t → ∀ j v, (cellsK t)[j]? = some v → w.cell? ⟨b, off + i * 11 + j, none⟩ = some v
section
variable {w w' : World} {a : Option Addr} {cap : Nat} {l : List Tk} {B : Nat}
theorem Tasks.below (h : Tasks w a cap l) (hB : w.heap.size ≤ B) (hb : Below B w w') : Tasks w' a cap l := by
  refine ⟨h.le, fun h0 => ?_⟩
  obtain ⟨b, off, ha, hlt, hc⟩ := h.form h0
  refine ⟨b, off, ha, Nat.lt_of_lt_of_le hlt hb.size, fun i t hi j v hj => ?_⟩
  rw [hb.cell (p := ⟨b, off + i * 11 + j, none⟩) (Nat.lt_of_lt_of_le hlt hB)]; exact hc i t hi j v hj
theorem Tasks.drewN (h : Tasks w a cap l) (n : Nat) : Tasks (w.drewN n) a cap l := ⟨h.le, h.form⟩
theorem Tasks.take (h : Tasks w a cap l) (k : Nat) : Tasks w a cap (l.take k) := by
  refine ⟨by rw [List.length_take]; have := h.le; omega, fun h0 => ?_⟩
  obtain ⟨b, off, ha, hlt, hc⟩ := h.form (by rw [List.length_take] at h0; omega)
  refine ⟨b, off, ha, hlt, fun i t hi => hc i t ?_⟩
  rw [List.getElem?_take] at hi
  split at hi
  · exact hi
  · cases hi
/-- A task's eleven cells. -/
theorem Tasks.cells (h : Tasks w a cap l) {i : Nat} {t : Tk} (hi : l[i]? = some t) : ∃ b off, a = some ⟨b, off, none⟩ ∧ b < w.heap.size ∧
    w.cell? ⟨b, off + i * 11, none⟩ = some (.string t.name) ∧ w.cell? ⟨b, off + i * 11 + 1, none⟩ = some (.int .i64 t.T) ∧ w.cell? ⟨b, off + i * 11 + 2, none⟩ = some (.int .i64 t.D) ∧ w.cell? ⟨b, off + i * 11 + 3, none⟩ = some (.int .i64 t.C) ∧ w.cell? ⟨b, off + i * 11 + 4, none⟩ = some (.int .i64 t.A) ∧ w.cell? ⟨b, off + i * 11 + 5, none⟩ = some (.int .i64 t.Seg) ∧
    w.cell? ⟨b, off + i * 11 + 6, none⟩ = some (.int .i64 t.Cost) ∧ w.cell? ⟨b, off + i * 11 + 7, none⟩ = some (.int .i64 t.M) ∧ w.cell? ⟨b, off + i * 11 + 8, none⟩ = some (.int .i64 t.K) ∧ w.cell? ⟨b, off + i * 11 + 9, none⟩ = some (.int .i64 t.Mode) ∧ w.cell? ⟨b, off + i * 11 + 10, none⟩ = some (.int .i64 t.Prio) := by
  have hlt := (List.getElem?_eq_some_iff.1 hi).1
  obtain ⟨b, off, ha, hb, hc⟩ := h.form (by omega)
  have H := fun j v => hc i t hi j v
  exact ⟨b, off, ha, hb, H 0 _ rfl, H 1 _ rfl, H 2 _ rfl, H 3 _ rfl, H 4 _ rfl, H 5 _ rfl, H 6 _ rfl, H 7 _ rfl, H 8 _ rfl, H 9 _ rfl, H 10 _ rfl⟩
end

theorem toList_inj {a b : ByteArray} (h : a.toList = b.toList) : a = b := by
  rw [Lib.toList_data, Lib.toList_data] at h
  exact ByteArray.ext (Array.toList_inj.1 h)
theorem text_eq {a b : ByteArray} (h : a = b) : (a.toList == b.toList) = true := by rw [h]; exact beq_self_eq_true _
theorem text_ne {a b : ByteArray} (h : a ≠ b) : (a.toList == b.toList) = false := beq_eq_false_iff_ne.2 (fun e => h (toList_inj e))

end Go.Proofs.Ytklnokhabomnfaa
