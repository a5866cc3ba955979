/- A slice of numbers, as a list that it reads as (the nil one and empty ones counted in); the program's sum of such a slice. -/
import Derived.Test.YtibmlkcbhlomhaaAwake
namespace Go.Proofs.Ytibmlkcbhlomhaa
open Go.RowKit

/-- A slice value of that many numbers reads as the list l. -/
def Reads (w : World) (a : Option Addr) (len : Nat) (l : List Int) : Prop :=
  l.length = len ∧ (len = 0 ∨ ∃ b off, a = some ⟨b, off, none⟩ ∧ b < w.heap.size ∧ ∀ i, i < len → w.cell? ⟨b, off + i, none⟩ = some (.int .i64 (l.getD i 0)))

theorem Reads.below {w w' : World} {a : Option Addr} {len : Nat} {l : List Int} {B : Nat} (h : Reads w a len l) (hB : w.heap.size ≤ B) (hb : Below B w w') : Reads w' a len l := by
  refine ⟨h.1, ?_⟩
  rcases h.2 with h0 | ⟨b, off, ha, hlt, hc⟩
  · exact .inl h0
  · refine .inr ⟨b, off, ha, Nat.lt_of_lt_of_le hlt hb.size, fun i hi => ?_⟩
    rw [hb.cell (p := ⟨b, off + i, none⟩) (Nat.lt_of_lt_of_le hlt hB)]; exact hc i hi

theorem Reads.mk {w : World} {x : Addr} {len cap : Nat} {zs : List Int} (hl : len ≤ cap) (hz : zs.length = cap) (hcell : ∀ i, i < zs.length → w.cell? (x.add i) = some (.int .i64 (zs.getD i 0))) : Reads w (some x) len (zs.take len) := by
  refine ⟨by simp [hz]; omega, ?_⟩
  by_cases h0 : len = 0
  · exact .inl h0
  · obtain ⟨b, off, spot⟩ := x
    have hc := hcell 0 (by omega)
    have hspot : spot = none := by simpa [Addr.add] using World.cell?_spot hc
    subst hspot
    refine .inr ⟨b, off, rfl, block_lt_of_cell hc, fun i hi => ?_⟩
    have hci := hcell i (by omega)
    have hadd : (Addr.mk b off none).add i = ⟨b, off + i, none⟩ := by
      cases i <;> simp [Addr.add]
    rw [hadd] at hci
    rw [hci]
    simp [List.getD_eq_getElem?_getD, hi]

set_option maxHeartbeats 400000 in
theorem Sum_empty (a : Option Addr) (cap : Nat) (w : World) : Calls Try.prog 16 #[.slice a 0 cap] w (Ans 0 true w) := by
  go_enter Try.func16, Try.ntmps16
  go_wp2
  go_loop [4, 11] (fun s i => i = .int .i64 0 ∧ s = .int .i64 0) (fun _ _ => 0)
  case atStart => exact ⟨rfl, rfl⟩
  case round =>
    obtain ⟨rfl, rfl⟩ := hrel
    go_wp2
    go_ret2
    exact ⟨rfl, rfl⟩

theorem Sum_reads {a : Option Addr} {len : Nat} (cap : Nat) {l : List Int} {w : World} (hm : len ≤ maxLen) (h : Reads w a len l) :
    Calls Try.prog 16 #[.slice a len cap] w (Ans (Tk.sumV l) (Tk.sumB l) w) := by
  rcases h with ⟨hl, rfl | ⟨b, off, rfl, _, hc⟩⟩
  · obtain rfl : l = [] := List.eq_nil_of_length_eq_zero hl
    exact Sum_empty a cap w
  · exact Sum_some b off len cap l w hl hm hc
end Go.Proofs.Ytibmlkcbhlomhaa
