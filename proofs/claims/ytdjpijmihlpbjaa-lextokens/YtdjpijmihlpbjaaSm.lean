/- Two rows of the same tokens; and that the program is awake. -/
import Derived.Test.YtdjpijmihlpbjaaRt
namespace Go.Proofs.Ytdjpijmihlpbjaa
open Go.RowKit

section
variable {w : World} {b off : Nat} {ts : List Tok} {i : Nat} {t : Tok}
/-- A token's cells. -/
theorem Toks.cells (hc : ∀ i t, ts[i]? = some t → ∀ j v, (cellsT t)[j]? = some v → w.cell? ⟨b, off + i * 5 + j, none⟩ = some v) (hi : ts[i]? = some t) :
    w.cell? ⟨b, off + i * 5, none⟩ = some (.int .i64 (t.kind : Nat)) ∧ w.cell? ⟨b, off + i * 5 + 1, none⟩ = some (.string ⟨t.text.toArray⟩) ∧ w.cell? ⟨b, off + i * 5 + 2, none⟩ = some (.int .i64 (t.value : Nat)) ∧
      w.cell? ⟨b, off + i * 5 + 3, none⟩ = some (.int .i64 (t.line : Nat)) ∧ w.cell? ⟨b, off + i * 5 + 4, none⟩ = some (.int .i64 (t.col : Nat)) :=
  ⟨hc i t hi 0 _ rfl, hc i t hi 1 _ rfl, hc i t hi 2 _ rfl, hc i t hi 3 _ rfl, hc i t hi 4 _ rfl⟩
end
def SameRel (n : Nat) (w : World) (i : Value) (W : World) : Prop := ∃ k m : Nat, k ≤ n ∧ i = .int .i64 (k : Int) ∧ W = w.drewN m

set_option maxHeartbeats 2000000 in
theorem same (ts : List Tok) (A B : Option Addr) (c d : Nat) {w : World} (hl : ts.length ≤ 1000000) (ha : Toks w A ts) (hb : Toks w B ts) :
    Calls Try.prog 12 #[.slice A ts.length c, .slice B ts.length d] w (Saw (.bool true) w) := by
  have HA := Lib.hid ha
  have HB := Lib.hid hb
  clear ha hb
  go_enter Try.func12, Try.ntmps12
  go_wp2
  go_loopw [5] (fun i W => SameRel ts.length w i W) (fun i _ => ts.length - (intOf i).toNat)
  case atStart => exact ⟨0, 0, by omega, rfl, rfl⟩
  case round =>
    obtain ⟨k, m, hk, rfl, rfl⟩ := hrel
    by_cases hlt : k < ts.length
    · have t1 : decide ((k : Int) < (ts.length : Int)) = true := by simp; omega
      obtain ⟨b1, o1, rfl, _, hc1⟩ := HA.out (by omega)
      obtain ⟨b2, o2, rfl, _, hc2⟩ := HB.out (by omega)
      obtain ⟨t, ht⟩ : ∃ t, ts[k]? = some t := ⟨_, List.getElem?_eq_getElem hlt⟩
      obtain ⟨x0, x1, x2, x3, x4⟩ := Toks.cells hc1 ht
      obtain ⟨y0, y1, y2, y3, y4⟩ := Toks.cells hc2 ht
      clear hc1 hc2 ht
      generalize (⟨t.text.toArray⟩ : ByteArray) = s at x1 y1
      generalize t.kind = n0 at x0 y0
      generalize t.value = n2 at x2 y2
      generalize t.line = n3 at x3 y3
      generalize t.col = n4 at x4 y4
      go_wp2
      go_quiet (fail)
      go_wp2
      go_roundw
      case rel => first | exact ⟨k + 1, _, by omega, by go_num, rfl⟩ | exact ⟨k + 1, _, by omega, by go_num, World.drewN_drewN _ _ _⟩
      case measure => simp [intOf]; omega
    · have t1 : decide ((k : Int) < (ts.length : Int)) = false := by simp; omega
      have t1' : decide (k < ts.length) = false := by simp; omega
      go_wp2
      go_ret
      exact ⟨rfl, m, rfl⟩
end Go.Proofs.Ytdjpijmihlpbjaa
