/- The sum of a list in package tick, as a contract: of whatever list it returns the sum of all and true, or 0 and false where a beginning is over; nothing in memory is touched. -/
import Derived.Test.YtibmlkcbhlomhaaLeaf
namespace Go.Proofs.Ytibmlkcbhlomhaa
open Go.RowKit

namespace Tk
def sumFrom : Int → List Int → Option Int
  | s, [] => some s
  | s, n :: l => if addB s n then sumFrom (addV s n) l else none
def sumV (l : List Int) : Int := (sumFrom 0 l).getD 0
def sumB (l : List Int) : Bool := (sumFrom 0 l).isSome
theorem from_step {s : Int} {l : List Int} {k : Nat} (h : k < l.length) : sumFrom s (l.drop k) = if addB s (l.getD k 0) then sumFrom (addV s (l.getD k 0)) (l.drop (k + 1)) else none := by
  rw [List.drop_eq_getElem_cons h]; simp [sumFrom, List.getD_eq_getElem?_getD, List.getElem?_eq_getElem h]
end Tk

/-- The cells from x on hold the numbers of a list. -/
def Row (w : World) (x : Addr) (l : List Int) : Prop := ∀ i, i < l.length → w.cell? (x.add i) = some (.int .i64 (l.getD i 0))

set_option maxHeartbeats 400000 in
theorem Sum_some (b off : Nat) (len cap : Nat) (l : List Int) (w : World) (hl : l.length = len) (hm : len ≤ maxLen) (hc : ∀ i, i < len → w.cell? ⟨b, off + i, none⟩ = some (.int .i64 (l.getD i 0))) :
    Calls Try.prog 16 #[.slice (some ⟨b, off, none⟩) len cap] w (Ans (Tk.sumV l) (Tk.sumB l) w) := by
  unfold maxLen at hm
  have HL := Lib.hid hl
  have HC := Lib.hid hc
  clear hl hc
  go_enter Try.func16, Try.ntmps16
  go_wp2
  go_loop [4, 11] (fun s i => ∃ (k : Nat) (n : Int), k ≤ len ∧ i = .int .i64 k ∧ s = .int .i64 n ∧ Hid (Tk.sumFrom n (l.drop k) = Tk.sumFrom 0 l)) (fun _ i => len - (intOf i).toNat)
  case atStart => exact ⟨0, 0, Nat.zero_le _, rfl, rfl, rfl⟩
  case round =>
    obtain ⟨k, n, hk, rfl, rfl, HR⟩ := hrel
    by_cases hlt : k < len
    · have hcell := HC.out k hlt
      have HS := Lib.hid (Tk.from_step (s := n) (l := l) (k := k) (by rw [HL.out]; exact hlt))
      generalize l.getD k 0 = z at hcell HS
      cases hB : Tk.addB n z
      · have HB := Lib.hid hB
        clear hB
        go_wp2_with (go_at_call 10; refine (Add_any _ _ _).mono ?_; rintro e w' ⟨rfl, rfl⟩; rw [HB.out])
        go_ret2
        have e : Tk.sumFrom 0 l = none := by rw [← HR.out, HS.out, HB.out]; rfl
        exact ⟨ret2 (by simp [Tk.sumV, e]) (by simp [Tk.sumB, e]), rfl⟩
      · have HB := Lib.hid hB
        clear hB
        go_wp2_with (go_at_call 10; refine (Add_any _ _ _).mono ?_; rintro e w' ⟨rfl, rfl⟩; rw [HB.out])
        go_round
        case rel => exact ⟨k + 1, _, by omega, by go_num, rfl, by rw [← HR.out, HS.out, HB.out]; rfl⟩
        case measure => simp [intOf]; omega
    · go_wp2
      go_ret2
      have e : Tk.sumFrom 0 l = some n := by rw [← HR.out, List.drop_of_length_le (by rw [HL.out]; omega)]; rfl
      exact ⟨ret2 (by simp [Tk.sumV, e]) (by simp [Tk.sumB, e]), rfl⟩
set_option maxHeartbeats 400000 in
theorem Sum_nil (w : World) : Calls Try.prog 16 #[.slice none 0 0] w (Ans 0 true w) := by
  go_enter Try.func16, Try.ntmps16
  go_wp2
  go_loop [4, 11] (fun s i => i = .int .i64 0 ∧ s = .int .i64 0) (fun _ _ => 0)
  case atStart => exact ⟨rfl, rfl⟩
  case round =>
    obtain ⟨rfl, rfl⟩ := hrel
    go_wp2
    go_ret2
    exact ⟨rfl, rfl⟩
end Go.Proofs.Ytibmlkcbhlomhaa
