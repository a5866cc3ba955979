/- Two sets of the same tasks. -/
import Derived.Test.YtklnokhabomnfaaFw
namespace Go.Proofs.Ytklnokhabomnfaa
open Go.RowKit

def SameSetRel (n : Nat) (w : World) (i : Value) (W : World) : Prop := ∃ k m : Nat, k ≤ n ∧ i = .int .i64 (k : Int) ∧ W = w.drewN m

set_option maxRecDepth 100000 in
set_option maxHeartbeats 4000000 in
theorem same (b : Int) (l : List Tk) (x y : Option Addr) (c d : Nat) {w : World} (hl : l.length ≤ 1000) (hx : Tasks w x c l) (hy : Tasks w y d l) :
    Calls Try.prog 18 #[.agg #[.int .i64 b, .slice x l.length c], .agg #[.int .i64 b, .slice y l.length d]] w (Tells true w) := by
  obtain ⟨V, hV⟩ : ∃ V, V = (w.alloc (.cells #[.int .i64 b, .slice x l.length c] 24)).alloc (.cells #[.int .i64 b, .slice y l.length d] 24) := ⟨_, rfl⟩
  have HB : Hid (Below w.heap.size w V) := by rw [hV]; exact (below_new _ _).alloc (by simp) _
  have HXV := Lib.hid (hx.below (Nat.le_refl _) HB.out)
  have HYV := Lib.hid (hy.below (Nat.le_refl _) HB.out)
  have HL1 : Hid (Lies V w.heap.size 24 #[.int .i64 b, .slice x l.length c]) := by rw [hV]; exact (Lies.made _ _ _).alloc _
  have HL2 := Lib.hid (show Lies V (w.heap.size + 1) 24 #[.int .i64 b, .slice y l.length d] by
    rw [hV]
    have := Lies.made (w.alloc (.cells #[.int .i64 b, .slice x l.length c] 24)) 24 #[.int .i64 b, .slice y l.length d]
    simpa using this)
  have HVE := Lib.hid hV
  clear hV hx hy
  go_enter Try.func18, Try.ntmps18
  go_wp2
  rw [← HVE.out]
  go_loopw [5] (fun i W => SameSetRel l.length V i W) (fun i _ => l.length - (intOf i).toNat)
  case atStart => exact ⟨0, 0, by omega, rfl, rfl⟩
  case round =>
    obtain ⟨k, m, hk, rfl, rfl⟩ := hrel
    have y1 : V.cell? ⟨w.heap.size, 1, none⟩ = some (.slice x l.length c) := HL1.out.cell 1
    have y2 : V.cell? ⟨w.heap.size + 1, 1, none⟩ = some (.slice y l.length d) := HL2.out.cell 1
    by_cases hlt : k < l.length
    · have t1 : decide ((k : Int) < (l.length : Int)) = true := by simp; omega
      have hx : l[k]? = some l[k] := List.getElem?_eq_getElem hlt
      obtain ⟨b1, o1, rfl, _, u0, u1, u2, u3, u4, u5, u6, u7, u8, u9, u10⟩ := HXV.out.cells hx
      obtain ⟨b2, o2, rfl, _, v0, v1, v2, v3, v4, v5, v6, v7, v8, v9, v10⟩ := HYV.out.cells hx
      clear hx
      generalize l[k] = t at u0 u1 u2 u3 u4 u5 u6 u7 u8 u9 u10 v0 v1 v2 v3 v4 v5 v6 v7 v8 v9 v10
      obtain ⟨n, tT, tD, tC, tA, tS, tc, tM, tK, tO, tP⟩ := t
      simp only at u0 u1 u2 u3 u4 u5 u6 u7 u8 u9 u10 v0 v1 v2 v3 v4 v5 v6 v7 v8 v9 v10
      go_wp2
      go_quiet (fail)
      go_wp2
      go_roundw
      case rel => first | exact ⟨k + 1, _, by omega, by go_num, rfl⟩ | exact ⟨k + 1, _, by omega, by go_num, World.drewN_drewN _ _ _⟩
      case measure => simp [intOf]; omega
    · have t1 : decide ((k : Int) < (l.length : Int)) = false := by simp; omega
      have t1' : decide (k < l.length) = false := by simp; omega
      go_wp2
      go_ret
      exact ⟨rfl, below_drewN HB.out m⟩
end Go.Proofs.Ytklnokhabomnfaa
