/- Whether there is a gate; when it opens, how often it was gone through; a checked sum of small times. -/
import Derived.Test.YtllihehkceaibaaGu
namespace Go.Proofs.Ytllihehkceaibaa
open Go.RowKit

/-- It answers v; of what was there nothing has turned. -/
def Tells (v : Value) (w : World) (e : Ending) (w' : World) : Prop := e = .returned v ∧ Below w.heap.size w w'
theorem below_new (w : World) (o : Obj) : Below w.heap.size w (w.alloc o) := (Below.refl _ _).alloc (Nat.le_refl _) _

set_option maxHeartbeats 400000 in
theorem isTime_yes (n : Int) (w : World) (h0 : 0 ≤ n) (h1 : n ≤ 4611686018427387904) : Calls Try.prog 17 #[.int .i64 n] w (Says (.bool true) w) := by
  go_enter Try.func17, Try.ntmps17
  go_wp2
  go_ret
  exact ⟨rfl, rfl⟩
set_option maxHeartbeats 400000 in
theorem add_small (a b : Int) (w : World) (a0 : 0 ≤ a) (a1 : a ≤ 1099511627776) (b0 : 0 ≤ b) (b1 : b ≤ 1048576) : Calls Try.prog 16 #[.int .i64 a, .int .i64 b] w (Says (.tuple #[.int .i64 (a + b), .bool true]) w) := by
  have k : decide (4611686018427387904 - b < a) = false := by simp; omega
  go_enter Try.func16, Try.ntmps16
  go_wp2_with (go_at_call 17; refine (isTime_yes _ _ (by omega) (by omega)).mono ?_; rintro e w' ⟨rfl, rfl⟩)
  go_ret2
  exact ⟨rfl, rfl⟩

section
variable {w : World} {p g K : Nat} {gs : List Gt}
set_option maxHeartbeats 400000 in
theorem hasGate (i : Int) (h : Grd w p g K gs) : Calls Try.prog 15 #[.pointer (some ⟨p, 0, none⟩), .int .i64 i] w (Says (.bool (isV gs i)) w) := by
  obtain ⟨cc, hc⟩ := h.slice
  cases hx : gateAt gs i with
  | none =>
    have he := gateAt_none hx
    have HV := Lib.hid (show isV gs i = false by unfold isV; rw [hx]; rfl)
    rw [HV.out]
    clear hx h
    by_cases h0 : i < 0
    · have t1 : decide (0 ≤ i) = false := by simp; omega
      go_enter Try.func15, Try.ntmps15
      go_wp2
      go_ret
      exact ⟨rfl, rfl⟩
    · have t1 : decide (0 ≤ i) = true := by simp; omega
      have t2 : decide (i < (gs.length : Int)) = false := by simp; omega
      clear he
      go_enter Try.func15, Try.ntmps15
      go_wp2
      go_ret
      exact ⟨rfl, rfl⟩
  | some x =>
    obtain ⟨k, rfl, hk⟩ := gateAt_some hx
    have hlt := (List.getElem?_eq_some_iff.1 hk).1
    have HV := Lib.hid (show isV gs k = true by unfold isV; rw [hx]; rfl)
    rw [HV.out]
    clear hx h hk
    have t1 : decide (0 ≤ (k : Int)) = true := by simp
    have t2 : decide ((k : Int) < (gs.length : Int)) = true := by simp; omega
    go_enter Try.func15, Try.ntmps15
    go_wp2
    go_ret
    exact ⟨rfl, rfl⟩

set_option maxHeartbeats 400000 in
theorem countOf (i : Int) (h : Grd w p g K gs) : Calls Try.prog 13 #[.pointer (some ⟨p, 0, none⟩), .int .i64 i] w (Says (.int .i64 (countV gs i)) w) := by
  have KH := Lib.hid (hasGate i h)
  obtain ⟨cc, hc⟩ := h.slice
  have hl := h.l2
  cases hx : gateAt gs i with
  | none =>
    rw [show isV gs i = false by unfold isV; rw [hx]; rfl] at KH
    rw [show countV gs i = 0 by unfold countV; rw [hx]]
    clear hx h
    go_enter Try.func13, Try.ntmps13
    go_wp2_with (fail)
    with_reducible refine KH.out.mono ?_
    rintro e w1 ⟨rfl, rfl⟩
    go_wp2
    go_ret
    exact ⟨rfl, rfl⟩
  | some x =>
    rw [show isV gs i = true by unfold isV; rw [hx]; rfl] at KH
    rw [show countV gs i = x.2.2 by unfold countV; rw [hx]]
    obtain ⟨k, rfl, hk⟩ := gateAt_some hx
    have hlt := (List.getElem?_eq_some_iff.1 hk).1
    obtain ⟨x0, x1, x2⟩ := h.cells hk
    have i1 : (0 : Int) ≤ (k : Int) := by omega
    have i2 : (k : Int) < (gs.length : Int) := by omega
    clear hx h hk
    obtain ⟨a, t, c⟩ := x
    simp only at x0 x1 x2 ⊢
    go_enter Try.func13, Try.ntmps13
    go_wp2_with (fail)
    with_reducible refine KH.out.mono ?_
    rintro e w1 ⟨rfl, rfl⟩
    go_wp2
    go_ret
    exact ⟨rfl, rfl⟩

set_option maxHeartbeats 1000000 in
theorem openOf (i : Int) (h : Grd w p g K gs) : Calls Try.prog 12 #[.pointer (some ⟨p, 0, none⟩), .int .i64 i] w (Tells (.tuple #[.int .i64 (openV gs i), .bool (isV gs i)]) w) := by
  have KH := Lib.hid (hasGate i h)
  obtain ⟨cc, hc⟩ := h.slice
  have hl := h.l2
  cases hx : gateAt gs i with
  | none =>
    rw [show isV gs i = false by unfold isV; rw [hx]; rfl] at KH ⊢
    rw [show openV gs i = 0 by unfold openV; rw [hx]]
    clear hx h
    go_enter Try.func12, Try.ntmps12
    go_wp2_with (fail)
    with_reducible refine KH.out.mono ?_
    rintro e w1 ⟨rfl, rfl⟩
    go_wp2
    go_ret2
    exact ⟨rfl, Below.refl _ _⟩
  | some x =>
    rw [show isV gs i = true by unfold isV; rw [hx]; rfl] at KH ⊢
    rw [show openV gs i = openG x by unfold openV; rw [hx]]
    obtain ⟨k, rfl, hk⟩ := gateAt_some hx
    have hlt := (List.getElem?_eq_some_iff.1 hk).1
    obtain ⟨x0, x1, x2⟩ := h.cells hk
    have hr := h.ok x (List.mem_of_getElem? hk)
    obtain ⟨ra1, ra2, rt1, rt2, rc1, rc2⟩ := hr
    have i1 : (0 : Int) ≤ (k : Int) := by omega
    have i2 : (k : Int) < (gs.length : Int) := by omega
    have hp := h.plt
    have hg := h.glt
    clear hx h hk
    obtain ⟨a, t, c⟩ := x
    simp only at x0 x1 x2 ra1 ra2 rt1 rt2 rc1 rc2
    have KA := Lib.hid (fun W => add_small t a W rt1 rt2 (by omega) ra2)
    by_cases hz : c = 0
    · have HO := Lib.hid (show openG (a, t, c) = 0 by unfold openG; rw [if_pos hz])
      rw [HO.out]
      have t1 : (c == 0) = true := by simp [hz]
      clear hz HO
      go_enter Try.func12, Try.ntmps12
      go_wp2_with (fail)
      with_reducible refine KH.out.mono ?_
      rintro e w1 ⟨rfl, rfl⟩
      go_wp2
      go_ret2
      exact ⟨rfl, below_new _ _⟩
    · have HO := Lib.hid (show openG (a, t, c) = t + a by unfold openG; rw [if_neg hz])
      rw [HO.out]
      have t1 : (c == 0) = false := by simp [hz]
      clear hz HO
      go_enter Try.func12, Try.ntmps12
      go_wp2_with (fail)
      with_reducible refine KH.out.mono ?_
      rintro e w1 ⟨rfl, rfl⟩
      go_wp2_with (fail)
      with_reducible refine (KA.out _).mono ?_
      rintro e w2 ⟨rfl, rfl⟩
      go_wp2
      go_ret2
      exact ⟨rfl, below_new _ _⟩
end
end Go.Proofs.Ytllihehkceaibaa
