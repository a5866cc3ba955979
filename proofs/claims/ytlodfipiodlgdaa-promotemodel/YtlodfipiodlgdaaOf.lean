/- Offsets; a checked sum of whatever numbers; how many wait; a job is dropped. -/
import Derived.Test.YtlodfipiodlgdaaAe
import Derived.Test.YtlodfipiodlgdaaNw
namespace Go.Proofs.Ytlodfipiodlgdaa
open Go.RowKit

set_option maxHeartbeats 400000 in
theorem isTime_yes (n : Int) (w : World) (h0 : 0 ≤ n) (h1 : n ≤ 4611686018427387904) : Calls Try.prog 20 #[.int .i64 n] w (Says (.bool true) w) := by
  go_enter Try.func20, Try.ntmps20
  go_wp2
  go_ret
  exact ⟨rfl, rfl⟩
set_option maxHeartbeats 400000 in
theorem isTime_no (n : Int) (w : World) (h : n < 0 ∨ 4611686018427387904 < n) : Calls Try.prog 20 #[.int .i64 n] w (Says (.bool false) w) := by
  rcases h with h | h
  · go_enter Try.func20, Try.ntmps20
    go_wp2
    go_ret
    exact ⟨rfl, rfl⟩
  · have k : decide (n ≤ 4611686018427387904) = false := by simp; omega
    have k0 : decide (0 ≤ n) = true := by simp; omega
    go_enter Try.func20, Try.ntmps20
    go_wp2
    go_ret
    exact ⟨rfl, rfl⟩
set_option maxHeartbeats 400000 in
theorem add_time (a b : Int) (w : World) (h0 : 0 ≤ a) (h1 : 0 ≤ b) (h : a + b ≤ 4611686018427387904) : Calls Try.prog 15 #[.int .i64 a, .int .i64 b] w (Says (.tuple #[.int .i64 (a + b), .bool true]) w) := by
  have k : decide (4611686018427387904 - b < a) = false := by simp; omega
  go_enter Try.func15, Try.ntmps15
  go_wp2_with (go_at_call 20; refine (isTime_yes _ _ (by omega) (by omega)).mono ?_; rintro e w' ⟨rfl, rfl⟩)
  go_ret2
  exact ⟨rfl, rfl⟩
set_option maxHeartbeats 400000 in
theorem add_over (a b : Int) (w : World) (h : a < 0 ∨ b < 0 ∨ 4611686018427387904 < a + b) : Calls Try.prog 15 #[.int .i64 a, .int .i64 b] w (Says (.tuple #[.int .i64 0, .bool false]) w) := by
  by_cases ha : 0 ≤ a ∧ a ≤ 4611686018427387904
  · obtain ⟨a0, a1⟩ := ha
    by_cases hb : 0 ≤ b ∧ b ≤ 4611686018427387904
    · obtain ⟨b0, b1⟩ := hb
      have k : decide (4611686018427387904 - b < a) = true := by simp; omega
      go_enter Try.func15, Try.ntmps15
      go_wp2_with (go_at_call 20; refine (isTime_yes _ _ (by omega) (by omega)).mono ?_; rintro e w' ⟨rfl, rfl⟩)
      go_ret2
      exact ⟨rfl, rfl⟩
    · have hb' : b < 0 ∨ 4611686018427387904 < b := by omega
      clear h
      go_enter Try.func15, Try.ntmps15
      go_wp2_with (go_at_call 20; first | ((with_reducible refine (isTime_yes _ _ a0 a1).mono ?_); rintro e w' ⟨rfl, rfl⟩) | ((with_reducible refine (isTime_no _ _ hb').mono ?_); rintro e w' ⟨rfl, rfl⟩))
      go_ret2
      exact ⟨rfl, rfl⟩
  · have ha' : a < 0 ∨ 4611686018427387904 < a := by omega
    clear h
    go_enter Try.func15, Try.ntmps15
    go_wp2_with (go_at_call 20; refine (isTime_no _ _ ha').mono ?_; rintro e w' ⟨rfl, rfl⟩)
    go_ret2
    exact ⟨rfl, rfl⟩
set_option maxHeartbeats 400000 in
theorem offset_yes (d r : Int) (w : World) (h1 : 1 ≤ r) (h2 : r ≤ d) (h3 : d ≤ 9223372036854775807) : Calls Try.prog 13 #[.int .i64 d, .int .i64 r] w (Says (.tuple #[.int .i64 (d - r), .bool true]) w) := by
  have k1 : decide (r < 1) = false := by simp; omega
  have k2 : decide (d < r) = false := by simp; omega
  have z : IntKind.i64.wrap (d - r) = d - r := by rw [IntKind.wrap_i64]; omega
  go_enter Try.func13, Try.ntmps13
  go_wp2
  go_ret2
  first | exact ⟨rfl, rfl⟩ | (rw [z]; exact ⟨rfl, rfl⟩)
set_option maxHeartbeats 400000 in
theorem offset_no (d r : Int) (w : World) (h : r < 1 ∨ d < r) : Calls Try.prog 13 #[.int .i64 d, .int .i64 r] w (Says (.tuple #[.int .i64 0, .bool false]) w) := by
  by_cases h1 : r < 1
  · have k1 : decide (r < 1) = true := by simpa using h1
    go_enter Try.func13, Try.ntmps13
    go_wp2
    go_ret2
    exact ⟨rfl, rfl⟩
  · have k1 : decide (r < 1) = false := by simpa using h1
    have k2 : decide (d < r) = true := by simp; omega
    clear h
    go_enter Try.func13, Try.ntmps13
    go_wp2
    go_ret2
    exact ⟨rfl, rfl⟩
section
variable {S : Nat → Prop} {B p room : Nat} {now : Int} {w : World} {m : List Ky}
set_option maxHeartbeats 400000 in
theorem waiting (h : Whl S B w p room now m) : Calls Try.prog 12 #[.pointer (some ⟨p, 0, none⟩)] w (Says (.int .i64 (m.length : Int)) w) := by
  have KL := Lib.hid (lenOf h)
  have hp := h.lt
  clear h
  go_enter Try.func12, Try.ntmps12
  go_wp2_with (fail)
  with_reducible refine KL.out.mono ?_
  rintro e w1 ⟨rfl, rfl⟩
  go_wp2
  go_ret
  exact ⟨rfl, rfl⟩
set_option maxHeartbeats 400000 in
theorem drop_no (id : Int) (h : Whl S B w p room now m) (hid : id ∉ m.map idK) : Calls Try.prog 10 #[.pointer (some ⟨p, 0, none⟩), .int .i64 id] w (Tells (.bool false) w) := by
  have KL := Lib.hid (cancel_no id h hid)
  have hp := h.lt
  clear h hid
  go_enter Try.func10, Try.ntmps10
  go_wp2_with (fail)
  with_reducible refine KL.out.mono ?_
  rintro e w1 ⟨rfl, hb⟩
  have HB := Lib.hid hb
  clear hb
  go_wp2
  go_ret
  exact ⟨rfl, HB.out⟩
set_option maxHeartbeats 400000 in
theorem drop_yes (id : Int) (h : Whl S B w p room now m) (hid : id ∈ m.map idK) : Calls Try.prog 10 #[.pointer (some ⟨p, 0, none⟩), .int .i64 id] w (Acts (.bool true) S B p room now (wo m id) w) := by
  have KL := Lib.hid (cancel_yes id h hid)
  have hp := h.lt
  clear h hid
  go_enter Try.func10, Try.ntmps10
  go_wp2_with (fail)
  with_reducible refine KL.out.mono ?_
  rintro e w1 ⟨rfl, hb⟩
  have HB := Lib.hid hb
  clear hb
  go_wp2
  go_ret
  exact ⟨rfl, HB.out⟩
end
end Go.Proofs.Ytlodfipiodlgdaa
