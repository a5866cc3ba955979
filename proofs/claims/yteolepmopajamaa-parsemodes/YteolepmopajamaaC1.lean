/- The walk of the statement on modes. -/
import Derived.Test.YteolepmopajamaaAw
namespace Go.Proofs.Yteolepmopajamaa
open Go.RowKit Lx Kx

theorem mode3 : modeF [98, 97, 99, 107, 117, 112] = 3 := by decide
theorem mode1 : modeF [114, 101, 116, 114, 121] = 1 := by decide
theorem as_list (s : ByteArray) : s = ⟨s.data.toList.toArray⟩ := rfl

set_option maxRecDepth 100000 in
set_option maxHeartbeats 4000000 in
theorem coreModes (s : ByteArray) (w : World) : Calls Try.prog 4 #[.string s] w (Woke w) := by
  have K1 := Lib.hid (fun w => mode s.data.toList w)
  have K2 := Lib.hid (fun w => refMode s.data.toList w)
  have hs : (⟨s.data.toList.toArray⟩ : ByteArray) = s := rfl
  rw [hs] at K1 K2
  clear hs
  generalize modeF s.data.toList = m at K1 K2
  have K3 := Lib.hid (fun w => mode [98, 97, 99, 107, 117, 112] w)
  rw [mode3] at K3
  have K4 := Lib.hid (fun w => mode [114, 101, 116, 114, 121] w)
  rw [mode1] at K4
  by_cases h5 : 1000 < s.size
  · have t1 : decide ((1000 : Int) < (s.size : Int)) = true := by simp; omega
    go_enter Try.func4, Try.ntmps4
    go_wp2_with (fail)
    refine (awake _).mono ?_
    rintro e w1 ⟨rfl, hb1⟩
    have H1 := Lib.hid hb1
    clear hb1
    go_wp2_with (fail)
    refine (awake _).mono ?_
    rintro e w2 ⟨rfl, hb2⟩
    have H2 := Lib.hid (H1.out.trans (hb2.mono H1.out.size))
    clear hb2
    go_wp2
    go_ret
    exact ⟨rfl, H2.out⟩
  · have t1 : decide ((1000 : Int) < (s.size : Int)) = false := by simp; omega
    go_enter Try.func4, Try.ntmps4
    go_wp2_with (fail)
    refine (awake _).mono ?_
    rintro e w1 ⟨rfl, hb1⟩
    have H1 := Lib.hid hb1
    clear hb1
    go_wp2_with (fail)
    with_reducible refine (K1.out _).mono ?_
    rintro e w2 ⟨rfl, rfl⟩
    go_wp2_with (fail)
    with_reducible refine (K2.out _).mono ?_
    rintro e w2 ⟨rfl, rfl⟩
    go_wp2_with (fail)
    with_reducible refine (K3.out _).mono ?_
    rintro e w2 ⟨rfl, rfl⟩
    go_wp2_with (fail)
    with_reducible refine (K4.out _).mono ?_
    rintro e w2 ⟨rfl, rfl⟩
    go_wp2
    go_ret
    exact ⟨rfl, H1.out⟩
end Go.Proofs.Yteolepmopajamaa
