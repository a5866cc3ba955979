/- What is asked of one byte; what digits stand for. -/
import Derived.Test.YtbijgmaeechmoaaDoorLBy
namespace Go.Proofs.YtbijgmaeechmoaaDoor.Lx
open Go.RowKit

def smallB (z : Int) : Bool := decide (97 ≤ z) && decide (z ≤ 122)
def digitB (z : Int) : Bool := decide (48 ≤ z) && decide (z ≤ 57)
theorem small_eq (c : UInt8) : smallB (c.toNat : Int) = smallC c := by
  unfold smallB smallC
  rw [show decide ((97 : Int) ≤ (c.toNat : Int)) = decide (97 ≤ c.toNat) from decide_eq_decide.2 (by omega), show decide ((c.toNat : Int) ≤ 122) = decide (c.toNat ≤ 122) from decide_eq_decide.2 (by omega)]
theorem digit_eq (c : UInt8) : digitB (c.toNat : Int) = digitC c := by
  unfold digitB digitC
  rw [show decide ((48 : Int) ≤ (c.toNat : Int)) = decide (48 ≤ c.toNat) from decide_eq_decide.2 (by omega), show decide ((c.toNat : Int) ≤ 57) = decide (c.toNat ≤ 57) from decide_eq_decide.2 (by omega)]

set_option maxHeartbeats 400000 in
theorem smallZ (z : Int) (w : World) : Calls Tryd.prog 48 #[.int .u8 z] w (Says (.bool (smallB z)) w) := by
  unfold smallB
  by_cases h : 97 ≤ z
  · go_enter Tryd.func48, Tryd.ntmps48
    go_wp2
    go_ret
    exact ⟨by simp [h], rfl⟩
  · have e : decide (97 ≤ z) = false := decide_eq_false h
    have HE := Lib.hid e
    clear e
    go_enter Tryd.func48, Tryd.ntmps48
    go_wp2
    go_ret
    exact ⟨by rw [HE.out]; rfl, rfl⟩
set_option maxHeartbeats 400000 in
theorem digitZ (z : Int) (w : World) : Calls Tryd.prog 51 #[.int .u8 z] w (Says (.bool (digitB z)) w) := by
  unfold digitB
  by_cases h : 48 ≤ z
  · go_enter Tryd.func51, Tryd.ntmps51
    go_wp2
    go_ret
    exact ⟨by simp [h], rfl⟩
  · have e : decide (48 ≤ z) = false := decide_eq_false h
    have HE := Lib.hid e
    clear e
    go_enter Tryd.func51, Tryd.ntmps51
    go_wp2
    go_ret
    exact ⟨by rw [HE.out]; rfl, rfl⟩
theorem small (c : UInt8) (w : World) : Calls Tryd.prog 48 #[.int .u8 (c.toNat : Int)] w (Says (.bool (smallC c)) w) := by rw [← small_eq]; exact smallZ _ w
theorem digit (c : UInt8) (w : World) : Calls Tryd.prog 51 #[.int .u8 (c.toNat : Int)] w (Says (.bool (digitC c)) w) := by rw [← digit_eq]; exact digitZ _ w

set_option maxHeartbeats 400000 in
theorem blank (c : UInt8) (w : World) : Calls Tryd.prog 53 #[.int .u8 (c.toNat : Int)] w (Says (.bool (blankC c)) w) := by
  by_cases h : c.toNat = 32
  · have HB := Lib.hid (show blankC c = true by simp [blankC, h])
    rw [h]
    go_enter Tryd.func53, Tryd.ntmps53
    go_wp2
    go_ret
    exact ⟨by rw [HB.out]; rfl, rfl⟩
  · by_cases h9 : c.toNat = 9
    · have HB := Lib.hid (show blankC c = true by simp [blankC, h9])
      rw [h9]
      go_enter Tryd.func53, Tryd.ntmps53
      go_wp2
      go_ret
      exact ⟨by rw [HB.out]; rfl, rfl⟩
    · have HB := Lib.hid (show blankC c = false by simp [blankC, h, h9])
      obtain ⟨z, hz⟩ : ∃ z : Int, z = (c.toNat : Int) := ⟨_, rfl⟩
      rw [← hz]
      have t1 : (z == 32) = false := by simp; omega
      have t2 : (z == 9) = false := by simp; omega
      clear hz h h9
      go_enter Tryd.func53, Tryd.ntmps53
      go_wp2
      go_ret
      exact ⟨by rw [HB.out]; rfl, rfl⟩
set_option maxHeartbeats 400000 in
theorem inLine (c : UInt8) (w : World) : Calls Tryd.prog 54 #[.int .u8 (c.toNat : Int)] w (Says (.bool (lineC c)) w) := by
  by_cases h : c.toNat = 10
  · have HB := Lib.hid (show lineC c = false by simp [lineC, h])
    rw [h]
    go_enter Tryd.func54, Tryd.ntmps54
    go_wp2
    go_ret
    exact ⟨by rw [HB.out]; rfl, rfl⟩
  · have HB := Lib.hid (show lineC c = true by simp [lineC, h])
    obtain ⟨z, hz⟩ : ∃ z : Int, z = (c.toNat : Int) := ⟨_, rfl⟩
    rw [← hz]
    have t1 : (z != 10) = true := by simp; omega
    clear hz h
    go_enter Tryd.func54, Tryd.ntmps54
    go_wp2
    go_ret
    exact ⟨by rw [HB.out]; rfl, rfl⟩
set_option maxHeartbeats 800000 in
theorem inWord (c : UInt8) (w : World) : Calls Tryd.prog 50 #[.int .u8 (c.toNat : Int)] w (Says (.bool (signC c)) w) := by
  have hS := small c w
  have hD := digit c w
  obtain ⟨z, hz⟩ : ∃ z : Int, z = (c.toNat : Int) := ⟨_, rfl⟩
  rw [← hz] at hS hD ⊢
  cases h1 : smallC c with
  | true =>
    have HB := Lib.hid (show signC c = true by simp [signC, h1])
    rw [h1] at hS
    have HS := Lib.hid hS
    clear hS hD h1 hz
    go_enter Tryd.func50, Tryd.ntmps50
    go_wp2_with (fail)
    with_reducible refine HS.out.mono ?_
    rintro e w' ⟨rfl, rfl⟩
    go_wp2
    go_ret
    exact ⟨by rw [HB.out]; rfl, rfl⟩
  | false =>
    cases h2 : digitC c with
    | true =>
      have HB := Lib.hid (show signC c = true by simp [signC, h2])
      rw [h1] at hS
      rw [h2] at hD
      have HS := Lib.hid hS
      have HD := Lib.hid hD
      clear hS hD h1 h2 hz
      go_enter Tryd.func50, Tryd.ntmps50
      go_wp2_with (fail)
      with_reducible refine HS.out.mono ?_
      rintro e w' ⟨rfl, rfl⟩
      go_wp2_with (fail)
      with_reducible refine HD.out.mono ?_
      rintro e w' ⟨rfl, rfl⟩
      go_wp2
      go_ret
      exact ⟨by rw [HB.out]; rfl, rfl⟩
    | false =>
      rw [h1] at hS
      rw [h2] at hD
      have HS := Lib.hid hS
      have HD := Lib.hid hD
      by_cases h95 : z = 95
      · have HB := Lib.hid (show signC c = true by simp [signC]; omega)
        subst h95
        clear hS hD h1 h2 hz
        go_enter Tryd.func50, Tryd.ntmps50
        go_wp2_with (fail)
        with_reducible refine HS.out.mono ?_
        rintro e w' ⟨rfl, rfl⟩
        go_wp2_with (fail)
        with_reducible refine HD.out.mono ?_
        rintro e w' ⟨rfl, rfl⟩
        go_wp2
        go_ret
        exact ⟨by rw [HB.out]; rfl, rfl⟩
      · have HB := Lib.hid (show signC c = false by simp [signC, h1, h2]; omega)
        have t1 : (z == 95) = false := by simp [h95]
        clear hS hD h1 h2 hz
        go_enter Tryd.func50, Tryd.ntmps50
        go_wp2_with (fail)
        with_reducible refine HS.out.mono ?_
        rintro e w' ⟨rfl, rfl⟩
        go_wp2_with (fail)
        with_reducible refine HD.out.mono ?_
        rintro e w' ⟨rfl, rfl⟩
        go_wp2
        go_ret
        exact ⟨by rw [HB.out]; rfl, rfl⟩

/-- The statement's own kinds of bytes. -/
def kindC (c : UInt8) : Int := if smallC c then 1 else if digitC c then 2 else if c.toNat = 95 then 3 else if blankC c then 4 else if c.toNat = 10 then 5 else if c.toNat = 35 then 6 else 0
theorem kind_small {c : UInt8} (h : smallC c = true) : kindC c = 1 := by simp [kindC, h]
theorem kind_digit {c : UInt8} (h : digitC c = true) : kindC c = 2 := by simp [kindC, h, small_not_digit h]
theorem kind_blank {c : UInt8} (h : blankC c = true) : kindC c = 4 := by
  have h1 : smallC c = false := by simp [blankC, smallC] at *; omega
  have h2 : digitC c = false := by simp [blankC, digitC] at *; omega
  have h3 : c.toNat ≠ 95 := by simp [blankC] at h; omega
  simp [kindC, h1, h2, h3, h]
theorem kind_line {c : UInt8} (h : c.toNat = 10) : kindC c = 5 := by
  have h1 : smallC c = false := by simp [smallC]; omega
  have h2 : digitC c = false := by simp [digitC]; omega
  have h3 : blankC c = false := by simp [blankC]; omega
  simp [kindC, h1, h2, h3, h]
theorem kind_mark {c : UInt8} (h : c.toNat = 35) : kindC c = 6 := by
  have h1 : smallC c = false := by simp [smallC]; omega
  have h2 : digitC c = false := by simp [digitC]; omega
  have h3 : blankC c = false := by simp [blankC]; omega
  simp [kindC, h1, h2, h3, h]
theorem kind_bad {c : UInt8} (h1 : smallC c = false) (h2 : digitC c = false) (h3 : blankC c = false) (h4 : c.toNat ≠ 35) (h5 : c.toNat ≠ 10) : kindC c = 0 ∨ kindC c = 3 := by
  by_cases h : c.toNat = 95
  · right; simp [kindC, h1, h2, h]
  · left; simp [kindC, h1, h2, h3, h4, h5, h]
theorem kind_sign (c : UInt8) : (1 ≤ kindC c ∧ kindC c ≤ 3) ↔ signC c = true := by
  unfold kindC signC
  cases smallC c <;> cases digitC c <;> by_cases h : c.toNat = 95 <;> simp [h] <;> (repeat' split) <;> simp_all
theorem kind_digit_iff (c : UInt8) : kindC c = 2 ↔ digitC c = true := by
  constructor
  · intro h
    unfold kindC at h
    cases hs : smallC c <;> cases hd : digitC c <;> simp [hs, hd] at h ⊢
    repeat' split at h
    all_goals simp_all
  · exact kind_digit
theorem kind_line_iff (c : UInt8) : kindC c ≠ 5 ↔ lineC c = true := by
  constructor
  · intro h
    by_cases h' : c.toNat = 10
    · exact absurd (kind_line h') h
    · simp [lineC, h']
  · intro h h5
    have h' : c.toNat ≠ 10 := by simpa [lineC] using h
    unfold kindC at h5
    repeat' split at h5
    all_goals simp_all
end Go.Proofs.YtbijgmaeechmoaaDoor.Lx
