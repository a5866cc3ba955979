/- The walk of the statement on names. -/
import Derived.Test.YtfendnccnhmllaaHas
namespace Go.Proofs.Ytfendnccnhmllaa
open Go.RowKit

theorem byteOf_left (s t : ByteArray) (i : Nat) (h : i < s.size) : byteOf (s ++ t) i = byteOf s i := by
  have h' : i < (s ++ t).size := by rw [ByteArray.size_append]; omega
  rw [byteOf, byteOf, dif_pos h, dif_pos h', ByteArray.getElem_append_left h]
theorem size_more (s : ByteArray) : (s ++ ⟨#[97]⟩).size = s.size + 1 := by rw [ByteArray.size_append]; rfl
theorem byteOf_last (s : ByteArray) : byteOf (s ++ ⟨#[97]⟩) s.size = 97 := by
  have h' : s.size < (s ++ ⟨#[97]⟩).size := by rw [size_more]; omega
  rw [byteOf, dif_pos h', ByteArray.getElem_append_right (Nat.le_refl _)]
  have h0 : ∀ (k : Nat) (hk : k < (⟨#[97]⟩ : ByteArray).size), (((⟨#[97]⟩ : ByteArray)[k]'hk).toNat : Int) = 97 := by
    intro k hk
    obtain rfl : k = 0 := by have : k < 1 := hk; omega
    rfl
  exact h0 _ _
theorem nm_more {s : ByteArray} (h : nm s = true) : nm (s ++ ⟨#[97]⟩) = decide (s.size < 12) := by
  obtain ⟨h1, h2, h3, h4⟩ := (nm_iff s).1 h
  have hsz := size_more s
  by_cases hs : s.size < 12
  · rw [decide_eq_true hs]
    refine (nm_iff _).2 ⟨by omega, by omega, ?_, fun i hi1 hi2 => ?_⟩
    · rw [byteOf_left s _ 0 (by omega)]; exact h3
    · rw [hsz] at hi2
      by_cases hi : i < s.size
      · rw [byteOf_left s _ i hi]; exact h4 i hi1 hi
      · obtain rfl : i = s.size := by omega
        rw [byteOf_last]; rfl
  · rw [decide_eq_false hs]
    exact nm_no (by omega)

theorem named_is {s : ByteArray} {b : Bool} (h : nm s = b) (w : World) : Calls Try.prog 19 #[.string s] w (Says (.bool b) w) := by have := named s w; rw [h] at this; exact this
theorem ref_named_is {s : ByteArray} {b : Bool} (h : nm s = b) (w : World) : Calls Try.prog 12 #[.string s] w (Says (.bool b) w) := by have := ref_named s w; rw [h] at this; exact this

namespace Names
set_option maxHeartbeats 1000000 in
theorem big (s : ByteArray) (w : World) (h : 100 < s.size) : Calls Try.prog 4 #[.string s] w (Woke w) := by
  have t1 : decide ((100 : Int) < (s.size : Int)) = true := by simp; omega
  go_enter Try.func4, Try.ntmps4
  go_wp2_with (fail)
  refine (awake _).mono ?_
  rintro e w1 ⟨rfl, hb⟩
  go_wp2_with (fail)
  refine (awake _).mono ?_
  rintro e w2 ⟨rfl, hb2⟩
  go_wp2
  go_ret
  exact ⟨rfl, hb.trans (hb2.mono hb.size)⟩

set_option maxHeartbeats 1000000 in
theorem core (s : ByteArray) (w : World) (h : s.size ≤ 100) : Calls Try.prog 4 #[.string s] w (Woke w) := by
  have t1 : decide ((100 : Int) < (s.size : Int)) = false := by simp; omega
  cases hn : nm s with
  | false =>
    have HN := Lib.hid hn
    clear hn
    go_enter Try.func4, Try.ntmps4
    go_wp2_with (fail)
    refine (awake _).mono ?_
    rintro e w1 ⟨rfl, hb⟩
    go_wp2_with (fail)
    with_reducible refine (named_is HN.out _).mono ?_
    rintro e w' ⟨rfl, rfl⟩
    go_wp2_with (fail)
    with_reducible refine (ref_named_is HN.out _).mono ?_
    rintro e w' ⟨rfl, rfl⟩
    go_wp2_with (fail)
    with_reducible refine (ref_named_is HN.out _).mono ?_
    rintro e w' ⟨rfl, rfl⟩
    go_wp2
    go_ret
    exact ⟨rfl, hb⟩
  | true =>
    have HN := Lib.hid hn
    have hm := nm_more hn
    obtain ⟨b, hb⟩ : ∃ b, b = decide (s.size < 12) := ⟨_, rfl⟩
    have t2 : decide ((s.size : Int) < 12) = b := by rw [hb]; exact decide_eq_decide.2 (by omega)
    have t2' : decide (s.size < 12) = b := hb.symm
    rw [← hb] at hm
    have HM := Lib.hid hm
    clear hn hm hb
    go_enter Try.func4, Try.ntmps4
    go_wp2_with (fail)
    refine (awake _).mono ?_
    rintro e w1 ⟨rfl, hb⟩
    go_wp2_with (fail)
    with_reducible refine (named_is HN.out _).mono ?_
    rintro e w' ⟨rfl, rfl⟩
    go_wp2_with (fail)
    with_reducible refine (ref_named_is HN.out _).mono ?_
    rintro e w' ⟨rfl, rfl⟩
    go_wp2_with (fail)
    with_reducible refine (ref_named_is HN.out _).mono ?_
    rintro e w' ⟨rfl, rfl⟩
    go_wp2_with (fail)
    with_reducible refine (named_is HM.out _).mono ?_
    rintro e w' ⟨rfl, rfl⟩
    go_wp2
    go_ret
    exact ⟨rfl, hb⟩
end Names
end Go.Proofs.Ytfendnccnhmllaa
