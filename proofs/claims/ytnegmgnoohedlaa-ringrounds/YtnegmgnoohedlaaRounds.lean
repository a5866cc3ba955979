/- The walk of the statement on rings that are filled and emptied again and again. -/
import Derived.Test.YtnegmgnoohedlaaHas
namespace Go.Proofs.Ytnegmgnoohedlaa.Rounds
open Go.RowKit
theorem byte_of {a : Int} (h : (Lit.int .u8 a).wf = true) : 0 ≤ a ∧ a ≤ 255 := by
  have h' : IntKind.u8.min ≤ a ∧ a ≤ IntKind.u8.max := by simpa [Lit.wf] using h
  have e1 : IntKind.u8.min = 0 := rfl
  have e2 : IntKind.u8.max = 255 := rfl
  omega
/-- The first k that are put. -/
def row (x : Int) (k : Nat) : List Int := (List.range k).map fun j : Nat => bits .xor .i64 x (j : Int)
theorem row_len (x : Int) (k : Nat) : (row x k).length = k := by simp [row]
theorem row_next (x : Int) (k : Nat) : row x k ++ [bits .xor .i64 x (k : Int)] = row x (k + 1) := by simp [row, List.range_succ]
theorem row_at (x : Int) {k n : Nat} (h : k < n) : (row x n)[k]? = some (bits .xor .i64 x (k : Int)) := by simp [row, h]
theorem row_drop (x : Int) {k n : Nat} (h : k < n) : (row x n).drop k = bits .xor .i64 x (k : Int) :: (row x n).drop (k + 1) := by
  have hk : k < (row x n).length := by rw [row_len]; exact h
  rw [List.drop_eq_getElem_cons hk]
  congr 1
  have := row_at x h
  rw [List.getElem?_eq_getElem hk] at this
  exact Option.some.inj this
theorem row_all (x : Int) (n : Nat) : (row x n).drop n = [] := List.drop_of_length_le (by rw [row_len]; exact Nat.le_refl _)
def PutRel (x : Int) (w : World) (p g n : Nat) (i : Value) (W : World) : Prop := ∃ k : Nat, k ≤ n ∧ i = .int .i64 (k : Int) ∧ IHas w p g n (row x k) W
def LookRel (x : Int) (w : World) (p g n : Nat) (i : Value) (W : World) : Prop := ∃ k : Nat, k ≤ n ∧ i = .int .i64 (k : Int) ∧ IHas w p g n (row x n) W
def TakeRel (x : Int) (w : World) (p g n : Nat) (i : Value) (W : World) : Prop := ∃ k : Nat, k ≤ n ∧ i = .int .i64 (k : Int) ∧ IHas w p g n ((row x n).drop k) W
def OutRel (w : World) (p g n : Nat) (i : Value) (W : World) : Prop := ∃ k : Nat, i = .int .i64 (k : Int) ∧ k ≤ 20 ∧ IHas w p g n [] W
theorem size_is {p g n f : Nat} {xs : List Int} {w : World} (m : Int) (hm : (xs.length : Int) = m) (h : I.Is w p g n f xs) :
    Calls Try.prog 22 #[.pointer (some ⟨p, 0, none⟩)] w (Says (.int .i64 m) w) := by
  rw [← hm]; exact I.size h
set_option maxRecDepth 100000 in
set_option maxHeartbeats 2000000 in
theorem core (a0 a1 a2 : Int) (w : World) (b0 : 0 ≤ a0 ∧ a0 ≤ 255) (b1 : 0 ≤ a1 ∧ a1 ≤ 255) :
    Calls Try.prog 7 #[.int .u8 a0, .int .u8 a1, .int .i64 a2] w (Woke w) := by
  obtain ⟨b00, b01⟩ := b0
  obtain ⟨b10, b11⟩ := b1
  go_enter Try.func7, Try.ntmps7
  go_wp2_with (fail)
  obtain ⟨n, hn⟩ := Int.eq_ofNat_of_zero_le (show 0 ≤ 1 + a0 % 40 by omega)
  have n1 : 1 ≤ n := by omega
  have n2 : n ≤ 40 := by omega
  rw [hn]
  clear hn
  refine (I.new n _ n1 (by omega)).mono ?_
  rintro e w1 ⟨p, g, rfl, hp, hg, hr, hb⟩
  have H1 := Lib.hid (Has.new hp hg hr hb)
  clear hr hp hg hb
  go_wp2_with (fail)
  refine (awake _).mono ?_
  rintro e w2 ⟨rfl, hb⟩
  have H2 := Lib.hid (H1.out.more hb)
  clear hb H1
  go_wp2
  go_loopw [10] (fun i W => OutRel w p g n i W) (fun i _ => 20 - (intOf i).toNat)
  case atStart => exact ⟨0, rfl, by omega, H2.out⟩
  case round =>
    obtain ⟨r, rfl, hr, hh⟩ := hrel
    have H3 := Lib.hid hh
    clear hh
    by_cases hlt : (r : Int) < a1 % 20
    · have t1 : decide ((r : Int) < a1 % 20) = true := by simp; omega
      go_wp2
      go_loopw [11] (fun i W => PutRel a2 w p g n i W) (fun i _ => n - (intOf i).toNat)
      case atStart => exact ⟨0, by omega, rfl, H3.out⟩
      case round =>
        obtain ⟨k, hk, rfl, hh⟩ := hrel
        have H4 := Lib.hid hh
        clear hh
        by_cases hkn : k < n
        · have t2 : decide ((k : Int) < (n : Int)) = true := by simp; omega
          have hlen : (row a2 k).length < n := by rw [row_len]; exact hkn
          obtain ⟨f, hring⟩ := H4.out.ring
          have HR := Lib.hid hring
          clear hring
          go_wp2_with (fail)
          with_reducible refine (I.put _ hlen HR.out).mono ?_
          rintro e w4 ⟨rfl, hr4, ht4⟩
          have H5 := Lib.hid ((H4.out.turn ⟨f, hr4⟩ ht4).eq (row_next a2 k))
          clear hr4 ht4
          go_wp2
          go_roundw
          case rel => exact ⟨k + 1, by omega, by go_num, H5.out⟩
          case measure => simp [intOf]; omega
        · have t2 : decide ((k : Int) < (n : Int)) = false := by simp; omega
          have t2' : decide (k < n) = false := by simp; omega
          have H6 := Lib.hid (H4.out.eq (show row a2 k = row a2 n by rw [show k = n by omega]))
          clear H4
          go_wp2
          go_loopw [12] (fun i W => LookRel a2 w p g n i W) (fun i _ => n - (intOf i).toNat)
          case atStart => exact ⟨0, by omega, rfl, H6.out⟩
          case round =>
            obtain ⟨j, hj, rfl, hh⟩ := hrel
            have H7 := Lib.hid hh
            clear hh
            by_cases hjn : j < n
            · have t3 : decide ((j : Int) < (n : Int)) = true := by simp; omega
              obtain ⟨f, hring⟩ := H7.out.ring
              have HR := Lib.hid hring
              clear hring
              go_wp2_with (fail)
              with_reducible refine (I.at_some j _ (row_at a2 hjn) HR.out).mono ?_
              rintro e w5 ⟨rfl, m, rfl⟩
              go_wp2
              go_roundw
              case rel => exact ⟨j + 1, by omega, by go_num, H7.out.drewN _⟩
              case measure => simp [intOf]; omega
            · have t3 : decide ((j : Int) < (n : Int)) = false := by simp; omega
              have t3' : decide (j < n) = false := by simp; omega
              go_wp2
              go_loopw [15] (fun i W => TakeRel a2 w p g n i W) (fun i _ => n - (intOf i).toNat)
              case atStart => exact ⟨0, by omega, rfl, H7.out⟩
              case round =>
                obtain ⟨i, hi, rfl, hh⟩ := hrel
                have H8 := Lib.hid hh
                clear hh
                by_cases hin : i < n
                · have t4 : decide ((i : Int) < (n : Int)) = true := by simp; omega
                  have H9 := Lib.hid (H8.out.eq (row_drop a2 hin))
                  obtain ⟨f, hring⟩ := H9.out.ring
                  have HR := Lib.hid hring
                  clear hring
                  go_wp2_with (fail)
                  with_reducible refine (I.take HR.out).mono ?_
                  rintro e w6 ⟨rfl, hr6, ht6⟩
                  have H10 := Lib.hid (H9.out.turn hr6 ht6)
                  clear ht6
                  obtain ⟨f6, hr6⟩ := hr6
                  have HR6 := Lib.hid hr6
                  clear hr6
                  go_wp2_with (fail)
                  with_reducible refine (size_is ((n : Int) - (i : Int) - 1) (by rw [List.length_drop, row_len]; omega) HR6.out).mono ?_
                  rintro e w' ⟨rfl, rfl⟩
                  go_wp2
                  go_roundw
                  case rel => exact ⟨i + 1, by omega, by go_num, H10.out⟩
                  case measure => simp [intOf]; omega
                · have t4 : decide ((i : Int) < (n : Int)) = false := by simp; omega
                  have t4' : decide (i < n) = false := by simp; omega
                  have H11 := Lib.hid (H8.out.eq (show (row a2 n).drop i = [] by rw [show i = n by omega, row_all]))
                  go_wp2
                  go_roundw
                  case rel => exact ⟨r + 1, by go_num, by omega, H11.out⟩
                  case measure => simp [intOf]; omega
    · have t1 : decide ((r : Int) < a1 % 20) = false := by simp; omega
      obtain ⟨f, hring⟩ := H3.out.ring
      have HR := Lib.hid hring
      clear hring
      go_wp2_with (fail)
      with_reducible refine (I.size HR.out).mono ?_
      rintro e w' ⟨rfl, rfl⟩
      go_wp2
      go_ret
      exact ⟨rfl, H3.out.below⟩
end Go.Proofs.Ytnegmgnoohedlaa.Rounds
