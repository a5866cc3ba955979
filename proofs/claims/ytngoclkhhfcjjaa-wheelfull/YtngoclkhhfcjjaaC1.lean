/- The walk of the statement on a wheel that is full. -/
import Derived.Test.YtngoclkhhfcjjaaAw
namespace Go.Proofs.Ytngoclkhhfcjjaa.Full
open Go.RowKit

/-- n entries of one time. -/
def rowA (a : Int) (n : Nat) : List Ky := (List.range n).map fun j : Nat => ((a, (j : Int)) : Ky)
theorem length_rowA (a : Int) (n : Nat) : (rowA a n).length = n := by simp [rowA]
theorem rowA_at {a : Int} {n i : Nat} (h : i < n) : (rowA a n)[i]? = some (a, (i : Int)) := by simp [rowA, h]
theorem rowA_succ (a : Int) (n : Nat) : rowA a (n + 1) = rowA a n ++ [(a, (n : Int))] := by simp [rowA, List.range_succ]
theorem rowA_mem {a : Int} {n : Nat} {d : Ky} (h : d ∈ rowA a n) : d.1 = a ∧ ∃ j : Nat, j < n ∧ d.2 = (j : Int) := by
  unfold rowA at h
  obtain ⟨j, hj, rfl⟩ := List.mem_map.1 h
  exact ⟨rfl, j, List.mem_range.1 hj, rfl⟩
theorem rowA_put (a : Int) (n : Nat) : putK (rowA a n) (a, (n : Int)) = rowA a (n + 1) := by
  have hp : posK (a, (n : Int)) (rowA a n) = n := by
    refine pos_eq (by rw [length_rowA]; omega) (fun i x hi hx => ?_) (fun x hx => ?_)
    · rw [rowA_at hi] at hx
      cases hx
      exact lt_iff.2 (.inr ⟨rfl, by show (i : Int) < (n : Int); omega⟩)
    · rw [List.getElem?_eq_none (by rw [length_rowA]; omega)] at hx
      cases hx
  unfold putK
  rw [hp, List.take_of_length_le (by rw [length_rowA]; omega), List.drop_of_length_le (by rw [length_rowA]; omega), rowA_succ]
theorem rowA_ids (a : Int) (n : Nat) : idK (a, (n : Int)) ∉ (rowA a n).map idK := fun h => by
  obtain ⟨d, hd, e⟩ := List.mem_map.1 h
  obtain ⟨-, j, hj, hd2⟩ := rowA_mem hd
  have : d.2 = (n : Int) := e
  omega
theorem rowA_due (a : Int) (n : Nat) : due (rowA a n) a = rowA a n := List.filter_eq_self.2 fun d hd => by have := (rowA_mem hd).1; simp; omega
theorem rowA_stay (a : Int) (n : Nat) : stay (rowA a n) a = [] := List.filter_eq_nil_iff.2 fun d hd => by have := (rowA_mem hd).1; simp; omega

def AddRel (w : World) (p k : Nat) (a : Int) (i : Value) (W : World) : Prop := ∃ (q : Nat) (S : Nat → Prop), q ≤ k ∧ i = .int .i64 (q : Int) ∧ Has w S p k 0 (rowA a q) W
def SeeRel (k : Nat) (i : Value) : Prop := ∃ q : Nat, q ≤ k ∧ i = .int .i64 (q : Int)

set_option maxRecDepth 100000 in
set_option maxHeartbeats 4000000 in
theorem core (n a : Int) (w : World) (h1 : 0 ≤ n) (h2 : n < 256) (h3 : 0 ≤ a) (h4 : a < 65536) : Calls Try.prog 7 #[.int .u8 n, .int .u16 a] w (Woke w) := by
  obtain ⟨k, hk1, hk2, hk3⟩ : ∃ k : Nat, 1 + n % 100 = (k : Int) ∧ 1 ≤ k ∧ k ≤ 100 := ⟨(1 + n % 100).toNat, by omega, by omega, by omega⟩
  have HK := Lib.hid hk1
  clear hk1
  have KN := Lib.hid (has_new (w0 := w) (W := w) k (Below.refl _ _) hk2 (by omega))
  go_enter Try.func7, Try.ntmps7
  go_wp2_with (fail)
  rw [HK.out]
  with_reducible refine KN.out.mono ?_
  rintro e w1 ⟨rfl, h, _⟩
  have H1 := Lib.hid h
  clear h
  have HW1 := Lib.hid H1.out.below
  obtain ⟨p, hp⟩ : ∃ p, p = w.heap.size := ⟨_, rfl⟩
  rw [← hp] at H1 ⊢
  clear hp
  go_wp2_with (fail)
  refine (awake _).mono ?_
  rintro e w2 ⟨rfl, hb2⟩
  have H2 := Lib.hid (H1.out.more hb2)
  clear hb2 H1 HW1
  go_wp2
  go_loopw [8] (fun i W => AddRel w p k a i W) (fun i _ => k - (intOf i).toNat)
  case atStart => exact ⟨0, _, by omega, rfl, H2.out⟩
  case round =>
    obtain ⟨q, S, hq, rfl, hh⟩ := hrel
    have H3 := Lib.hid hh
    clear hh H2
    by_cases hlt : q < k
    · have t1 : decide ((q : Int) < (k : Int)) = true := by simp; omega
      have KA := Lib.hid (has_add (a, (q : Int)) h3 (by show a ≤ 1099511627776; omega) (rowA_ids a q) (by rw [length_rowA]; exact hlt) H3.out)
      rw [rowA_put] at KA
      simp only [aggQ] at KA
      go_wp2_with (fail)
      with_reducible refine KA.out.mono ?_
      rintro e w4 ⟨rfl, ⟨S4, h4, _⟩, _⟩
      have H4 := Lib.hid h4
      clear h4
      go_wp2
      go_roundw
      case rel => exact ⟨q + 1, S4, by omega, by go_num, H4.out⟩
      case measure => simp [intOf]; omega
    · have t1 : decide ((q : Int) < (k : Int)) = false := by simp; omega
      have t1' : decide (q < k) = false := by simp; omega
      obtain rfl : q = k := by omega
      have KF := Lib.hid (has_add_full (a, (q : Int)) h3 (by show a ≤ 1099511627776; omega) (rowA_ids a q) (length_rowA a q) H3.out)
      simp only [aggQ] at KF
      go_wp2_with (fail)
      with_reducible refine KF.out.mono ?_
      rintro e w4 ⟨rfl, ⟨S4, h4, _⟩, _⟩
      have H4 := Lib.hid h4
      clear h4
      have KL := lenOf H4.out.whl
      rw [length_rowA] at KL
      have HKL := Lib.hid KL
      clear KL
      go_wp2_with (fail)
      with_reducible refine HKL.out.mono ?_
      rintro e w5 ⟨rfl, rfl⟩
      have KV := has_adv q a (by rw [rowA_due, length_rowA]) h3 (by omega) H4.out
      have HKV := Lib.hid KV
      clear KV
      go_wp2_with (fail)
      with_reducible refine HKV.out.mono ?_
      rintro e w6 ⟨A, c, rfl, h6, _, hc6, hk6, _⟩
      have H6 := Lib.hid (h6.eq (rowA_stay a q))
      rw [rowA_due] at hk6
      have HK6 := Lib.hid hk6
      clear h6 hk6
      go_wp2
      go_loop [11] (fun i => SeeRel q i) (fun i => q - (intOf i).toNat)
      case atStart => exact ⟨0, by omega, rfl⟩
      case round =>
        obtain ⟨j, hj, rfl⟩ := hrel
        by_cases hjq : j < q
        · have t2 : decide ((j : Int) < (q : Int)) = true := by simp; omega
          obtain ⟨b, off, rfl, hb, x0, x1⟩ := HK6.out.cells (rowA_at (a := a) hjq)
          simp only at x0 x1
          go_wp2
          go_round
          case rel => exact ⟨j + 1, by omega, by go_num⟩
          case measure => simp [intOf]; omega
        · have t2 : decide ((j : Int) < (q : Int)) = false := by simp; omega
          have t2' : decide (j < q) = false := by simp; omega
          have KL2 := Lib.hid (show Calls Try.prog 17 #[.pointer (some ⟨p, 0, none⟩)] w6 (Says (.int .i64 0) w6) from lenOf H6.out.whl)
          have KA2 := Lib.hid (has_add (a, (q : Int)) (Int.le_refl _) (by show a ≤ 1099511627776; omega) (by simp) (by simp; omega) H6.out)
          simp only [aggQ] at KA2
          go_wp2_with (fail)
          with_reducible refine KL2.out.mono ?_
          rintro e w7 ⟨rfl, rfl⟩
          go_wp2_with (fail)
          with_reducible refine KA2.out.mono ?_
          rintro e w8 ⟨rfl, ⟨S8, h8, _⟩, _⟩
          have HB := Lib.hid h8.below
          clear h8
          go_wp2
          go_ret
          exact ⟨rfl, HB.out⟩
end Go.Proofs.Ytngoclkhhfcjjaa.Full
