/- The statements' own digits. -/
import Derived.Test.YtbijgmaeechmoaaDoorPv
import Derived.Test.YtbijgmaeechmoaaDoorLBa
import Derived.Lib.SmallJoins
namespace Go.Proofs.YtbijgmaeechmoaaDoor
open Go.RowKit Kx Lx
set_option maxRecDepth 100000

set_option maxHeartbeats 1000000 in
theorem digits1 (n : Nat) (hn : n < 10) (w : World) : Calls Tryd.prog 35 #[.int .u64 (n : Int)] w (Makes (.string ⟨(Lib.decDigits n).toArray⟩) w) := by
  have t1 : decide ((n : Int) < 10) = true := by simp; omega
  have hC := (bytes_one w (UInt8.ofNat (48 + n)) (z := 48 + (n : Int)) (by rw [dig_toNat hn]; simp)).whole 1
  rw [dec_small hn]
  generalize [UInt8.ofNat (48 + n)].toArray = S at hC ⊢
  simp only [List.length_cons, List.length_nil, Nat.zero_add] at hC
  go_enter Tryd.func35, Tryd.ntmps35
  go_wp2
  go_ret
  exact ⟨rfl, below_new _ _⟩
theorem text_eq {a b : ByteArray} (h : a.data.toList = b.data.toList) : a = b := by
  cases a; cases b
  simp only [ByteArray.mk.injEq]
  exact Array.toList_inj.1 h
theorem text_append (a b : List UInt8) : (⟨a.toArray⟩ : ByteArray) ++ (⟨b.toArray⟩ : ByteArray) = ⟨(a ++ b).toArray⟩ :=
  text_eq (by rw [Joins.data_append])

theorem dec_len : ∀ (k n : Nat), n < 10 ^ (k + 1) → (Lib.decDigits n).length ≤ k + 1
  | 0, n, h => by rw [dec_small (by simpa using h)]; simp
  | k + 1, n, h => by
    by_cases h10 : n < 10
    · rw [dec_small h10]; simp
    · rw [dec_big h10, List.length_append]
      have := dec_len k (n / 10) (by rw [Nat.pow_succ] at h; omega)
      simp; omega
theorem dec_len20 {n : Nat} (h : n < 18446744073709551616) : (Lib.decDigits n).length ≤ 20 := dec_len 19 n (Nat.lt_of_lt_of_le h (by decide))

set_option maxHeartbeats 1000000 in
theorem digits_ (n : Nat) : n < 18446744073709551616 → ∀ w, Calls Tryd.prog 35 #[.int .u64 (n : Int)] w (Makes (.string ⟨(Lib.decDigits n).toArray⟩) w) := by
  induction n using Nat.strongRecOn with
  | _ n ih =>
    intro hn w
    by_cases h10 : n < 10
    · exact digits1 n h10 w
    · have t1 : decide ((n : Int) < 10) = false := by simp; omega
      have k1 := ih (n / 10) (by omega) (by omega)
      have k2 := fun w => digits1 (n % 10) (by omega) w
      rw [show (((n / 10 : Nat)) : Int) = (n : Int) / 10 by omega] at k1
      rw [show (((n % 10 : Nat)) : Int) = (n : Int) % 10 by omega] at k2
      have HD := Lib.hid (show Lib.decDigits n = Lib.decDigits (n / 10) ++ Lib.decDigits (n % 10) by rw [dec_big h10, dec_small (u := n % 10) (by omega)])
      have K1 := Lib.hid k1
      have K2 := Lib.hid k2
      have l1 : (Lib.decDigits (n / 10)).length ≤ 20 := dec_len20 (by omega)
      have l2 : (Lib.decDigits (n % 10)).length ≤ 20 := dec_len20 (by omega)
      clear ih k1 k2
      generalize Lib.decDigits n = D at HD ⊢
      generalize Lib.decDigits (n / 10) = E at HD K1 l1
      generalize Lib.decDigits (n % 10) = F at HD K2 l2
      go_enter Tryd.func35, Tryd.ntmps35
      go_wp2_with (fail)
      with_reducible refine (K1.out _).mono ?_
      rintro e w1 ⟨rfl, hb1⟩
      have H1 := Lib.hid hb1
      clear hb1
      go_wp2_with (fail)
      with_reducible refine (K2.out _).mono ?_
      rintro e w2 ⟨rfl, hb2⟩
      have H2 := Lib.hid (H1.out.trans (hb2.mono H1.out.size))
      clear hb2
      go_wp2
      go_ret
      refine ⟨?_, H2.out⟩
      rw [HD.out, ← text_append]
      rfl
set_option maxHeartbeats 1000000 in
/-- The statements' own number. -/
theorem number (n : Int) (hn : Wide n) (w : World) : Calls Tryd.prog 24 #[.int .i64 n] w (Makes (.string ⟨(Lib.itoa n).toArray⟩) w) := by
  obtain ⟨h0, h1⟩ := hn
  by_cases hneg : n < 0
  · have t1 : decide (n < 0) = true := decide_eq_true hneg
    have k := digits_ n.natAbs (by omega)
    rw [show ((n.natAbs : Nat) : Int) = -(n + 1) + 1 by omega] at k
    have K := Lib.hid k
    have HD := Lib.hid (show Lib.itoa n = [45] ++ Lib.decDigits n.natAbs from if_pos hneg)
    clear k
    have l1 : (Lib.decDigits n.natAbs).length ≤ 20 := dec_len20 (by omega)
    generalize Lib.itoa n = D at HD ⊢
    generalize Lib.decDigits n.natAbs = E at HD K l1
    go_enter Tryd.func24, Tryd.ntmps24
    go_wp2_with (fail)
    with_reducible refine (K.out _).mono ?_
    rintro e w1 ⟨rfl, hb1⟩
    have H1 := Lib.hid hb1
    clear hb1
    go_wp2
    go_ret
    refine ⟨?_, H1.out⟩
    rw [HD.out, ← text_append]
    rfl
  · have t1 : decide (n < 0) = false := decide_eq_false hneg
    have k := digits_ n.toNat (by omega)
    rw [show ((n.toNat : Nat) : Int) = n by omega] at k
    have K := Lib.hid k
    have HD := Lib.hid (show Lib.itoa n = Lib.decDigits n.toNat from if_neg hneg)
    clear k
    generalize Lib.itoa n = D at HD ⊢
    generalize Lib.decDigits n.toNat = E at HD K
    go_enter Tryd.func24, Tryd.ntmps24
    go_wp2_with (fail)
    with_reducible refine (K.out _).mono ?_
    rintro e w1 ⟨rfl, hb1⟩
    have H1 := Lib.hid hb1
    clear hb1
    go_wp2
    go_ret
    exact ⟨by rw [HD.out]; rfl, H1.out⟩
set_option maxHeartbeats 1000000 in
/-- The statements' own word of a mode. -/
theorem refMode (m : Int) (w : World) : Calls Tryd.prog 13 #[.int .i64 m] w (Makes (.string ⟨(modeW m).toArray⟩) w) := by
  have HB := Lib.hid (below_new w (.cells #[.string ⟨#[110, 111, 110, 101]⟩, .string ⟨#[114, 101, 116, 114, 121]⟩, .string ⟨#[98, 108, 111, 99, 107]⟩, .string ⟨#[98, 97, 99, 107, 117, 112]⟩] 9))
  by_cases h0 : m < 0
  · have e0 : decide (m < 0) = true := decide_eq_true h0
    have HW := Lib.hid (show modeW m = [110, 111, 110, 101] by unfold modeW; rw [if_neg (by omega), if_neg (by omega), if_neg (by omega)])
    generalize modeW m = M at HW ⊢
    go_enter Tryd.func13, Tryd.ntmps13
    go_wp2
    go_ret
    exact ⟨by rw [HW.out]; rfl, HB.out⟩
  · have e0 : decide (m < 0) = false := decide_eq_false h0
    by_cases h3 : 3 < m
    · have e3 : decide (3 < m) = true := decide_eq_true h3
      have HW := Lib.hid (show modeW m = [110, 111, 110, 101] by unfold modeW; rw [if_neg (by omega), if_neg (by omega), if_neg (by omega)])
      generalize modeW m = M at HW ⊢
      go_enter Tryd.func13, Tryd.ntmps13
      go_wp2
      go_ret
      exact ⟨by rw [HW.out]; rfl, HB.out⟩
    · have hm : m = 0 ∨ m = 1 ∨ m = 2 ∨ m = 3 := by omega
      clear e0 h0 h3
      rcases hm with rfl | rfl | rfl | rfl
      all_goals
        go_enter Tryd.func13, Tryd.ntmps13
        go_wp2
        go_ret
        exact ⟨rfl, HB.out⟩
end Go.Proofs.YtbijgmaeechmoaaDoor
