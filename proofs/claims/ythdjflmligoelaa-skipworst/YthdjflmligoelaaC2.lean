/- The walk of SkipWorst. -/
import Derived.Test.YthdjflmligoelaaBo
namespace Go.Proofs.Ythdjflmligoelaa.InWorst
open Go.RowKit Nu

/-- So many jobs went, each met that must be, and the others missed. -/
def WorstRel (N : Nat) (w : World) (m n p g B : Nat) (v i : Value) (W : World) : Prop :=
  ∃ (k : Nat) (l : List Bool) (X : World), k ≤ N ∧ i = .int .i64 (k : Int) ∧ X = W ∧ 0 < dist m (lst n l) ∧ Both w 1 m n k 0 p g (lst n l) B v k l X

set_option maxRecDepth 100000 in
set_option maxHeartbeats 4000000 in
theorem core (a b : Int) (N : Nat) (w : World) (a0 : 0 ≤ a) (a1 : a < 256) (b0 : 0 ≤ b) (b1 : b < 256) (hN : N < 256) :
    Calls Try.prog 5 #[.int .u8 a, .int .u8 b, .int .u8 (N : Int)] w (Woke w) := by
  have k0 : 0 ≤ b % 64 := by omega
  have k1 : b % 64 < 64 := by omega
  have hk : 0 < 1 + b % 64 := by omega
  have m0 := Int.emod_nonneg a (show 1 + b % 64 ≠ 0 by omega)
  have m1 := Int.emod_lt_of_pos a hk
  have hk0 : ¬ (1 + b % 64 = 0) := by omega
  go_enter Try.func5, Try.ntmps5
  go_wp2_with (fail)
  refine (awake _).mono ?_
  rintro e w1 ⟨rfl, hb1⟩
  have B1 := Lib.hid hb1
  clear hb1
  go_wp2_with (fail)
  have hm1 : 1 ≤ 1 + a % (1 + b % 64) := by omega
  have hm2 : 1 + a % (1 + b % 64) ≤ 1 + b % 64 := by omega
  have hk2 : 1 + b % 64 ≤ 64 := by omega
  clear k0 k1 hk m0 m1 hk0
  generalize 1 + a % (1 + b % 64) = m at hm1 hm2 ⊢
  generalize 1 + b % 64 = k at hm2 hk2 ⊢
  obtain ⟨n, rfl⟩ : ∃ n : Nat, k = (n : Int) := ⟨k.toNat, by omega⟩
  obtain ⟨m, rfl⟩ : ∃ j : Nat, m = (j : Int) := ⟨m.toNat, by omega⟩
  have m1 : 1 ≤ m := by omega
  have m2 : m ≤ n := by omega
  have n2 : n ≤ 64 := by omega
  have KN := Lib.hid (new (kd := 1) (m := m) (n := n) ⟨.inl rfl, by omega, by omega, by omega⟩ w1)
  clear hm1 hm2 hk2
  with_reducible refine KN.out.mono ?_
  rintro e w2 ⟨p, g, rfl, hp, hg, hw, hb⟩
  have H2 := Lib.hid (Has.made B1.out hp hg hw hb)
  clear hp hg hw hb KN B1
  have n1 : 1 ≤ n := by omega
  have P : Pat 1 (m : Int) (n : Int) := H2.out.skp.1
  have HP := Lib.hid P
  clear P
  have hd0 : 0 < dist m (lst n []) := by rw [lst_nil]; have := dist_full (m := m) (n := n) m1 (by omega); omega
  have H3 := Lib.hid (Both.begin (H2.out.eq (lst_nil n).symm))
  obtain ⟨B, hB⟩ : ∃ B, B = w2.heap.size := ⟨_, rfl⟩
  rw [← hB] at H3
  have HD0 := Lib.hid hd0
  clear hB H2 hd0
  go_wp2
  go_loopw [11, 12] (fun v i W => WorstRel N w m n p g B v i W) (fun _ i _ => N - (intOf i).toNat)
  case atStart => exact ⟨0, [], _, by omega, rfl, rfl, HD0.out, H3.out⟩
  case round =>
    obtain ⟨k, l, X, hk, rfl, rfl, hd, hh⟩ := hrel
    have H4 := Lib.hid hh
    have HD := Lib.hid hd
    clear hh hd H3 HD0
    by_cases hlt : k < N
    · have t1 : decide ((k : Int) < (N : Int)) = true := by simp; omega
      have KM := mustOf H4.out.has.skp
      have KR := fun q => refMust HP.out (k : Int) (X.drewN q) (by omega) (by omega)
      have hb1 := fun h => (mustB_no (kd := 1) (m := m) (n := n) (j := k) (xs := lst n l) h)
      generalize mustB 1 m n k (lst n l) = x at KM hb1
      have hk1 := keeps m1 (length_lst n l) n1 HD.out x (fun h => (hb1 h).2)
      rw [lst_more n1] at hk1
      have HK := Lib.hid hk1
      clear hk1
      obtain ⟨hm1, hm2⟩ := more_none (fl := 0) m1 HK.out
      have HM := Lib.hid hm1
      have hb1 := fun h => (hb1 h).1
      generalize must 1 (k : Int) (m : Int) (n : Int) = r at KR hb1
      have KM := Lib.hid KM
      have KR := Lib.hid KR
      clear hm1
      obtain ⟨c, hcc⟩ : ∃ c, c = mets (lst n (l ++ [x])) := ⟨_, rfl⟩
      rw [← hcc] at hm2
      have HC := Lib.hid hcc.symm
      clear hcc
      cases r
      · go_wp2_with (fail)
        with_reducible refine KM.out.mono ?_
        rintro e w3 ⟨rfl, q1, rfl⟩
        go_wp2_with (fail)
        with_reducible refine (KR.out _).mono ?_
        rintro e w3 ⟨rfl, q2, rfl⟩
        have H5 := Lib.hid (H4.out.drewN (q1 + q2))
        clear H4 KM KR
        go_wp2_with (at_builtin; first
          | (refine append_bools _ rfl _ _ rfl B _ k l rfl (H5.out.own.alloc _) _ 1 1 [x] rfl rfl (one_bool (X.drewN (q1 + q2)) x) (by omega) (by have : B ≤ X.heap.size := H5.out.bx; simp; omega) ?_
             intro v2 w2 o2 g2
             have H6 : Hid (Both w 1 m n k 0 p g (lst n l) B v2 (k + 1) (l ++ [x]) w2) := Lib.hid (H5.out.grow o2 g2)
             clear o2 g2 H5))
        with_reducible refine (went H6.out.has.skp (by omega) x).mono ?_
        rintro e w4 ⟨rfl, hw, ht⟩
        rw [lst_more n1, HM.out] at hw
        have H7 := Lib.hid (H6.out.turn hw ht)
        clear hw ht H6
        obtain ⟨A, cap, rfl, hc⟩ := metOwn (n := n) H7.out.own (by omega) n2
        rw [HC.out] at hc
        have KC := Lib.hid hc
        clear hc
        go_wp2_with (fail)
        with_reducible refine KC.out.mono ?_
        rintro e w5 ⟨rfl, rfl⟩
        go_wp2
        go_roundw
        case rel => exact ⟨k + 1, _, _, by omega, by go_num, rfl, HK.out, H7.out⟩
        case measure => simp [intOf]; omega
      · have hx : x = true := by cases x with | true => rfl | false => exact absurd (hb1 rfl) (by simp)
        subst hx
        go_wp2_with (fail)
        with_reducible refine KM.out.mono ?_
        rintro e w3 ⟨rfl, q1, rfl⟩
        go_wp2_with (fail)
        with_reducible refine (KR.out _).mono ?_
        rintro e w3 ⟨rfl, q2, rfl⟩
        have H5 := Lib.hid (H4.out.drewN (q1 + q2))
        clear H4 KM KR
        go_wp2_with (at_builtin; first
          | (refine append_bools _ rfl _ _ rfl B _ k l rfl (H5.out.own.alloc _) _ 1 1 [true] rfl rfl (one_bool (X.drewN (q1 + q2)) true) (by omega) (by have : B ≤ X.heap.size := H5.out.bx; simp; omega) ?_
             intro v2 w2 o2 g2
             have H6 : Hid (Both w 1 m n k 0 p g (lst n l) B v2 (k + 1) (l ++ [true]) w2) := Lib.hid (H5.out.grow o2 g2)
             clear o2 g2 H5))
        with_reducible refine (went H6.out.has.skp (by omega) true).mono ?_
        rintro e w4 ⟨rfl, hw, ht⟩
        rw [lst_more n1, HM.out] at hw
        have H7 := Lib.hid (H6.out.turn hw ht)
        clear hw ht H6
        obtain ⟨A, cap, rfl, hc⟩ := metOwn (n := n) H7.out.own (by omega) n2
        rw [HC.out] at hc
        have KC := Lib.hid hc
        clear hc
        go_wp2_with (fail)
        with_reducible refine KC.out.mono ?_
        rintro e w5 ⟨rfl, rfl⟩
        go_wp2
        go_roundw
        case rel => exact ⟨k + 1, _, _, by omega, by go_num, rfl, HK.out, H7.out⟩
        case measure => simp [intOf]; omega
    · have t1 : decide ((k : Int) < (N : Int)) = false := by simp; omega
      obtain rfl : k = N := by omega
      have KF : Hid (Calls Try.prog 13 #[.pointer (some ⟨p, 0, none⟩)] X (Says (.int .i64 0) X)) := Lib.hid (failed H4.out.has.skp)
      have KJ := Lib.hid (jobs H4.out.has.skp)
      go_wp2_with (fail)
      with_reducible refine KF.out.mono ?_
      rintro e w4 ⟨rfl, rfl⟩
      go_wp2_with (fail)
      with_reducible refine KJ.out.mono ?_
      rintro e w4 ⟨rfl, rfl⟩
      go_wp2
      go_ret
      exact ⟨rfl, H4.out.below⟩
end Go.Proofs.Ythdjflmligoelaa.InWorst
