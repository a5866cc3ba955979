/- The walk of SkipFirm. -/
import Derived.Test.YthdjflmligoelaaBo
namespace Go.Proofs.Ythdjflmligoelaa.InFirm
open Go.RowKit Nu

set_option maxHeartbeats 1000000 in
theorem big (d : Bool) (a b : Int) (x : Option Addr) (len cap : Nat) (w : World) (hm : len ≤ maxLen) (h : 300 < len) : Calls Try.prog 4 #[.bool d, .int .u8 a, .int .u8 b, .slice x len cap] w (Woke w) := by
  unfold maxLen at hm
  have t1 : decide ((300 : Int) < (len : Int)) = true := by simp; omega
  go_enter Try.func4, Try.ntmps4
  go_wp2_with (fail)
  refine (awake _).mono ?_
  rintro e w1 ⟨rfl, hb⟩
  go_wp2_with (fail)
  refine (awake _).mono ?_
  rintro e w2 ⟨rfl, hb2⟩
  go_wp2
  go_ret
  exact ⟨rfl, hb.trans (hb2.mono hb.size)⟩

/-- So many jobs went, each met that must be, the others as they may. -/
def FirmRel (N : Nat) (w : World) (kd : Int) (m n p g B : Nat) (v i : Value) (W : World) : Prop :=
  ∃ (k : Nat) (l : List Bool) (X : World), k ≤ N ∧ i = .int .i64 (k : Int) ∧ X = W ∧ 0 < dist m (lst n l) ∧ Both w kd m n k 0 p g (lst n l) B v k l X

set_option maxRecDepth 100000 in
set_option maxHeartbeats 8000000 in
theorem even (a b : Int) (x : Option Addr) (cap : Nat) (os : List Bool) (w : World) (a0 : 0 ≤ a) (a1 : a < 256) (b0 : 0 ≤ b) (b1 : b < 256) (hl : os.length ≤ 300) (ha : Bools w x cap os) :
    Calls Try.prog 4 #[.bool false, .int .u8 a, .int .u8 b, .slice x os.length cap] w (Woke w) := by
  have t0 : decide ((300 : Int) < (os.length : Int)) = false := by simp; omega
  have HA := Lib.hid ha
  clear ha
  have k0 : 0 ≤ b % 64 := by omega
  have k1 : b % 64 < 64 := by omega
  have hk : 0 < 1 + b % 64 := by omega
  have m0 := Int.emod_nonneg a (show 1 + b % 64 ≠ 0 by omega)
  have m1 := Int.emod_lt_of_pos a hk
  have hk0 : ¬ (1 + b % 64 = 0) := by omega
  go_enter Try.func4, Try.ntmps4
  go_wp2_with (fail)
  refine (awake _).mono ?_
  rintro e w1 ⟨rfl, hb1⟩
  have B1 := Lib.hid hb1
  clear hb1
  go_wp2_with (fail)
  have hm1 : 1 ≤ 1 + a % (1 + b % 64) := by omega
  have hm2 : 1 + a % (1 + b % 64) ≤ 1 + b % 64 := by omega
  have hk2 : 1 + b % 64 ≤ 64 := by omega
  clear k0 k1 hk m0 m1 hk0
  generalize 1 + a % (1 + b % 64) = m at hm1 hm2 ⊢
  generalize 1 + b % 64 = k at hm2 hk2 ⊢
  obtain ⟨n, rfl⟩ : ∃ n : Nat, k = (n : Int) := ⟨k.toNat, by omega⟩
  obtain ⟨m, rfl⟩ : ∃ j : Nat, m = (j : Int) := ⟨m.toNat, by omega⟩
  have m1 : 1 ≤ m := by omega
  have m2 : m ≤ n := by omega
  have n2 : n ≤ 64 := by omega
  have KN := Lib.hid (new (kd := 1) (m := m) (n := n) ⟨.inl rfl, by omega, by omega, by omega⟩ w1)
  clear hm1 hm2 hk2
  with_reducible refine KN.out.mono ?_
  rintro e w2 ⟨p, g, rfl, hp, hg, hw, hb⟩
  have H2 := Lib.hid (Has.made B1.out hp hg hw hb)
  clear hp hg hw hb KN B1
  have n1 : 1 ≤ n := by omega
  have hd0 : 0 < dist m (lst n []) := by rw [lst_nil]; have := dist_full (m := m) (n := n) m1 (by omega); omega
  have H3 := Lib.hid (Both.begin (H2.out.eq (lst_nil n).symm))
  obtain ⟨B, hB⟩ : ∃ B, B = w2.heap.size := ⟨_, rfl⟩
  rw [← hB] at H3
  have HD0 := Lib.hid hd0
  clear hB H2 hd0
  go_wp2
  go_loopw [14, 15] (fun v i W => FirmRel os.length w 1 m n p g B v i W) (fun _ i _ => os.length - (intOf i).toNat)
  case atStart => exact ⟨0, [], _, by omega, rfl, rfl, HD0.out, H3.out⟩
  case round =>
    obtain ⟨k, l, X, hk, rfl, rfl, hd, hh⟩ := hrel
    have H4 := Lib.hid hh
    have HD := Lib.hid hd
    clear hh hd H3 HD0
    by_cases hlt : k < os.length
    · have t1 : decide ((k : Int) < (os.length : Int)) = true := by simp; omega
      have KM := mustOf H4.out.has.skp
      have KM2 := fun q => mustOf (H4.out.drewN q).has.skp
      have hb1 := fun h => (mustB_no (kd := 1) (m := m) (n := n) (j := k) (xs := lst n l) h).2
      have hb2 := fun h : m = n => show mustB 1 m n k (lst n l) = true by subst h; exact mustB_hard m1
      generalize mustB 1 m n k (lst n l) = x0 at KM KM2 hb1 hb2
      have KM := Lib.hid KM
      have KM2 := Lib.hid KM2
      cases x0 with
      | true =>
        clear hb1 hb2
        have hk1 := keeps m1 (length_lst n l) n1 HD.out true (fun h => by cases h)
        rw [lst_more n1] at hk1
        have HK := Lib.hid hk1
        obtain ⟨hm1, hm2⟩ := more_none (fl := 0) m1 hk1
        have HM := Lib.hid hm1
        obtain ⟨c, hcc⟩ : ∃ c, c = mets (lst n (l ++ [true])) := ⟨_, rfl⟩
        rw [← hcc] at hm2
        have HC := Lib.hid hcc.symm
        obtain ⟨D, hDD⟩ : ∃ D, D = dist m (lst n (l ++ [true])) := ⟨_, rfl⟩
        rw [← hDD] at hk1
        have HDD := Lib.hid hDD.symm
        have r6 : ¬ D < 1 := by omega
        have r7 : decide ((D : Int) < 1) = false := by simp; omega
        clear hm1 hcc hDD hk1
        by_cases hmn : m = n
        · have hmn2 : n = m := hmn.symm
          clear hmn
          subst hmn2
          go_wp2_with (fail)
          with_reducible refine KM.out.mono ?_
          rintro e w3 ⟨rfl, q1, rfl⟩
          go_wp2_with (fail)
          with_reducible refine (KM2.out _).mono ?_
          rintro e w3 ⟨rfl, q2, rfl⟩
          have H5 := Lib.hid (H4.out.drewN (q1 + q2))
          clear H4 KM KM2
          go_wp2_with (at_builtin; first
            | (refine append_bools _ rfl _ _ rfl B _ k l rfl (H5.out.own.alloc _) _ 1 1 [true] rfl rfl (one_bool (X.drewN (q1 + q2)) true) (by omega) (by have : B ≤ X.heap.size := H5.out.bx; simp; omega) ?_
               intro v2 w2 o2 g2
               have H6 : Hid (Both w 1 n n k 0 p g (lst n l) B v2 (k + 1) (l ++ [true]) w2) := Lib.hid (H5.out.grow o2 g2)
               clear o2 g2 H5))
          with_reducible refine (went H6.out.has.skp (by omega) true).mono ?_
          rintro e w4 ⟨rfl, hw, ht⟩
          rw [lst_more n1, HM.out] at hw
          have H7 := Lib.hid (H6.out.turn hw ht)
          clear hw ht H6
          obtain ⟨A, cap2, rfl, hc⟩ := metOwn (n := n) H7.out.own (by omega) n2
          rw [HC.out] at hc
          have KC := Lib.hid hc
          have KF : Hid (Calls Try.prog 13 #[.pointer (some ⟨p, 0, none⟩)] w4 (Says (.int .i64 0) w4)) := Lib.hid (failed H7.out.has.skp)
          have KD := far H7.out.has.skp
          rw [HDD.out] at KD
          have KD := Lib.hid KD
          clear hc
          go_wp2_with (fail)
          with_reducible refine KC.out.mono ?_
          rintro e w5 ⟨rfl, rfl⟩
          go_wp2_with (fail)
          with_reducible refine KF.out.mono ?_
          rintro e w5 ⟨rfl, rfl⟩
          go_wp2_with (fail)
          with_reducible refine KD.out.mono ?_
          rintro e w5 ⟨rfl, q3, rfl⟩
          have H8 := Lib.hid (H7.out.drewN q3)
          go_wp2
          go_roundw
          case rel => exact ⟨k + 1, _, _, by omega, by go_num, rfl, HK.out, H8.out⟩
          case measure => simp [intOf]; omega
        · have r8 : ((m : Int) == (n : Int)) = false := by rw [beq_eq_false_iff_ne]; omega
          clear KM2
          go_wp2_with (fail)
          with_reducible refine KM.out.mono ?_
          rintro e w3 ⟨rfl, q1, rfl⟩
          have H5 := Lib.hid (H4.out.drewN q1)
          clear H4 KM
          go_wp2_with (at_builtin; first
            | (refine append_bools _ rfl _ _ rfl B _ k l rfl (H5.out.own.alloc _) _ 1 1 [true] rfl rfl (one_bool (X.drewN q1) true) (by omega) (by have : B ≤ X.heap.size := H5.out.bx; simp; omega) ?_
               intro v2 w2 o2 g2
               have H6 : Hid (Both w 1 m n k 0 p g (lst n l) B v2 (k + 1) (l ++ [true]) w2) := Lib.hid (H5.out.grow o2 g2)
               clear o2 g2 H5))
          with_reducible refine (went H6.out.has.skp (by omega) true).mono ?_
          rintro e w4 ⟨rfl, hw, ht⟩
          rw [lst_more n1, HM.out] at hw
          have H7 := Lib.hid (H6.out.turn hw ht)
          clear hw ht H6
          obtain ⟨A, cap2, rfl, hc⟩ := metOwn (n := n) H7.out.own (by omega) n2
          rw [HC.out] at hc
          have KC := Lib.hid hc
          have KF : Hid (Calls Try.prog 13 #[.pointer (some ⟨p, 0, none⟩)] w4 (Says (.int .i64 0) w4)) := Lib.hid (failed H7.out.has.skp)
          have KD := far H7.out.has.skp
          rw [HDD.out] at KD
          have KD := Lib.hid KD
          clear hc
          go_wp2_with (fail)
          with_reducible refine KC.out.mono ?_
          rintro e w5 ⟨rfl, rfl⟩
          go_wp2_with (fail)
          with_reducible refine KF.out.mono ?_
          rintro e w5 ⟨rfl, rfl⟩
          go_wp2_with (fail)
          with_reducible refine KD.out.mono ?_
          rintro e w5 ⟨rfl, q3, rfl⟩
          have H8 := Lib.hid (H7.out.drewN q3)
          go_wp2
          go_roundw
          case rel => exact ⟨k + 1, _, _, by omega, by go_num, rfl, HK.out, H8.out⟩
          case measure => simp [intOf]; omega
      | false =>
        have hmn : ¬ m = n := fun h => by have := hb2 h; cases this
        have r8 : ((m : Int) == (n : Int)) = false := by rw [beq_eq_false_iff_ne]; omega
        have hd1 := hb1 rfl
        have HD1 := Lib.hid hd1
        clear KM2 hb1 hb2 hd1
        have hx : os[k]? = some os[k] := by simp
        obtain ⟨bb, oo, rfl, _, hc⟩ := HA.out.at_ hx
        have ck : ∀ q, (X.drewN q).cell? ⟨bb, oo + k, none⟩ = some (.bool os[k]) := fun q => hc _ (H4.out.drewN q).below
        clear hx hc
        generalize os[k] = y at ck
        have hk1 := keeps m1 (length_lst n l) n1 HD.out y (fun _ => HD1.out)
        rw [lst_more n1] at hk1
        have HK := Lib.hid hk1
        obtain ⟨hm1, hm2⟩ := more_none (fl := 0) m1 hk1
        have HM := Lib.hid hm1
        obtain ⟨c, hcc⟩ : ∃ c, c = mets (lst n (l ++ [y])) := ⟨_, rfl⟩
        rw [← hcc] at hm2
        have HC := Lib.hid hcc.symm
        obtain ⟨D, hDD⟩ : ∃ D, D = dist m (lst n (l ++ [y])) := ⟨_, rfl⟩
        rw [← hDD] at hk1
        have HDD := Lib.hid hDD.symm
        have r6 : ¬ D < 1 := by omega
        have r7 : decide ((D : Int) < 1) = false := by simp; omega
        clear hm1 hcc hDD hk1
        go_wp2_with (fail)
        with_reducible refine KM.out.mono ?_
        rintro e w3 ⟨rfl, q1, rfl⟩
        have ck := ck q1
        have H5 := Lib.hid (H4.out.drewN q1)
        clear H4 KM
        go_wp2_with (at_builtin; first
          | (refine append_bools _ rfl _ _ rfl B _ k l rfl (H5.out.own.alloc _) _ 1 1 [y] rfl rfl (one_bool (X.drewN q1) y) (by omega) (by have : B ≤ X.heap.size := H5.out.bx; simp; omega) ?_
             intro v2 w2 o2 g2
             have H6 : Hid (Both w 1 m n k 0 p g (lst n l) B v2 (k + 1) (l ++ [y]) w2) := Lib.hid (H5.out.grow o2 g2)
             clear o2 g2 H5))
        with_reducible refine (went H6.out.has.skp (by omega) y).mono ?_
        rintro e w4 ⟨rfl, hw, ht⟩
        rw [lst_more n1, HM.out] at hw
        have H7 := Lib.hid (H6.out.turn hw ht)
        clear hw ht H6
        obtain ⟨A, cap2, rfl, hc⟩ := metOwn (n := n) H7.out.own (by omega) n2
        rw [HC.out] at hc
        have KC := Lib.hid hc
        have KF : Hid (Calls Try.prog 13 #[.pointer (some ⟨p, 0, none⟩)] w4 (Says (.int .i64 0) w4)) := Lib.hid (failed H7.out.has.skp)
        have KD := far H7.out.has.skp
        rw [HDD.out] at KD
        have KD := Lib.hid KD
        clear hc
        go_wp2_with (fail)
        with_reducible refine KC.out.mono ?_
        rintro e w5 ⟨rfl, rfl⟩
        go_wp2_with (fail)
        with_reducible refine KF.out.mono ?_
        rintro e w5 ⟨rfl, rfl⟩
        go_wp2_with (fail)
        with_reducible refine KD.out.mono ?_
        rintro e w5 ⟨rfl, q3, rfl⟩
        have H8 := Lib.hid (H7.out.drewN q3)
        go_wp2
        go_roundw
        case rel => exact ⟨k + 1, _, _, by omega, by go_num, rfl, HK.out, H8.out⟩
        case measure => simp [intOf]; omega
    · have t1 : decide ((k : Int) < (os.length : Int)) = false := by simp; omega
      obtain rfl : k = os.length := by omega
      have KJ := Lib.hid (jobs H4.out.has.skp)
      go_wp2_with (fail)
      with_reducible refine KJ.out.mono ?_
      rintro e w4 ⟨rfl, rfl⟩
      go_wp2
      go_ret
      exact ⟨rfl, H4.out.below⟩

set_option maxRecDepth 100000 in
set_option maxHeartbeats 8000000 in
theorem deep (a b : Int) (x : Option Addr) (cap : Nat) (os : List Bool) (w : World) (a0 : 0 ≤ a) (a1 : a < 256) (b0 : 0 ≤ b) (b1 : b < 256) (hl : os.length ≤ 300) (ha : Bools w x cap os) :
    Calls Try.prog 4 #[.bool true, .int .u8 a, .int .u8 b, .slice x os.length cap] w (Woke w) := by
  have t0 : decide ((300 : Int) < (os.length : Int)) = false := by simp; omega
  have HA := Lib.hid ha
  clear ha
  have k0 : 0 ≤ b % 64 := by omega
  have k1 : b % 64 < 64 := by omega
  have hk : 0 < 1 + b % 64 := by omega
  have m0 := Int.emod_nonneg a (show 1 + b % 64 ≠ 0 by omega)
  have m1 := Int.emod_lt_of_pos a hk
  have hk0 : ¬ (1 + b % 64 = 0) := by omega
  go_enter Try.func4, Try.ntmps4
  go_wp2_with (fail)
  refine (awake _).mono ?_
  rintro e w1 ⟨rfl, hb1⟩
  have B1 := Lib.hid hb1
  clear hb1
  go_wp2_with (fail)
  have hm1 : 1 ≤ 1 + a % (1 + b % 64) := by omega
  have hm2 : 1 + a % (1 + b % 64) ≤ 1 + b % 64 := by omega
  have hk2 : 1 + b % 64 ≤ 64 := by omega
  clear k0 k1 hk m0 m1 hk0
  generalize 1 + a % (1 + b % 64) = m at hm1 hm2 ⊢
  generalize 1 + b % 64 = k at hm2 hk2 ⊢
  obtain ⟨n, rfl⟩ : ∃ n : Nat, k = (n : Int) := ⟨k.toNat, by omega⟩
  obtain ⟨m, rfl⟩ : ∃ j : Nat, m = (j : Int) := ⟨m.toNat, by omega⟩
  have m1 : 1 ≤ m := by omega
  have m2 : m ≤ n := by omega
  have n2 : n ≤ 64 := by omega
  have KN := Lib.hid (new (kd := 2) (m := m) (n := n) ⟨.inr rfl, by omega, by omega, by omega⟩ w1)
  clear hm1 hm2 hk2
  with_reducible refine KN.out.mono ?_
  rintro e w2 ⟨p, g, rfl, hp, hg, hw, hb⟩
  have H2 := Lib.hid (Has.made B1.out hp hg hw hb)
  clear hp hg hw hb KN B1
  have n1 : 1 ≤ n := by omega
  have hd0 : 0 < dist m (lst n []) := by rw [lst_nil]; have := dist_full (m := m) (n := n) m1 (by omega); omega
  have H3 := Lib.hid (Both.begin (H2.out.eq (lst_nil n).symm))
  obtain ⟨B, hB⟩ : ∃ B, B = w2.heap.size := ⟨_, rfl⟩
  rw [← hB] at H3
  have HD0 := Lib.hid hd0
  clear hB H2 hd0
  go_wp2
  go_loopw [14, 15] (fun v i W => FirmRel os.length w 2 m n p g B v i W) (fun _ i _ => os.length - (intOf i).toNat)
  case atStart => exact ⟨0, [], _, by omega, rfl, rfl, HD0.out, H3.out⟩
  case round =>
    obtain ⟨k, l, X, hk, rfl, rfl, hd, hh⟩ := hrel
    have H4 := Lib.hid hh
    have HD := Lib.hid hd
    clear hh hd H3 HD0
    by_cases hlt : k < os.length
    · have t1 : decide ((k : Int) < (os.length : Int)) = true := by simp; omega
      have KM := mustOf H4.out.has.skp
      have KM2 := fun q => mustOf (H4.out.drewN q).has.skp
      have hb1 := fun h => (mustB_no (kd := 2) (m := m) (n := n) (j := k) (xs := lst n l) h).2
      have hb2 := fun h : m = n => show mustB 2 m n k (lst n l) = true by subst h; exact mustB_hard m1
      generalize mustB 2 m n k (lst n l) = x0 at KM KM2 hb1 hb2
      have KM := Lib.hid KM
      have KM2 := Lib.hid KM2
      cases x0 with
      | true =>
        clear hb1 hb2
        have hk1 := keeps m1 (length_lst n l) n1 HD.out true (fun h => by cases h)
        rw [lst_more n1] at hk1
        have HK := Lib.hid hk1
        obtain ⟨hm1, hm2⟩ := more_none (fl := 0) m1 hk1
        have HM := Lib.hid hm1
        obtain ⟨c, hcc⟩ : ∃ c, c = mets (lst n (l ++ [true])) := ⟨_, rfl⟩
        rw [← hcc] at hm2
        have HC := Lib.hid hcc.symm
        obtain ⟨D, hDD⟩ : ∃ D, D = dist m (lst n (l ++ [true])) := ⟨_, rfl⟩
        rw [← hDD] at hk1
        have HDD := Lib.hid hDD.symm
        have r6 : ¬ D < 1 := by omega
        have r7 : decide ((D : Int) < 1) = false := by simp; omega
        clear hm1 hcc hDD hk1
        by_cases hmn : m = n
        · have hmn2 : n = m := hmn.symm
          clear hmn
          subst hmn2
          go_wp2_with (fail)
          with_reducible refine KM.out.mono ?_
          rintro e w3 ⟨rfl, q1, rfl⟩
          go_wp2_with (fail)
          with_reducible refine (KM2.out _).mono ?_
          rintro e w3 ⟨rfl, q2, rfl⟩
          have H5 := Lib.hid (H4.out.drewN (q1 + q2))
          clear H4 KM KM2
          go_wp2_with (at_builtin; first
            | (refine append_bools _ rfl _ _ rfl B _ k l rfl (H5.out.own.alloc _) _ 1 1 [true] rfl rfl (one_bool (X.drewN (q1 + q2)) true) (by omega) (by have : B ≤ X.heap.size := H5.out.bx; simp; omega) ?_
               intro v2 w2 o2 g2
               have H6 : Hid (Both w 2 n n k 0 p g (lst n l) B v2 (k + 1) (l ++ [true]) w2) := Lib.hid (H5.out.grow o2 g2)
               clear o2 g2 H5))
          with_reducible refine (went H6.out.has.skp (by omega) true).mono ?_
          rintro e w4 ⟨rfl, hw, ht⟩
          rw [lst_more n1, HM.out] at hw
          have H7 := Lib.hid (H6.out.turn hw ht)
          clear hw ht H6
          obtain ⟨A, cap2, rfl, hc⟩ := metOwn (n := n) H7.out.own (by omega) n2
          rw [HC.out] at hc
          have KC := Lib.hid hc
          have KF : Hid (Calls Try.prog 13 #[.pointer (some ⟨p, 0, none⟩)] w4 (Says (.int .i64 0) w4)) := Lib.hid (failed H7.out.has.skp)
          have KD := far H7.out.has.skp
          rw [HDD.out] at KD
          have KD := Lib.hid KD
          clear hc
          go_wp2_with (fail)
          with_reducible refine KC.out.mono ?_
          rintro e w5 ⟨rfl, rfl⟩
          go_wp2_with (fail)
          with_reducible refine KF.out.mono ?_
          rintro e w5 ⟨rfl, rfl⟩
          go_wp2_with (fail)
          with_reducible refine KD.out.mono ?_
          rintro e w5 ⟨rfl, q3, rfl⟩
          have H8 := Lib.hid (H7.out.drewN q3)
          go_wp2
          go_roundw
          case rel => exact ⟨k + 1, _, _, by omega, by go_num, rfl, HK.out, H8.out⟩
          case measure => simp [intOf]; omega
        · have r8 : ((m : Int) == (n : Int)) = false := by rw [beq_eq_false_iff_ne]; omega
          clear KM2
          go_wp2_with (fail)
          with_reducible refine KM.out.mono ?_
          rintro e w3 ⟨rfl, q1, rfl⟩
          have H5 := Lib.hid (H4.out.drewN q1)
          clear H4 KM
          go_wp2_with (at_builtin; first
            | (refine append_bools _ rfl _ _ rfl B _ k l rfl (H5.out.own.alloc _) _ 1 1 [true] rfl rfl (one_bool (X.drewN q1) true) (by omega) (by have : B ≤ X.heap.size := H5.out.bx; simp; omega) ?_
               intro v2 w2 o2 g2
               have H6 : Hid (Both w 2 m n k 0 p g (lst n l) B v2 (k + 1) (l ++ [true]) w2) := Lib.hid (H5.out.grow o2 g2)
               clear o2 g2 H5))
          with_reducible refine (went H6.out.has.skp (by omega) true).mono ?_
          rintro e w4 ⟨rfl, hw, ht⟩
          rw [lst_more n1, HM.out] at hw
          have H7 := Lib.hid (H6.out.turn hw ht)
          clear hw ht H6
          obtain ⟨A, cap2, rfl, hc⟩ := metOwn (n := n) H7.out.own (by omega) n2
          rw [HC.out] at hc
          have KC := Lib.hid hc
          have KF : Hid (Calls Try.prog 13 #[.pointer (some ⟨p, 0, none⟩)] w4 (Says (.int .i64 0) w4)) := Lib.hid (failed H7.out.has.skp)
          have KD := far H7.out.has.skp
          rw [HDD.out] at KD
          have KD := Lib.hid KD
          clear hc
          go_wp2_with (fail)
          with_reducible refine KC.out.mono ?_
          rintro e w5 ⟨rfl, rfl⟩
          go_wp2_with (fail)
          with_reducible refine KF.out.mono ?_
          rintro e w5 ⟨rfl, rfl⟩
          go_wp2_with (fail)
          with_reducible refine KD.out.mono ?_
          rintro e w5 ⟨rfl, q3, rfl⟩
          have H8 := Lib.hid (H7.out.drewN q3)
          go_wp2
          go_roundw
          case rel => exact ⟨k + 1, _, _, by omega, by go_num, rfl, HK.out, H8.out⟩
          case measure => simp [intOf]; omega
      | false =>
        have hmn : ¬ m = n := fun h => by have := hb2 h; cases this
        have r8 : ((m : Int) == (n : Int)) = false := by rw [beq_eq_false_iff_ne]; omega
        have hd1 := hb1 rfl
        have HD1 := Lib.hid hd1
        clear KM2 hb1 hb2 hd1
        have hx : os[k]? = some os[k] := by simp
        obtain ⟨bb, oo, rfl, _, hc⟩ := HA.out.at_ hx
        have ck : ∀ q, (X.drewN q).cell? ⟨bb, oo + k, none⟩ = some (.bool os[k]) := fun q => hc _ (H4.out.drewN q).below
        clear hx hc
        generalize os[k] = y at ck
        have hk1 := keeps m1 (length_lst n l) n1 HD.out y (fun _ => HD1.out)
        rw [lst_more n1] at hk1
        have HK := Lib.hid hk1
        obtain ⟨hm1, hm2⟩ := more_none (fl := 0) m1 hk1
        have HM := Lib.hid hm1
        obtain ⟨c, hcc⟩ : ∃ c, c = mets (lst n (l ++ [y])) := ⟨_, rfl⟩
        rw [← hcc] at hm2
        have HC := Lib.hid hcc.symm
        obtain ⟨D, hDD⟩ : ∃ D, D = dist m (lst n (l ++ [y])) := ⟨_, rfl⟩
        rw [← hDD] at hk1
        have HDD := Lib.hid hDD.symm
        have r6 : ¬ D < 1 := by omega
        have r7 : decide ((D : Int) < 1) = false := by simp; omega
        clear hm1 hcc hDD hk1
        go_wp2_with (fail)
        with_reducible refine KM.out.mono ?_
        rintro e w3 ⟨rfl, q1, rfl⟩
        have ck := ck q1
        have H5 := Lib.hid (H4.out.drewN q1)
        clear H4 KM
        go_wp2_with (at_builtin; first
          | (refine append_bools _ rfl _ _ rfl B _ k l rfl (H5.out.own.alloc _) _ 1 1 [y] rfl rfl (one_bool (X.drewN q1) y) (by omega) (by have : B ≤ X.heap.size := H5.out.bx; simp; omega) ?_
             intro v2 w2 o2 g2
             have H6 : Hid (Both w 2 m n k 0 p g (lst n l) B v2 (k + 1) (l ++ [y]) w2) := Lib.hid (H5.out.grow o2 g2)
             clear o2 g2 H5))
        with_reducible refine (went H6.out.has.skp (by omega) y).mono ?_
        rintro e w4 ⟨rfl, hw, ht⟩
        rw [lst_more n1, HM.out] at hw
        have H7 := Lib.hid (H6.out.turn hw ht)
        clear hw ht H6
        obtain ⟨A, cap2, rfl, hc⟩ := metOwn (n := n) H7.out.own (by omega) n2
        rw [HC.out] at hc
        have KC := Lib.hid hc
        have KF : Hid (Calls Try.prog 13 #[.pointer (some ⟨p, 0, none⟩)] w4 (Says (.int .i64 0) w4)) := Lib.hid (failed H7.out.has.skp)
        have KD := far H7.out.has.skp
        rw [HDD.out] at KD
        have KD := Lib.hid KD
        clear hc
        go_wp2_with (fail)
        with_reducible refine KC.out.mono ?_
        rintro e w5 ⟨rfl, rfl⟩
        go_wp2_with (fail)
        with_reducible refine KF.out.mono ?_
        rintro e w5 ⟨rfl, rfl⟩
        go_wp2_with (fail)
        with_reducible refine KD.out.mono ?_
        rintro e w5 ⟨rfl, q3, rfl⟩
        have H8 := Lib.hid (H7.out.drewN q3)
        go_wp2
        go_roundw
        case rel => exact ⟨k + 1, _, _, by omega, by go_num, rfl, HK.out, H8.out⟩
        case measure => simp [intOf]; omega
    · have t1 : decide ((k : Int) < (os.length : Int)) = false := by simp; omega
      obtain rfl : k = os.length := by omega
      have KJ := Lib.hid (jobs H4.out.has.skp)
      go_wp2_with (fail)
      with_reducible refine KJ.out.mono ?_
      rintro e w4 ⟨rfl, rfl⟩
      go_wp2
      go_ret
      exact ⟨rfl, H4.out.below⟩
end Go.Proofs.Ythdjflmligoelaa.InFirm
