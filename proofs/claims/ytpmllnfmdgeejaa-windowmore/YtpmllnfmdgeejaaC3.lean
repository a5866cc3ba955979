/- The walk of WindowMore. -/
import Derived.Test.YtpmllnfmdgeejaaRo
namespace Go.Proofs.Ytpmllnfmdgeejaa.InMore
open Go.RowKit

set_option maxRecDepth 100000 in
set_option maxHeartbeats 4000000 in
theorem big (a b : Int) (x : Option Addr) (len cap : Nat) (w : World) (a0 : 0 ≤ a) (a1 : a < 256) (b0 : 0 ≤ b) (b1 : b < 256) (hm : len ≤ maxLen) (h : 300 < len) :
    Calls Try.prog 7 #[.int .u8 a, .int .u8 b, .slice x len cap] w (Woke w) := by
  unfold maxLen at hm
  have t1 : decide ((300 : Int) < (len : Int)) = true := by simp; omega
  have k0 : 0 ≤ b % 63 := by omega
  have k1 : b % 63 < 63 := by omega
  have hk : 0 < 2 + b % 63 - 1 := by omega
  have m0 := Int.emod_nonneg a (show 2 + b % 63 - 1 ≠ 0 by omega)
  have m1 := Int.emod_lt_of_pos a hk
  have hk0 : ¬ (2 + b % 63 - 1 = 0) := by omega
  go_enter Try.func7, Try.ntmps7
  go_wp2_with (fail)
  refine (awake _).mono ?_
  rintro e w1 ⟨rfl, hb1⟩
  have B1 := Lib.hid hb1
  clear hb1
  go_wp2_with (fail)
  refine (awake _).mono ?_
  rintro e w2 ⟨rfl, hb2⟩
  go_wp2
  go_ret
  exact ⟨rfl, B1.out.trans (hb2.mono B1.out.size)⟩

/-- So many jobs were pushed onto both windows. -/
def BothRel (N : Nat) (w : World) (m p g p' g' n : Nat) (i : Value) (W : World) : Prop :=
  ∃ (k : Nat) (X : World) (xs : List Bool), k ≤ N ∧ i = .int .i64 (k : Int) ∧ X = W ∧ Two w m p g n xs (m + 1) p' g' n xs X
set_option maxRecDepth 100000 in
set_option maxHeartbeats 4000000 in
theorem core (a b : Int) (x : Option Addr) (cap : Nat) (l : List Bool) (w : World) (a0 : 0 ≤ a) (a1 : a < 256) (b0 : 0 ≤ b) (b1 : b < 256) (hl : l.length ≤ 300) (ha : Bools w x cap l) :
    Calls Try.prog 7 #[.int .u8 a, .int .u8 b, .slice x l.length cap] w (Woke w) := by
  have t0 : decide ((300 : Int) < (l.length : Int)) = false := by simp; omega
  have HA := Lib.hid ha
  clear ha
  have k0 : 0 ≤ b % 63 := by omega
  have k1 : b % 63 < 63 := by omega
  have hk : 0 < 2 + b % 63 - 1 := by omega
  have m0 := Int.emod_nonneg a (show 2 + b % 63 - 1 ≠ 0 by omega)
  have m1 := Int.emod_lt_of_pos a hk
  have hk0 : ¬ (2 + b % 63 - 1 = 0) := by omega
  go_enter Try.func7, Try.ntmps7
  go_wp2_with (fail)
  refine (awake _).mono ?_
  rintro e w1 ⟨rfl, hb1⟩
  have B1 := Lib.hid hb1
  clear hb1
  go_wp2_with (fail)
  have hm1 : 1 ≤ 1 + a % (2 + b % 63 - 1) := by omega
  have hm2 : 1 + a % (2 + b % 63 - 1) + 1 ≤ 2 + b % 63 := by omega
  have hk2 : 2 + b % 63 ≤ 64 := by omega
  clear k0 k1 hk m0 m1 hk0
  generalize 1 + a % (2 + b % 63 - 1) = m at hm1 hm2 ⊢
  generalize 2 + b % 63 = k at hm2 hk2 ⊢
  obtain ⟨n, rfl⟩ : ∃ n : Nat, k = (n : Int) := ⟨k.toNat, by omega⟩
  obtain ⟨m, rfl⟩ : ∃ j : Nat, m = (j : Int) := ⟨m.toNat, by omega⟩
  have m1 : 1 ≤ m := by omega
  have m2 : m + 1 ≤ n := by omega
  have n2 : n ≤ 64 := by omega
  have KN := Lib.hid (new (m := m) (n := n) w1 m1 (by omega) n2)
  have KN2 : Hid (∀ W, Calls Try.prog 9 #[.int .i64 ((m : Int) + 1), .int .i64 (n : Int)] W (NewWin (m + 1) n W)) := Lib.hid (fun W => new (m := m + 1) (n := n) W (by omega) m2 n2)
  clear hm1 hm2 hk2
  with_reducible refine KN.out.mono ?_
  rintro e w2 ⟨p, g, rfl, hp, hg, hw, hb⟩
  have H2 := Lib.hid (Has.made B1.out hp hg hw hb)
  clear hp hg hw hb KN B1
  go_wp2_with (fail)
  with_reducible refine (KN2.out _).mono ?_
  rintro e w3 ⟨p', g', rfl, hp, hg, hw, hb⟩
  have H3 := Lib.hid (Two.made H2.out hp hg hw hb)
  clear hp hg hw hb KN2 H2
  go_wp2
  go_loopw [13] (fun i W => BothRel l.length w m p g p' g' n i W) (fun i _ => l.length - (intOf i).toNat)
  case atStart => exact ⟨0, _, _, by omega, rfl, rfl, H3.out⟩
  case round =>
    obtain ⟨k, X, xs, hk, rfl, rfl, hh⟩ := hrel
    have H4 := Lib.hid hh
    clear hh H3
    by_cases hlt : k < l.length
    · have t1 : decide ((k : Int) < (l.length : Int)) = true := by simp; omega
      have hx : l[k]? = some l[k] := by simp
      obtain ⟨d, off, rfl, hd, hc⟩ := HA.out.at_ hx
      have HC := Lib.hid hc
      clear hx hc
      generalize l[k] = y at HC
      have c1 := HC.out _ H4.out.a.below
      go_wp2_with (fail)
      with_reducible refine (push H4.out.a.win y).mono ?_
      rintro e w4 ⟨rfl, hw, ht⟩
      have H5 := Lib.hid (H4.out.next hw ht)
      clear hw ht H4
      have c2 := HC.out _ H5.out.a.below
      go_wp2_with (fail)
      with_reducible refine (push H5.out.b.win y).mono ?_
      rintro e Y ⟨rfl, hw, ht⟩
      have H7 := Lib.hid (H5.out.flip.next hw ht).flip
      clear hw ht H5
      generalize xs.drop 1 ++ [y] = xs at H7
      have KDw : Hid (∀ q, Calls Try.prog 15 #[.pointer (some ⟨p', 0, none⟩)] (Y.drewN q) (Saw (.int .i64 (dist (m + 1) xs : Nat)) (Y.drewN q))) := Lib.hid (fun q => distance (H7.out.drewN q).b.win)
      have KDv : Hid (∀ q, Calls Try.prog 15 #[.pointer (some ⟨p, 0, none⟩)] (Y.drewN q) (Saw (.int .i64 (dist m xs : Nat)) (Y.drewN q))) := Lib.hid (fun q => distance (H7.out.drewN q).a.win)
      have KMv : Hid (∀ q, Calls Try.prog 12 #[.pointer (some ⟨p, 0, none⟩)] (Y.drewN q) (Saw (.int .i64 (mets xs : Nat)) (Y.drewN q))) := Lib.hid (fun q => met (H7.out.drewN q).a.win)
      have KMw : Hid (∀ q, Calls Try.prog 12 #[.pointer (some ⟨p', 0, none⟩)] (Y.drewN q) (Saw (.int .i64 (mets xs : Nat)) (Y.drewN q))) := Lib.hid (fun q => met (H7.out.drewN q).b.win)
      have KFv : Hid (∀ q, Calls Try.prog 14 #[.pointer (some ⟨p, 0, none⟩)] (Y.drewN q) (Saw (.bool (decide (mets xs < m))) (Y.drewN q))) := Lib.hid (fun q => fails (H7.out.drewN q).a.win)
      have KFw : Hid (∀ q, Calls Try.prog 14 #[.pointer (some ⟨p', 0, none⟩)] (Y.drewN q) (Saw (.bool (decide (mets xs < m + 1))) (Y.drewN q))) := Lib.hid (fun q => fails (H7.out.drewN q).b.win)
      have hdd := dist_less m1 xs
      have hc64 := mets_le xs
      rw [H7.out.a.win.1] at hc64
      have hd64 := dist_length m1 xs
      rw [H7.out.a.win.1] at hd64
      have hdb := dist_bound (m := m + 1) xs (by rw [H7.out.a.win.1]; omega)
      rw [H7.out.a.win.1] at hdb
      generalize dist (m + 1) xs = dw at KDw hdd hdb
      generalize dist m xs = dv at KDv hdd hd64
      generalize mets xs = c at KMv KMw KFv KFw hc64
      have r1 : decide ((dv : Int) < (dw : Int)) = false := by simp; omega
      by_cases hcm : c < m
      · have e1 : decide (c < m) = true := by simpa using hcm
        have e2 : decide (c < m + 1) = true := by simp; omega
        have e3 : decide ((c : Int) < (m : Int)) = true := by simp; omega
        rw [e1] at KFv
        rw [e2] at KFw
        go_wp2_with (fail)
        refine (KDw.out 0).mono ?_
        rintro e w5 ⟨rfl, q1, rfl⟩
        go_wp2_with (fail)
        with_reducible refine (KDv.out _).mono ?_
        rintro e w5 ⟨rfl, q2, rfl⟩
        go_wp2_with (fail)
        with_reducible refine (KMv.out _).mono ?_
        rintro e w5 ⟨rfl, q3, rfl⟩
        go_wp2_with (fail)
        with_reducible refine (KMw.out _).mono ?_
        rintro e w5 ⟨rfl, q4, rfl⟩
        go_wp2_with (fail)
        with_reducible refine (KFv.out _).mono ?_
        rintro e w5 ⟨rfl, q5, rfl⟩
        go_wp2_with (fail)
        with_reducible refine (KFw.out _).mono ?_
        rintro e w5 ⟨rfl, q6, rfl⟩
        go_wp2_with (fail)
        with_reducible refine (KFv.out _).mono ?_
        rintro e w5 ⟨rfl, q7, rfl⟩
        go_wp2_with (fail)
        with_reducible refine (KMv.out _).mono ?_
        rintro e w5 ⟨rfl, q8, rfl⟩
        go_wp2
        go_roundw
        case rel => exact ⟨k + 1, _, _, by omega, by go_num, rfl, H7.out.drewN _⟩
        case measure => simp [intOf]; omega
      · have e1 : decide (c < m) = false := by simpa using hcm
        have e3 : decide ((c : Int) < (m : Int)) = false := by simp; omega
        rw [e1] at KFv
        go_wp2_with (fail)
        refine (KDw.out 0).mono ?_
        rintro e w5 ⟨rfl, q1, rfl⟩
        go_wp2_with (fail)
        with_reducible refine (KDv.out _).mono ?_
        rintro e w5 ⟨rfl, q2, rfl⟩
        go_wp2_with (fail)
        with_reducible refine (KMv.out _).mono ?_
        rintro e w5 ⟨rfl, q3, rfl⟩
        go_wp2_with (fail)
        with_reducible refine (KMw.out _).mono ?_
        rintro e w5 ⟨rfl, q4, rfl⟩
        go_wp2_with (fail)
        with_reducible refine (KFv.out _).mono ?_
        rintro e w5 ⟨rfl, q5, rfl⟩
        go_wp2_with (fail)
        with_reducible refine (KFv.out _).mono ?_
        rintro e w5 ⟨rfl, q7, rfl⟩
        go_wp2_with (fail)
        with_reducible refine (KMv.out _).mono ?_
        rintro e w5 ⟨rfl, q8, rfl⟩
        go_wp2
        go_roundw
        case rel => exact ⟨k + 1, _, _, by omega, by go_num, rfl, H7.out.drewN _⟩
        case measure => simp [intOf]; omega
    · have t1 : decide ((k : Int) < (l.length : Int)) = false := by simp; omega
      obtain ⟨Y, hY⟩ : ∃ Y, Y = X := ⟨_, rfl⟩
      subst hY
      have H7 := H4
      clear H4
      have KDw : Hid (∀ q, Calls Try.prog 15 #[.pointer (some ⟨p', 0, none⟩)] (Y.drewN q) (Saw (.int .i64 (dist (m + 1) xs : Nat)) (Y.drewN q))) := Lib.hid (fun q => distance (H7.out.drewN q).b.win)
      have KDv : Hid (∀ q, Calls Try.prog 15 #[.pointer (some ⟨p, 0, none⟩)] (Y.drewN q) (Saw (.int .i64 (dist m xs : Nat)) (Y.drewN q))) := Lib.hid (fun q => distance (H7.out.drewN q).a.win)
      have KMv : Hid (∀ q, Calls Try.prog 12 #[.pointer (some ⟨p, 0, none⟩)] (Y.drewN q) (Saw (.int .i64 (mets xs : Nat)) (Y.drewN q))) := Lib.hid (fun q => met (H7.out.drewN q).a.win)
      have KMw : Hid (∀ q, Calls Try.prog 12 #[.pointer (some ⟨p', 0, none⟩)] (Y.drewN q) (Saw (.int .i64 (mets xs : Nat)) (Y.drewN q))) := Lib.hid (fun q => met (H7.out.drewN q).b.win)
      have KFv : Hid (∀ q, Calls Try.prog 14 #[.pointer (some ⟨p, 0, none⟩)] (Y.drewN q) (Saw (.bool (decide (mets xs < m))) (Y.drewN q))) := Lib.hid (fun q => fails (H7.out.drewN q).a.win)
      have KFw : Hid (∀ q, Calls Try.prog 14 #[.pointer (some ⟨p', 0, none⟩)] (Y.drewN q) (Saw (.bool (decide (mets xs < m + 1))) (Y.drewN q))) := Lib.hid (fun q => fails (H7.out.drewN q).b.win)
      have hdd := dist_less m1 xs
      have hc64 := mets_le xs
      rw [H7.out.a.win.1] at hc64
      have hd64 := dist_length m1 xs
      rw [H7.out.a.win.1] at hd64
      have hdb := dist_bound (m := m + 1) xs (by rw [H7.out.a.win.1]; omega)
      rw [H7.out.a.win.1] at hdb
      generalize dist (m + 1) xs = dw at KDw hdd hdb
      generalize dist m xs = dv at KDv hdd hd64
      generalize mets xs = c at KMv KMw KFv KFw hc64
      have r1 : decide ((dv : Int) ≤ (n : Int)) = true := by simp; omega
      have r2 : decide ((dw : Int) < (n : Int)) = true := by simp; omega
      clear KMv KMw KFv KFw
      go_wp2_with (fail)
      refine (KDv.out 0).mono ?_
      rintro e w5 ⟨rfl, q1, rfl⟩
      go_wp2_with (fail)
      with_reducible refine (KDw.out _).mono ?_
      rintro e w5 ⟨rfl, q2, rfl⟩
      go_wp2
      go_ret
      exact ⟨by show Ending.returned (.bool (decide (dw < n))) = _; rw [decide_eq_true (by omega)], (H7.out.drewN _).a.below⟩
end Go.Proofs.Ytpmllnfmdgeejaa.InMore
