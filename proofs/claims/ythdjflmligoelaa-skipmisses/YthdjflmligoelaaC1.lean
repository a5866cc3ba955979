/- The walk of SkipMisses. -/
import Derived.Test.YthdjflmligoelaaAp
namespace Go.Proofs.Ythdjflmligoelaa.InMisses
open Go.RowKit

/-- Behind so many misses. -/
def zs (n k : Nat) : List Bool := List.replicate (n - k) true ++ List.replicate k false
theorem zs_next {n k : Nat} (hk : k < n) : (zs n k).drop 1 ++ [false] = zs n (k + 1) := by
  unfold zs
  obtain ⟨j, hj⟩ : ∃ j, n - k = j + 1 := ⟨n - k - 1, by omega⟩
  rw [hj, List.replicate_succ, List.cons_append, List.drop_succ_cons, List.drop_zero, List.append_assoc, replicate_snoc, show n - (k + 1) = j by omega]
theorem zs_mets (n k : Nat) : mets (zs n k) = n - k := by unfold zs; rw [mets_app, mets_all, mets_none, Nat.add_zero]
theorem dist_misses {m : Nat} (m1 : 1 ≤ m) (l : List Bool) (k : Nat) : dist m (l ++ List.replicate k false) = dist m l := by
  induction k with
  | zero => simp
  | succ k ih => rw [← replicate_snoc, ← List.append_assoc, dist_miss m1, ih]
theorem zs_dist {m n k F : Nat} (m1 : 1 ≤ m) (hF : F + m = n + 1) (hk : k ≤ F) : dist m (zs n k) = F - k := by
  unfold zs
  rw [dist_misses m1]
  have := dist_full (m := m) (n := n - k) m1 (by omega)
  omega

/-- So many misses were pushed. -/
def MissRel (w : World) (kd : Int) (m n F p g : Nat) (i : Value) (W : World) : Prop :=
  ∃ (k : Nat) (X : World), k ≤ F ∧ i = .int .i64 (k : Int) ∧ X = W ∧ Has w kd m n k (if k < F then 0 else 1) p g (zs n k) X

set_option maxRecDepth 100000 in
set_option maxHeartbeats 4000000 in
theorem even (a b : Int) (w : World) (a0 : 0 ≤ a) (a1 : a < 256) (b0 : 0 ≤ b) (b1 : b < 256) :
    Calls Try.prog 6 #[.int .u8 a, .int .u8 b, .bool false] w (Woke w) := by
  have k0 : 0 ≤ b % 64 := by omega
  have k1 : b % 64 < 64 := by omega
  have hk : 0 < 1 + b % 64 := by omega
  have m0 := Int.emod_nonneg a (show 1 + b % 64 ≠ 0 by omega)
  have m1 := Int.emod_lt_of_pos a hk
  have hk0 : ¬ (1 + b % 64 = 0) := by omega
  go_enter Try.func6, Try.ntmps6
  go_wp2_with (fail)
  refine (awake _).mono ?_
  rintro e w1 ⟨rfl, hb1⟩
  have B1 := Lib.hid hb1
  clear hb1
  go_wp2_with (fail)
  have hm1 : 1 ≤ 1 + a % (1 + b % 64) := by omega
  have hm2 : 1 + a % (1 + b % 64) ≤ 1 + b % 64 := by omega
  have hk2 : 1 + b % 64 ≤ 64 := by omega
  clear k0 k1 hk m0 m1 hk0
  generalize 1 + a % (1 + b % 64) = m at hm1 hm2 ⊢
  generalize 1 + b % 64 = k at hm2 hk2 ⊢
  obtain ⟨n, rfl⟩ : ∃ n : Nat, k = (n : Int) := ⟨k.toNat, by omega⟩
  obtain ⟨m, rfl⟩ : ∃ j : Nat, m = (j : Int) := ⟨m.toNat, by omega⟩
  have m1 : 1 ≤ m := by omega
  have m2 : m ≤ n := by omega
  have n2 : n ≤ 64 := by omega
  have KN := Lib.hid (new (kd := 1) (m := m) (n := n) ⟨.inl rfl, by omega, by omega, by omega⟩ w1)
  clear hm1 hm2 hk2
  with_reducible refine KN.out.mono ?_
  rintro e w2 ⟨p, g, rfl, hp, hg, hw, hb⟩
  have H2 := Lib.hid (Has.made B1.out hp hg hw hb)
  clear hp hg hw hb KN B1
  obtain ⟨F, hFm⟩ : ∃ F, F + m = n + 1 := ⟨n + 1 - m, by omega⟩
  have KD : Hid (∀ k W fl D, k ≤ F → D = (F : Int) - (k : Int) → Has w 1 m n k fl p g (zs n k) W → Calls Try.prog 12 #[.pointer (some ⟨p, 0, none⟩)] W (Saw (.int .i64 D) W)) := Lib.hid (fun k W fl D hk hD h => by
    have := far h.skp
    rw [zs_dist m1 hFm hk, show ((F - k : Nat) : Int) = D by omega] at this
    exact this)
  have KM : Hid (∀ k W fl, k ≤ F → F ≤ k + 1 → Has w 1 m n k fl p g (zs n k) W → Calls Try.prog 14 #[.pointer (some ⟨p, 0, none⟩)] W (Saw (.bool true) W)) := Lib.hid (fun k W fl hk hk2 h => by
    have := mustOf h.skp
    unfold mustB at this
    rw [zs_dist m1 hFm hk, decide_eq_true (show F - k ≤ 1 by omega), Bool.or_true] at this
    exact this)
  have H2 := Lib.hid (H2.out.eq (show List.replicate n true = zs n 0 by unfold zs; simp))
  go_wp2_with (fail)
  with_reducible refine (KD.out 0 _ _ (F : Int) (by omega) (by omega) H2.out).mono ?_
  rintro e w3 ⟨rfl, q1, rfl⟩
  have H3 := Lib.hid (H2.out.drewN q1)
  clear H2
  go_wp2
  go_loopw [13] (fun i W => MissRel w 1 m n F p g i W) (fun i _ => F - (intOf i).toNat)
  case atStart => exact ⟨0, _, by omega, rfl, rfl, by rw [if_pos (by omega)]; exact H3.out⟩
  case round =>
    obtain ⟨k, X, hk, rfl, rfl, hh⟩ := hrel
    by_cases hlt : k < F
    · rw [if_pos hlt] at hh
      have H4 := Lib.hid hh
      clear hh H3
      have t1 : decide ((k : Int) < (F : Int)) = true := by simp; omega
      have KF : Hid (Calls Try.prog 13 #[.pointer (some ⟨p, 0, none⟩)] X (Says (.int .i64 0) X)) := Lib.hid (failed H4.out.skp)
      have hkn : k < n := by omega
      have HZ := Lib.hid (zs_next hkn)
      have HF : Hid (more m 0 (zs n (k + 1)) = if k + 1 < F then 0 else 1) := Lib.hid (by unfold more; rw [zs_mets]; split <;> split <;> omega)
      have KD1 := Lib.hid (KD.out k X 0 _ hk rfl H4.out)
      by_cases hlast : F - k = 1
      · have KM1 := Lib.hid (fun q => KM.out k (X.drewN q) 0 hk (by omega) (H4.out.drewN q))
        have r3 : (F : Int) - (k : Int) = 1 := by omega
        clear hlast
        go_wp2_with (fail)
        with_reducible refine KF.out.mono ?_
        rintro e w4 ⟨rfl, rfl⟩
        go_wp2_with (fail)
        with_reducible refine KD1.out.mono ?_
        rintro e w4 ⟨rfl, q2, rfl⟩
        go_wp2_with (fail)
        with_reducible refine (KM1.out _).mono ?_
        rintro e w4 ⟨rfl, q3, rfl⟩
        have H5 := Lib.hid (H4.out.drewN (q2 + q3))
        clear KF KD1 KM1 H4
        go_wp2_with (fail)
        with_reducible refine (went H5.out.skp (by omega) false).mono ?_
        rintro e w5 ⟨rfl, hw, ht⟩
        rw [HZ.out, HF.out] at hw
        have H6 := Lib.hid (H5.out.turn hw ht)
        clear hw ht H5
        go_wp2
        go_roundw
        case rel => exact ⟨k + 1, _, by omega, by go_num, rfl, H6.out⟩
        case measure => simp [intOf]; omega
      · have r3 : ¬ (F : Int) - (k : Int) = 1 := by omega
        go_wp2_with (fail)
        with_reducible refine KF.out.mono ?_
        rintro e w4 ⟨rfl, rfl⟩
        go_wp2_with (fail)
        with_reducible refine KD1.out.mono ?_
        rintro e w4 ⟨rfl, q2, rfl⟩
        have H5 := Lib.hid (H4.out.drewN q2)
        clear KF KD1 H4
        go_wp2_with (fail)
        with_reducible refine (went H5.out.skp (by omega) false).mono ?_
        rintro e w5 ⟨rfl, hw, ht⟩
        rw [HZ.out, HF.out] at hw
        have H6 := Lib.hid (H5.out.turn hw ht)
        clear hw ht H5
        go_wp2
        go_roundw
        case rel => exact ⟨k + 1, _, by omega, by go_num, rfl, H6.out⟩
        case measure => simp [intOf]; omega
    · rw [if_neg hlt] at hh
      have H4 := Lib.hid hh
      clear hh H3
      have t1 : decide ((k : Int) < (F : Int)) = false := by simp; omega
      have KF : Hid (Calls Try.prog 13 #[.pointer (some ⟨p, 0, none⟩)] X (Says (.int .i64 1) X)) := Lib.hid (failed H4.out.skp)
      have KD1 := KD.out k X 1 0 hk (by omega) H4.out
      have KD1 := Lib.hid KD1
      have KM1 := Lib.hid (fun q => KM.out k (X.drewN q) 1 hk (by omega) (H4.out.drewN q))
      have r5 : ((F : Int) == (n : Int) - (m : Int) + 1) = true := by rw [beq_iff_eq]; omega
      go_wp2_with (fail)
      with_reducible refine KF.out.mono ?_
      rintro e w4 ⟨rfl, rfl⟩
      go_wp2_with (fail)
      with_reducible refine KD1.out.mono ?_
      rintro e w4 ⟨rfl, q2, rfl⟩
      go_wp2_with (fail)
      with_reducible refine (KM1.out _).mono ?_
      rintro e w4 ⟨rfl, q3, rfl⟩
      go_wp2
      go_ret
      exact ⟨rfl, (H4.out.drewN (q2 + q3)).below⟩

set_option maxRecDepth 100000 in
set_option maxHeartbeats 4000000 in
theorem deep (a b : Int) (w : World) (a0 : 0 ≤ a) (a1 : a < 256) (b0 : 0 ≤ b) (b1 : b < 256) :
    Calls Try.prog 6 #[.int .u8 a, .int .u8 b, .bool true] w (Woke w) := by
  have k0 : 0 ≤ b % 64 := by omega
  have k1 : b % 64 < 64 := by omega
  have hk : 0 < 1 + b % 64 := by omega
  have m0 := Int.emod_nonneg a (show 1 + b % 64 ≠ 0 by omega)
  have m1 := Int.emod_lt_of_pos a hk
  have hk0 : ¬ (1 + b % 64 = 0) := by omega
  go_enter Try.func6, Try.ntmps6
  go_wp2_with (fail)
  refine (awake _).mono ?_
  rintro e w1 ⟨rfl, hb1⟩
  have B1 := Lib.hid hb1
  clear hb1
  go_wp2_with (fail)
  have hm1 : 1 ≤ 1 + a % (1 + b % 64) := by omega
  have hm2 : 1 + a % (1 + b % 64) ≤ 1 + b % 64 := by omega
  have hk2 : 1 + b % 64 ≤ 64 := by omega
  clear k0 k1 hk m0 m1 hk0
  generalize 1 + a % (1 + b % 64) = m at hm1 hm2 ⊢
  generalize 1 + b % 64 = k at hm2 hk2 ⊢
  obtain ⟨n, rfl⟩ : ∃ n : Nat, k = (n : Int) := ⟨k.toNat, by omega⟩
  obtain ⟨m, rfl⟩ : ∃ j : Nat, m = (j : Int) := ⟨m.toNat, by omega⟩
  have m1 : 1 ≤ m := by omega
  have m2 : m ≤ n := by omega
  have n2 : n ≤ 64 := by omega
  have KN := Lib.hid (new (kd := 2) (m := m) (n := n) ⟨.inr rfl, by omega, by omega, by omega⟩ w1)
  clear hm1 hm2 hk2
  with_reducible refine KN.out.mono ?_
  rintro e w2 ⟨p, g, rfl, hp, hg, hw, hb⟩
  have H2 := Lib.hid (Has.made B1.out hp hg hw hb)
  clear hp hg hw hb KN B1
  obtain ⟨F, hFm⟩ : ∃ F, F + m = n + 1 := ⟨n + 1 - m, by omega⟩
  have KD : Hid (∀ k W fl D, k ≤ F → D = (F : Int) - (k : Int) → Has w 2 m n k fl p g (zs n k) W → Calls Try.prog 12 #[.pointer (some ⟨p, 0, none⟩)] W (Saw (.int .i64 D) W)) := Lib.hid (fun k W fl D hk hD h => by
    have := far h.skp
    rw [zs_dist m1 hFm hk, show ((F - k : Nat) : Int) = D by omega] at this
    exact this)
  have KM : Hid (∀ k W fl, k ≤ F → F ≤ k + 1 → Has w 2 m n k fl p g (zs n k) W → Calls Try.prog 14 #[.pointer (some ⟨p, 0, none⟩)] W (Saw (.bool true) W)) := Lib.hid (fun k W fl hk hk2 h => by
    have := mustOf h.skp
    unfold mustB at this
    rw [zs_dist m1 hFm hk, decide_eq_true (show F - k ≤ 1 by omega), Bool.or_true] at this
    exact this)
  have H2 := Lib.hid (H2.out.eq (show List.replicate n true = zs n 0 by unfold zs; simp))
  go_wp2_with (fail)
  with_reducible refine (KD.out 0 _ _ (F : Int) (by omega) (by omega) H2.out).mono ?_
  rintro e w3 ⟨rfl, q1, rfl⟩
  have H3 := Lib.hid (H2.out.drewN q1)
  clear H2
  go_wp2
  go_loopw [13] (fun i W => MissRel w 2 m n F p g i W) (fun i _ => F - (intOf i).toNat)
  case atStart => exact ⟨0, _, by omega, rfl, rfl, by rw [if_pos (by omega)]; exact H3.out⟩
  case round =>
    obtain ⟨k, X, hk, rfl, rfl, hh⟩ := hrel
    by_cases hlt : k < F
    · rw [if_pos hlt] at hh
      have H4 := Lib.hid hh
      clear hh H3
      have t1 : decide ((k : Int) < (F : Int)) = true := by simp; omega
      have KF : Hid (Calls Try.prog 13 #[.pointer (some ⟨p, 0, none⟩)] X (Says (.int .i64 0) X)) := Lib.hid (failed H4.out.skp)
      have hkn : k < n := by omega
      have HZ := Lib.hid (zs_next hkn)
      have HF : Hid (more m 0 (zs n (k + 1)) = if k + 1 < F then 0 else 1) := Lib.hid (by unfold more; rw [zs_mets]; split <;> split <;> omega)
      have KD1 := Lib.hid (KD.out k X 0 _ hk rfl H4.out)
      by_cases hlast : F - k = 1
      · have KM1 := Lib.hid (fun q => KM.out k (X.drewN q) 0 hk (by omega) (H4.out.drewN q))
        have r3 : (F : Int) - (k : Int) = 1 := by omega
        clear hlast
        go_wp2_with (fail)
        with_reducible refine KF.out.mono ?_
        rintro e w4 ⟨rfl, rfl⟩
        go_wp2_with (fail)
        with_reducible refine KD1.out.mono ?_
        rintro e w4 ⟨rfl, q2, rfl⟩
        go_wp2_with (fail)
        with_reducible refine (KM1.out _).mono ?_
        rintro e w4 ⟨rfl, q3, rfl⟩
        have H5 := Lib.hid (H4.out.drewN (q2 + q3))
        clear KF KD1 KM1 H4
        go_wp2_with (fail)
        with_reducible refine (went H5.out.skp (by omega) false).mono ?_
        rintro e w5 ⟨rfl, hw, ht⟩
        rw [HZ.out, HF.out] at hw
        have H6 := Lib.hid (H5.out.turn hw ht)
        clear hw ht H5
        go_wp2
        go_roundw
        case rel => exact ⟨k + 1, _, by omega, by go_num, rfl, H6.out⟩
        case measure => simp [intOf]; omega
      · have r3 : ¬ (F : Int) - (k : Int) = 1 := by omega
        go_wp2_with (fail)
        with_reducible refine KF.out.mono ?_
        rintro e w4 ⟨rfl, rfl⟩
        go_wp2_with (fail)
        with_reducible refine KD1.out.mono ?_
        rintro e w4 ⟨rfl, q2, rfl⟩
        have H5 := Lib.hid (H4.out.drewN q2)
        clear KF KD1 H4
        go_wp2_with (fail)
        with_reducible refine (went H5.out.skp (by omega) false).mono ?_
        rintro e w5 ⟨rfl, hw, ht⟩
        rw [HZ.out, HF.out] at hw
        have H6 := Lib.hid (H5.out.turn hw ht)
        clear hw ht H5
        go_wp2
        go_roundw
        case rel => exact ⟨k + 1, _, by omega, by go_num, rfl, H6.out⟩
        case measure => simp [intOf]; omega
    · rw [if_neg hlt] at hh
      have H4 := Lib.hid hh
      clear hh H3
      have t1 : decide ((k : Int) < (F : Int)) = false := by simp; omega
      have KF : Hid (Calls Try.prog 13 #[.pointer (some ⟨p, 0, none⟩)] X (Says (.int .i64 1) X)) := Lib.hid (failed H4.out.skp)
      have KD1 := KD.out k X 1 0 hk (by omega) H4.out
      have KD1 := Lib.hid KD1
      have KM1 := Lib.hid (fun q => KM.out k (X.drewN q) 1 hk (by omega) (H4.out.drewN q))
      have r5 : ((F : Int) == (n : Int) - (m : Int) + 1) = true := by rw [beq_iff_eq]; omega
      go_wp2_with (fail)
      with_reducible refine KF.out.mono ?_
      rintro e w4 ⟨rfl, rfl⟩
      go_wp2_with (fail)
      with_reducible refine KD1.out.mono ?_
      rintro e w4 ⟨rfl, q2, rfl⟩
      go_wp2_with (fail)
      with_reducible refine (KM1.out _).mono ?_
      rintro e w4 ⟨rfl, q3, rfl⟩
      go_wp2
      go_ret
      exact ⟨rfl, (H4.out.drewN (q2 + q3)).below⟩
end Go.Proofs.Ythdjflmligoelaa.InMisses
