/- The walk of WindowSteps. -/
import Derived.Test.YtpmllnfmdgeejaaRo
namespace Go.Proofs.Ytpmllnfmdgeejaa.InSteps
open Go.RowKit

set_option maxHeartbeats 1000000 in
theorem big (a b : Int) (x : Option Addr) (len cap : Nat) (w : World) (hm : len ≤ maxLen) (h : 300 < len) : Calls Try.prog 4 #[.int .u8 a, .int .u8 b, .slice x len cap] w (Woke w) := by
  unfold maxLen at hm
  have t1 : decide ((300 : Int) < (len : Int)) = true := by simp; omega
  go_enter Try.func4, Try.ntmps4
  go_wp2_with (fail)
  refine (awake _).mono ?_
  rintro e w1 ⟨rfl, hb⟩
  go_wp2_with (fail)
  refine (awake _).mono ?_
  rintro e w2 ⟨rfl, hb2⟩
  go_wp2
  go_ret
  exact ⟨rfl, hb.trans (hb2.mono hb.size)⟩

/-- Some jobs were pushed. -/
def SomeRel (N : Nat) (w : World) (m p g n : Nat) (i : Value) (W : World) : Prop :=
  ∃ (k : Nat) (X : World) (xs : List Bool), k ≤ N ∧ i = .int .i64 (k : Int) ∧ X = W ∧ Has w m p g n xs X
/-- So many that are met were pushed. -/
def MoreRel (w : World) (m p g n : Nat) (zs : List Bool) (i : Value) (W : World) : Prop :=
  ∃ (k : Nat) (X : World), k ≤ n ∧ i = .int .i64 (k : Int) ∧ X = W ∧ Has w m p g n (zs.drop k ++ List.replicate k true) X
theorem more_next {n k : Nat} {zs : List Bool} (hz : zs.length = n) (hk : k < n) : (zs.drop k ++ List.replicate k true).drop 1 ++ [true] = zs.drop (k + 1) ++ List.replicate (k + 1) true := by
  rw [List.drop_append_of_le_length (by rw [List.length_drop]; omega), List.drop_drop, List.append_assoc, replicate_snoc]
/-- What the distance is behind a job, of what it was. -/
theorem step {m n : Nat} {xs : List Bool} (m1 : 1 ≤ m) (m2 : m ≤ n) (hn : xs.length = n) (y : Bool) :
    (y = false → 0 < dist m xs → dist m (xs.drop 1 ++ [y]) + 1 = dist m xs) ∧ (dist m xs ≤ dist m (xs.drop 1 ++ [y]) + 1) ∧ dist m (xs.drop 1 ++ [y]) + m ≤ n + 1 := by
  match xs, hn with
  | [], hn => simp at hn; omega
  | x :: xs, hn =>
    rw [List.length_cons] at hn
    rw [List.drop_succ_cons, List.drop_zero]
    have hmore := dist_more m1 xs y
    refine ⟨fun hy h => ?_, ?_, ?_⟩
    · subst hy
      rw [dist_miss m1, dist_behind x xs h]
    · rcases Nat.lt_or_ge 0 (dist m (x :: xs)) with h | h
      · rw [dist_behind x xs h]; omega
      · omega
    · have := dist_bound (m := m) (xs ++ [y]) (by simp; omega)
      rw [List.length_append, List.length_singleton] at this
      omega

set_option maxRecDepth 100000 in
set_option maxHeartbeats 4000000 in
theorem core (a b : Int) (x : Option Addr) (cap : Nat) (l : List Bool) (w : World) (a0 : 0 ≤ a) (a1 : a < 256) (b0 : 0 ≤ b) (b1 : b < 256) (hl : l.length ≤ 300) (ha : Bools w x cap l) :
    Calls Try.prog 4 #[.int .u8 a, .int .u8 b, .slice x l.length cap] w (Woke w) := by
  have t0 : decide ((300 : Int) < (l.length : Int)) = false := by simp; omega
  have HA := Lib.hid ha
  clear ha
  have k0 : 0 ≤ b % 64 := by omega
  have k1 : b % 64 < 64 := by omega
  have hk : 0 < 1 + b % 64 := by omega
  have m0 := Int.emod_nonneg a (show 1 + b % 64 ≠ 0 by omega)
  have m1 := Int.emod_lt_of_pos a hk
  have hk0 : ¬ (1 + b % 64 = 0) := by omega
  go_enter Try.func4, Try.ntmps4
  go_wp2_with (fail)
  refine (awake _).mono ?_
  rintro e w1 ⟨rfl, hb1⟩
  have B1 := Lib.hid hb1
  clear hb1
  go_wp2_with (fail)
  have hm1 : 1 ≤ 1 + a % (1 + b % 64) := by omega
  have hm2 : 1 + a % (1 + b % 64) ≤ 1 + b % 64 := by omega
  have hk2 : 1 + b % 64 ≤ 64 := by omega
  clear k0 k1 hk m0 m1 hk0
  generalize 1 + a % (1 + b % 64) = m at hm1 hm2 ⊢
  generalize 1 + b % 64 = k at hm2 hk2 ⊢
  obtain ⟨n, rfl⟩ : ∃ n : Nat, k = (n : Int) := ⟨k.toNat, by omega⟩
  obtain ⟨m, rfl⟩ : ∃ j : Nat, m = (j : Int) := ⟨m.toNat, by omega⟩
  have m1 : 1 ≤ m := by omega
  have m2 : m ≤ n := by omega
  have n2 : n ≤ 64 := by omega
  have KN := Lib.hid (new (m := m) (n := n) w1 m1 m2 n2)
  clear hm1 hm2 hk2
  with_reducible refine KN.out.mono ?_
  rintro e w2 ⟨p, g, rfl, hp, hg, hw, hb⟩
  have H2 := Lib.hid (Has.made B1.out hp hg hw hb)
  clear hp hg hw hb KN B1
  have KD : Hid (∀ xs W, Has w m p g n xs W → Calls Try.prog 15 #[.pointer (some ⟨p, 0, none⟩)] W (Saw (.int .i64 (dist m xs : Nat)) W)) := Lib.hid (fun xs W h => distance h.win)
  have HF := Lib.hid (dist_full (n := n) m1 (by omega))
  obtain ⟨F, hF⟩ : ∃ F, dist m (List.replicate n true) = F := ⟨_, rfl⟩
  have HF' := Lib.hid hF
  have hFm : F + m = n + 1 := by rw [← hF]; exact HF.out
  have KF : Hid (Calls Try.prog 15 #[.pointer (some ⟨p, 0, none⟩)] w2 (Saw (.int .i64 (F : Int)) w2)) := Lib.hid (by rw [← hF]; exact KD.out _ _ H2.out)
  clear hF HF
  go_wp2_with (fail)
  with_reducible refine KF.out.mono ?_
  rintro e w3 ⟨rfl, q1, rfl⟩
  have H3 := Lib.hid (H2.out.drewN q1)
  clear H2 KF
  go_wp2
  go_loopw [12] (fun i W => SomeRel l.length w m p g n i W) (fun i _ => l.length - (intOf i).toNat)
  case atStart => exact ⟨0, _, _, by omega, rfl, rfl, H3.out⟩
  case round =>
    obtain ⟨k, X, xs, hk, rfl, rfl, hh⟩ := hrel
    have H4 := Lib.hid hh
    clear hh H3
    by_cases hlt : k < l.length
    · have t1 : decide ((k : Int) < (l.length : Int)) = true := by simp; omega
      have hx : l[k]? = some l[k] := by simp
      obtain ⟨d, off, rfl, hd, hc⟩ := HA.out.at_ hx
      have HC := Lib.hid hc
      clear hx hc
      generalize l[k] = y at HC
      obtain ⟨s1, s2, s3⟩ := step m1 m2 H4.out.win.1 y
      have hd1 := dist_bound (m := m) xs (by rw [H4.out.win.1]; omega)
      rw [H4.out.win.1] at hd1
      have K1 := KD.out xs X H4.out
      have K2 := KD.out (xs.drop 1 ++ [y])
      generalize dist m xs = u at s1 s2 hd1 K1
      generalize dist m (xs.drop 1 ++ [y]) = v at s1 s2 s3 K2
      have K1 := Lib.hid K1
      have K2 := Lib.hid K2
      go_wp2_with (fail)
      with_reducible refine K1.out.mono ?_
      rintro e w3 ⟨rfl, q2, rfl⟩
      have H5 := Lib.hid (H4.out.drewN q2)
      clear H4 K1
      have c1 := HC.out _ H5.out.below
      go_wp2_with (fail)
      with_reducible refine (push H5.out.win y).mono ?_
      rintro e w4 ⟨rfl, hw, ht⟩
      have H6 := Lib.hid (H5.out.turn hw ht)
      clear hw ht H5
      go_wp2_with (fail)
      with_reducible refine (K2.out _ H6.out).mono ?_
      rintro e w5 ⟨rfl, q3, rfl⟩
      have H7 := Lib.hid (H6.out.drewN q3)
      clear H6 K2
      have c2 := HC.out _ H7.out.below
      have r3 : decide ((F : Int) < (v : Int)) = false := by simp; omega
      cases y
      · by_cases hu : 0 < u
        · have r1 : decide ((0 : Int) < (u : Int)) = true := by simp; omega
          have r2 : ((v : Int) != (u : Int) - 1) = false := by rw [bne_eq_false_iff_eq]; have := s1 rfl hu; omega
          clear s1
          go_wp2
          go_roundw
          case rel => exact ⟨k + 1, _, _, by omega, by go_num, rfl, H7.out⟩
          case measure => simp [intOf]; omega
        · have r1 : decide ((0 : Int) < (u : Int)) = false := by simp; omega
          clear s1
          go_wp2
          go_roundw
          case rel => exact ⟨k + 1, _, _, by omega, by go_num, rfl, H7.out⟩
          case measure => simp [intOf]; omega
      · have r2 : decide ((v : Int) < (u : Int) - 1) = false := by simp; omega
        clear s1
        by_cases hu : 1 < u
        · have r1 : decide ((1 : Int) < (u : Int)) = true := by simp; omega
          go_wp2
          go_roundw
          case rel => exact ⟨k + 1, _, _, by omega, by go_num, rfl, H7.out⟩
          case measure => simp [intOf]; omega
        · have r1 : decide ((1 : Int) < (u : Int)) = false := by simp; omega
          go_wp2
          go_roundw
          case rel => exact ⟨k + 1, _, _, by omega, by go_num, rfl, H7.out⟩
          case measure => simp [intOf]; omega
    · have t1 : decide ((k : Int) < (l.length : Int)) = false := by simp; omega
      go_wp2
      go_loopw [15] (fun i W => MoreRel w m p g n xs i W) (fun i _ => n - (intOf i).toNat)
      case atStart => exact ⟨0, _, by omega, rfl, rfl, H4.out.eq (by simp)⟩
      case round =>
        obtain ⟨j, X, hj, rfl, rfl, hh⟩ := hrel
        have H5 := Lib.hid hh
        have HZ := Lib.hid H4.out.win.1
        clear hh H4
        by_cases hlt : j < n
        · have t1 : decide ((j : Int) < (n : Int)) = true := by simp; omega
          have HL := Lib.hid (more_next HZ.out hlt)
          go_wp2_with (fail)
          with_reducible refine (push H5.out.win true).mono ?_
          rintro e w3 ⟨rfl, hw, ht⟩
          have H6 := Lib.hid ((H5.out.turn hw ht).eq HL.out)
          clear hw ht H5
          go_wp2
          go_roundw
          case rel => exact ⟨j + 1, _, by omega, by go_num, rfl, H6.out⟩
          case measure => simp [intOf]; omega
        · have t1 : decide ((j : Int) < (n : Int)) = false := by simp; omega
          have e1 : xs.drop j ++ List.replicate j true = List.replicate n true := by
            have : j = n := by omega
            rw [List.drop_eq_nil_of_le (by rw [HZ.out]; omega), List.nil_append, this]
          have H6 := Lib.hid (H5.out.eq e1)
          clear H5 e1
          have K3 : Hid (∀ W, Has w m p g n (List.replicate n true) W → Calls Try.prog 15 #[.pointer (some ⟨p, 0, none⟩)] W (Saw (.int .i64 (F : Int)) W)) := Lib.hid (fun W h => by rw [← HF'.out]; exact KD.out _ _ h)
          have K4 : Hid (∀ q, Calls Try.prog 14 #[.pointer (some ⟨p, 0, none⟩)] (X.drewN q) (Saw (.bool false) (X.drewN q))) := Lib.hid (fun q => by
            have := fails (H6.out.drewN q).win
            rw [mets_all, show decide (n < m) = false by simp; omega] at this
            exact this)
          have K5 : Hid (∀ q, Calls Try.prog 12 #[.pointer (some ⟨p, 0, none⟩)] (X.drewN q) (Saw (.int .i64 (n : Int)) (X.drewN q))) := Lib.hid (fun q => by
            have := met (H6.out.drewN q).win
            rw [mets_all] at this
            exact this)
          have r5 : ((F : Int) == (n : Int) - (m : Int) + 1) = true := by rw [beq_iff_eq]; omega
          go_wp2_with (fail)
          with_reducible refine (K3.out _ H6.out).mono ?_
          rintro e w3 ⟨rfl, q3, rfl⟩
          go_wp2_with (fail)
          with_reducible refine (K4.out _).mono ?_
          rintro e w3 ⟨rfl, q4, rfl⟩
          go_wp2_with (fail)
          with_reducible refine (K5.out _).mono ?_
          rintro e w3 ⟨rfl, q5, rfl⟩
          go_wp2
          go_ret
          exact ⟨rfl, (H6.out.drewN _).below⟩
end Go.Proofs.Ytpmllnfmdgeejaa.InSteps
