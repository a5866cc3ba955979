/- The walk of SkipModel. -/
import Derived.Test.YthdjflmligoelaaBo
namespace Go.Proofs.Ythdjflmligoelaa.InModel
open Go.RowKit Nu

set_option maxHeartbeats 1000000 in
theorem big (kd m k : Int) (x : Option Addr) (len cap : Nat) (w : World) (hm : len ≤ maxLen) (h : 200 < len) : Calls Try.prog 3 #[.int .i64 kd, .int .i64 m, .int .i64 k, .slice x len cap] w (Woke w) := by
  unfold maxLen at hm
  have t1 : decide ((200 : Int) < (len : Int)) = true := by simp; omega
  go_enter Try.func3, Try.ntmps3
  go_wp2_with (fail)
  refine (awake _).mono ?_
  rintro e w1 ⟨rfl, hb⟩
  go_wp2_with (fail)
  refine (awake _).mono ?_
  rintro e w2 ⟨rfl, hb2⟩
  go_wp2
  go_ret
  exact ⟨rfl, hb.trans (hb2.mono hb.size)⟩

set_option maxHeartbeats 1000000 in
theorem bad (kd m k : Int) (x : Option Addr) (len cap : Nat) (w : World) (hl : len ≤ 200) (h : rightB kd m k = false) : Calls Try.prog 3 #[.int .i64 kd, .int .i64 m, .int .i64 k, .slice x len cap] w (Woke w) := by
  have t0 : decide ((200 : Int) < (len : Int)) = false := by simp; omega
  have KN := Lib.hid (fun W => new_no kd m k W h)
  have KR := fun W => refRightAny kd m k W
  rw [h] at KR
  have KR := Lib.hid KR
  clear h
  go_enter Try.func3, Try.ntmps3
  go_wp2_with (fail)
  refine (awake _).mono ?_
  rintro e w1 ⟨rfl, hb⟩
  go_wp2_with (fail)
  with_reducible refine (KN.out _).mono ?_
  rintro e w2 ⟨rfl, rfl⟩
  go_wp2_with (fail)
  with_reducible refine (KR.out _).mono ?_
  rintro e w2 ⟨rfl, rfl⟩
  go_wp2
  go_ret
  exact ⟨rfl, hb⟩

/-- So many jobs went, and the skipper was asked ahead of each. -/
def OutRel (l : List Bool) (w : World) (kd : Int) (m n p g : Nat) (f i : Value) (W : World) : Prop :=
  ∃ (k j fl : Nat) (X : World), k ≤ l.length + 1 ∧ (k ≤ l.length → j = k) ∧ f = .int .i64 (fl : Int) ∧ i = .int .i64 (k : Int) ∧ X = W ∧ Has w kd m n j fl p g (lst n (l.take k)) X
/-- So many misses were laid behind the jobs. -/
def FallRel (l : List Bool) (D k : Nat) (Y : World) (v i : Value) (W : World) : Prop :=
  ∃ (j : Nat) (X : World), j ≤ D ∧ i = .int .i64 (j : Int) ∧ X = W ∧ X.ownsRow Y.heap.size 4 1 v (k + j) (cellsB (l.take k ++ List.replicate j false)) ∧ Below Y.heap.size Y X

set_option maxRecDepth 100000 in
set_option maxHeartbeats 16000000 in
theorem core (kd : Int) (m n : Nat) (x : Option Addr) (cap : Nat) (l : List Bool) (w : World) (P : Pat kd (m : Int) (n : Int)) (hl : l.length ≤ 200) (ha : Bools w x cap l) :
    Calls Try.prog 3 #[.int .i64 kd, .int .i64 (m : Int), .int .i64 (n : Int), .slice x l.length cap] w (Woke w) := by
  have t0 : decide ((200 : Int) < (l.length : Int)) = false := by simp; omega
  have m1 : 1 ≤ m := by have := P.m1; omega
  have m2 : m ≤ n := by have := P.le; omega
  have n2 : n ≤ 64 := by have := P.k2; omega
  have hlc := ha.le
  have HA := Lib.hid ha
  have HP := Lib.hid P
  have KR := fun W => refRightAny kd (m : Int) (n : Int) W
  rw [P.right] at KR
  have KR := Lib.hid KR
  clear ha P
  go_enter Try.func3, Try.ntmps3
  go_wp2_with (fail)
  refine (awake _).mono ?_
  rintro e w1 ⟨rfl, hb1⟩
  have B1 := Lib.hid hb1
  clear hb1
  have KN := Lib.hid (new HP.out w1)
  go_wp2_with (fail)
  with_reducible refine KN.out.mono ?_
  rintro e w2 ⟨p, g, rfl, hp, hg, hw, hb⟩
  have H2 := Lib.hid (Has.made B1.out hp hg hw hb)
  clear hp hg hw hb KN B1
  go_wp2_with (fail)
  with_reducible refine (KR.out _).mono ?_
  rintro e w3 ⟨rfl, rfl⟩
  clear KR
  go_wp2
  go_loopw [11, 12] (fun f i W => OutRel l w kd m n p g f i W) (fun _ i _ => l.length + 1 - (intOf i).toNat)
  case atStart => exact ⟨0, 0, 0, _, by omega, fun _ => rfl, rfl, rfl, rfl, H2.out.eq (by rw [List.take_zero, lst_nil])⟩
  case round =>
    obtain ⟨k, j0, fl, Z, hk, hj0, rfl, rfl, rfl, hh⟩ := hrel
    by_cases hlt : k ≤ l.length
    · have hj1 := hj0 hlt
      subst hj1
      have H3 := Lib.hid hh
      clear hh H2 hj0
      have t1 : decide ((j0 : Int) ≤ (l.length : Int)) = true := by simp; omega
      have hfl : fl ≤ j0 := H3.out.skp.2.2.1
      have HML := Lib.hid (fun j (hj : j ≤ n) => lst_misses hj (l.take j0))
      have HXL := Lib.hid (length_lst n (l.take j0))
      obtain ⟨xs, hxs⟩ : ∃ xs, xs = lst n (l.take j0) := ⟨_, rfl⟩
      have HXS := Lib.hid hxs
      rw [← hxs] at H3 HML HXL
      clear hxs
      have HS := Lib.hid ((HA.out.below (Nat.le_refl _) H3.out.below).take j0)
      have HB6 := Lib.hid (below_new Z (.cells #[] 4))
      have HL6 : Hid ((Z.alloc (.cells #[] 4)).ownsRow Z.heap.size 4 1 (.slice (some ⟨Z.heap.size, 0, none⟩) 0 0) 0 (cellsB [])) := Lib.hid (World.ownsRow_lit Z #[] 0 (Nat.le_refl _) (by unfold maxLen; omega) rfl)
      obtain ⟨D, hD⟩ : ∃ D, D = dist m xs := ⟨_, rfl⟩
      have HD := Lib.hid hD
      have hDn : D ≤ n := by rw [hD]; have := dist_length m1 xs; have := HXL.out; omega
      clear hD
      go_wp2_with (at_builtin; first
        | (refine append_bools _ rfl _ _ rfl Z.heap.size _ 0 [] rfl HL6.out _ j0 _ (l.take j0) rfl (by rw [List.length_take]; omega) (HS.out.below (Nat.le_refl _) HB6.out) (by omega) (by simp) ?_
           intro v2 w2 o2 g2
           have H7 : Hid (FallRel l D j0 Z v2 (.int .i64 0) w2) := Lib.hid ⟨0, _, by omega, rfl, rfl, by simpa using o2, HB6.out.grown g2 (by simp) (own_from HL6.out)⟩
           clear o2 g2))
      go_loopw [13, 14] (fun v i W => FallRel l D j0 Z v i W) (fun _ i _ => D - (intOf i).toNat)
      case atStart => exact H7.out
      case round =>
        obtain ⟨j2, X2, hj2, rfl, rfl, ho, hb⟩ := hrel
        have HO := Lib.hid ho
        have HB := Lib.hid hb
        clear ho hb H7 HL6 HB6 HS
        obtain ⟨A2, c2, rfl, hc2⟩ := metOwn (n := n) HO.out (by omega) n2
        rw [HML.out j2 (by omega)] at hc2
        have KM7 := Lib.hid hc2
        have hi := dist_iff m1 xs j2
        rw [← HD.out] at hi
        have hd64 : mets (xs.drop j2) ≤ 64 := by have := mets_drop_le xs j2; have := mets_le xs; have := HXL.out; omega
        clear hc2
        generalize mets (xs.drop j2) = d at KM7 hi hd64
        go_wp2_with (fail)
        with_reducible refine KM7.out.mono ?_
        rintro e w8 ⟨rfl, rfl⟩
        by_cases hlt2 : j2 < D
        · have t2 : m ≤ d := by omega
          clear hi
          go_wp2_with (at_builtin; first
            | (refine append_bools _ rfl _ _ rfl Z.heap.size _ (j0 + j2) (l.take j0 ++ List.replicate j2 false) rfl (HO.out.alloc _) _ 1 1 [false] rfl rfl (one_bool X2 false) (by omega) (by have := HB.out.size; simp; omega) ?_
               intro v9 w9 o9 g9
               have hs9 := HB.out.size
               have H9 : Hid (FallRel l D j0 Z v9 (.int .i64 ((j2 : Int) + 1)) w9) := Lib.hid ⟨j2 + 1, _, by omega, by go_num, rfl, by rw [← replicate_snoc, ← List.append_assoc]; exact o9, (HB.out.alloc hs9 _).grown g9 (by simp; omega) (own_from HO.out)⟩
               clear o9 g9 hs9))
          go_roundw
          case rel => exact H9.out
          case measure => simp [intOf]; omega
        · have t2 : ¬ m ≤ d := by omega
          clear hi
          obtain rfl : j2 = D := by omega
          clear hlt2 HO
          have H7 := Lib.hid (H3.out.tells HB.out)
          clear H3 HB KM7
          have KJ := Lib.hid (jobs H7.out.skp)
          have KF := Lib.hid (failed H7.out.skp)
          have KD := far H7.out.skp
          rw [← HD.out] at KD
          have KD := Lib.hid KD
          have KM := fun q => mustOf (H7.out.drewN q).skp
          unfold mustB at KM
          rw [← HD.out] at KM
          have KP := fun q => refMust HP.out (j0 : Int) (X2.drewN q) (by omega) (by omega)
          generalize must kd (j0 : Int) (m : Int) (n : Int) = r at KM KP
          have KP := Lib.hid KP
          have ways : r = true ∨ (r = false ∧ j2 ≤ 1) ∨ (r = false ∧ ¬ j2 ≤ 1) := by
            cases r <;> by_cases h : j2 ≤ 1 <;> simp [h]
          rcases ways with rfl | ⟨rfl, h1⟩ | ⟨rfl, h1⟩
          · rw [Bool.true_or] at KM
            have KM := Lib.hid KM
            go_wp2_with (fail)
            with_reducible refine KJ.out.mono ?_
            rintro e w8 ⟨rfl, rfl⟩
            go_wp2_with (fail)
            with_reducible refine KD.out.mono ?_
            rintro e w8 ⟨rfl, q1, rfl⟩
            have KF := Lib.hid (failed (H7.out.drewN q1).skp)
            go_wp2_with (fail)
            with_reducible refine KF.out.mono ?_
            rintro e w8 ⟨rfl, rfl⟩
            go_wp2_with (fail)
            with_reducible refine (KM.out _).mono ?_
            rintro e w8 ⟨rfl, q2, rfl⟩
            go_wp2_with (fail)
            with_reducible refine (KP.out _).mono ?_
            rintro e w8 ⟨rfl, q3, rfl⟩
            have H8 := Lib.hid (H7.out.drewN (q1 + q2 + q3))
            clear H7 KJ KD KF KM KP
            by_cases hkl : j0 < l.length
            · have t3 : decide ((j0 : Int) < (l.length : Int)) = true := by simp; omega
              have hx : l[j0]? = some l[j0] := by simp
              have HT := Lib.hid (fun W (hW : Below w.heap.size w W) => refMet (n := n) ((HA.out.below (Nat.le_refl _) hW).take (j0 + 1)) (N := j0 + 1) (by rw [List.length_take]; omega) (by omega) n2)
              obtain ⟨bb, oo, rfl, _, hc⟩ := HA.out.at_ hx
              have ck := hc _ H8.out.below
              have HL := Lib.hid (lst_take (n := n) (by omega) hx)
              rw [← HXS.out] at HL
              clear hx hc
              generalize l[j0] = y at ck HL
              go_wp2_with (fail)
              with_reducible refine (went H8.out.skp (by omega) y).mono ?_
              rintro e w9 ⟨rfl, hw, ht⟩
              rw [← HL.out] at hw
              have H9 := Lib.hid (H8.out.turn hw ht)
              have KC := HT.out w9 H9.out.below
              have hmore : more m fl (lst n (l.take (j0 + 1))) = if mets (lst n (l.take (j0 + 1))) < m then fl + 1 else fl := rfl
              have hc64 := mets_le (lst n (l.take (j0 + 1)))
              rw [length_lst] at hc64
              clear hw ht H8 HT
              obtain ⟨F, hF⟩ : ∃ F, F = more m fl (lst n (l.take (j0 + 1))) := ⟨_, rfl⟩
              rw [← hF] at H9 hmore
              clear hF
              generalize mets (lst n (l.take (j0 + 1))) = c at KC hmore hc64
              have KC := Lib.hid KC
              by_cases hcm : c < m
              · rw [if_pos hcm] at hmore
                subst hmore
                go_wp2_with (fail)
                with_reducible refine KC.out.mono ?_
                rintro e w10 ⟨rfl, rfl⟩
                go_wp2
                go_roundw
                case rel => exact ⟨j0 + 1, j0 + 1, fl + 1, _, by omega, fun _ => rfl, by go_num, by go_num, rfl, H9.out⟩
                case measure => simp [intOf]; omega
              · rw [if_neg hcm] at hmore
                subst hmore
                go_wp2_with (fail)
                with_reducible refine KC.out.mono ?_
                rintro e w10 ⟨rfl, rfl⟩
                go_wp2
                go_roundw
                case rel => exact ⟨j0 + 1, j0 + 1, _, _, by omega, fun _ => rfl, rfl, by go_num, rfl, H9.out⟩
                case measure => simp [intOf]; omega
            · have t3 : decide ((j0 : Int) < (l.length : Int)) = false := by simp; omega
              have HL : Hid (xs = lst n (l.take (j0 + 1))) := Lib.hid (by rw [HXS.out, List.take_of_length_le (show l.length ≤ j0 by omega), List.take_of_length_le (show l.length ≤ j0 + 1 by omega)])
              go_wp2
              go_roundw
              case rel => exact ⟨j0 + 1, j0, fl, _, by omega, fun h => by omega, rfl, by go_num, rfl, H8.out.eq HL.out⟩
              case measure => simp [intOf]; omega
          · rw [Bool.false_or, decide_eq_true h1] at KM
            have KM := Lib.hid KM
            have t5 : decide ((j2 : Int) ≤ 1) = true := by simp; omega
            go_wp2_with (fail)
            with_reducible refine KJ.out.mono ?_
            rintro e w8 ⟨rfl, rfl⟩
            go_wp2_with (fail)
            with_reducible refine KD.out.mono ?_
            rintro e w8 ⟨rfl, q1, rfl⟩
            have KF := Lib.hid (failed (H7.out.drewN q1).skp)
            go_wp2_with (fail)
            with_reducible refine KF.out.mono ?_
            rintro e w8 ⟨rfl, rfl⟩
            go_wp2_with (fail)
            with_reducible refine (KM.out _).mono ?_
            rintro e w8 ⟨rfl, q2, rfl⟩
            go_wp2_with (fail)
            with_reducible refine (KP.out _).mono ?_
            rintro e w8 ⟨rfl, q3, rfl⟩
            have H8 := Lib.hid (H7.out.drewN (q1 + q2 + q3))
            clear H7 KJ KD KF KM KP
            by_cases hkl : j0 < l.length
            · have t3 : decide ((j0 : Int) < (l.length : Int)) = true := by simp; omega
              have hx : l[j0]? = some l[j0] := by simp
              have HT := Lib.hid (fun W (hW : Below w.heap.size w W) => refMet (n := n) ((HA.out.below (Nat.le_refl _) hW).take (j0 + 1)) (N := j0 + 1) (by rw [List.length_take]; omega) (by omega) n2)
              obtain ⟨bb, oo, rfl, _, hc⟩ := HA.out.at_ hx
              have ck := hc _ H8.out.below
              have HL := Lib.hid (lst_take (n := n) (by omega) hx)
              rw [← HXS.out] at HL
              clear hx hc
              generalize l[j0] = y at ck HL
              go_wp2_with (fail)
              with_reducible refine (went H8.out.skp (by omega) y).mono ?_
              rintro e w9 ⟨rfl, hw, ht⟩
              rw [← HL.out] at hw
              have H9 := Lib.hid (H8.out.turn hw ht)
              have KC := HT.out w9 H9.out.below
              have hmore : more m fl (lst n (l.take (j0 + 1))) = if mets (lst n (l.take (j0 + 1))) < m then fl + 1 else fl := rfl
              have hc64 := mets_le (lst n (l.take (j0 + 1)))
              rw [length_lst] at hc64
              clear hw ht H8 HT
              obtain ⟨F, hF⟩ : ∃ F, F = more m fl (lst n (l.take (j0 + 1))) := ⟨_, rfl⟩
              rw [← hF] at H9 hmore
              clear hF
              generalize mets (lst n (l.take (j0 + 1))) = c at KC hmore hc64
              have KC := Lib.hid KC
              by_cases hcm : c < m
              · rw [if_pos hcm] at hmore
                subst hmore
                go_wp2_with (fail)
                with_reducible refine KC.out.mono ?_
                rintro e w10 ⟨rfl, rfl⟩
                go_wp2
                go_roundw
                case rel => exact ⟨j0 + 1, j0 + 1, fl + 1, _, by omega, fun _ => rfl, by go_num, by go_num, rfl, H9.out⟩
                case measure => simp [intOf]; omega
              · rw [if_neg hcm] at hmore
                subst hmore
                go_wp2_with (fail)
                with_reducible refine KC.out.mono ?_
                rintro e w10 ⟨rfl, rfl⟩
                go_wp2
                go_roundw
                case rel => exact ⟨j0 + 1, j0 + 1, _, _, by omega, fun _ => rfl, rfl, by go_num, rfl, H9.out⟩
                case measure => simp [intOf]; omega
            · have t3 : decide ((j0 : Int) < (l.length : Int)) = false := by simp; omega
              have HL : Hid (xs = lst n (l.take (j0 + 1))) := Lib.hid (by rw [HXS.out, List.take_of_length_le (show l.length ≤ j0 by omega), List.take_of_length_le (show l.length ≤ j0 + 1 by omega)])
              go_wp2
              go_roundw
              case rel => exact ⟨j0 + 1, j0, fl, _, by omega, fun h => by omega, rfl, by go_num, rfl, H8.out.eq HL.out⟩
              case measure => simp [intOf]; omega
          · rw [Bool.false_or, decide_eq_false h1] at KM
            have KM := Lib.hid KM
            have t5 : decide ((j2 : Int) ≤ 1) = false := by simp; omega
            go_wp2_with (fail)
            with_reducible refine KJ.out.mono ?_
            rintro e w8 ⟨rfl, rfl⟩
            go_wp2_with (fail)
            with_reducible refine KD.out.mono ?_
            rintro e w8 ⟨rfl, q1, rfl⟩
            have KF := Lib.hid (failed (H7.out.drewN q1).skp)
            go_wp2_with (fail)
            with_reducible refine KF.out.mono ?_
            rintro e w8 ⟨rfl, rfl⟩
            go_wp2_with (fail)
            with_reducible refine (KM.out _).mono ?_
            rintro e w8 ⟨rfl, q2, rfl⟩
            go_wp2_with (fail)
            with_reducible refine (KP.out _).mono ?_
            rintro e w8 ⟨rfl, q3, rfl⟩
            have H8 := Lib.hid (H7.out.drewN (q1 + q2 + q3))
            clear H7 KJ KD KF KM KP
            by_cases hkl : j0 < l.length
            · have t3 : decide ((j0 : Int) < (l.length : Int)) = true := by simp; omega
              have hx : l[j0]? = some l[j0] := by simp
              have HT := Lib.hid (fun W (hW : Below w.heap.size w W) => refMet (n := n) ((HA.out.below (Nat.le_refl _) hW).take (j0 + 1)) (N := j0 + 1) (by rw [List.length_take]; omega) (by omega) n2)
              obtain ⟨bb, oo, rfl, _, hc⟩ := HA.out.at_ hx
              have ck := hc _ H8.out.below
              have HL := Lib.hid (lst_take (n := n) (by omega) hx)
              rw [← HXS.out] at HL
              clear hx hc
              generalize l[j0] = y at ck HL
              go_wp2_with (fail)
              with_reducible refine (went H8.out.skp (by omega) y).mono ?_
              rintro e w9 ⟨rfl, hw, ht⟩
              rw [← HL.out] at hw
              have H9 := Lib.hid (H8.out.turn hw ht)
              have KC := HT.out w9 H9.out.below
              have hmore : more m fl (lst n (l.take (j0 + 1))) = if mets (lst n (l.take (j0 + 1))) < m then fl + 1 else fl := rfl
              have hc64 := mets_le (lst n (l.take (j0 + 1)))
              rw [length_lst] at hc64
              clear hw ht H8 HT
              obtain ⟨F, hF⟩ : ∃ F, F = more m fl (lst n (l.take (j0 + 1))) := ⟨_, rfl⟩
              rw [← hF] at H9 hmore
              clear hF
              generalize mets (lst n (l.take (j0 + 1))) = c at KC hmore hc64
              have KC := Lib.hid KC
              by_cases hcm : c < m
              · rw [if_pos hcm] at hmore
                subst hmore
                go_wp2_with (fail)
                with_reducible refine KC.out.mono ?_
                rintro e w10 ⟨rfl, rfl⟩
                go_wp2
                go_roundw
                case rel => exact ⟨j0 + 1, j0 + 1, fl + 1, _, by omega, fun _ => rfl, by go_num, by go_num, rfl, H9.out⟩
                case measure => simp [intOf]; omega
              · rw [if_neg hcm] at hmore
                subst hmore
                go_wp2_with (fail)
                with_reducible refine KC.out.mono ?_
                rintro e w10 ⟨rfl, rfl⟩
                go_wp2
                go_roundw
                case rel => exact ⟨j0 + 1, j0 + 1, _, _, by omega, fun _ => rfl, rfl, by go_num, rfl, H9.out⟩
                case measure => simp [intOf]; omega
            · have t3 : decide ((j0 : Int) < (l.length : Int)) = false := by simp; omega
              have HL : Hid (xs = lst n (l.take (j0 + 1))) := Lib.hid (by rw [HXS.out, List.take_of_length_le (show l.length ≤ j0 by omega), List.take_of_length_le (show l.length ≤ j0 + 1 by omega)])
              go_wp2
              go_roundw
              case rel => exact ⟨j0 + 1, j0, fl, _, by omega, fun h => by omega, rfl, by go_num, rfl, H8.out.eq HL.out⟩
              case measure => simp [intOf]; omega
    · have t1 : decide ((k : Int) ≤ (l.length : Int)) = false := by simp; omega
      have HE := Lib.hid hh.below
      clear hh
      go_wp2
      go_ret
      exact ⟨rfl, HE.out⟩
end Go.Proofs.Ythdjflmligoelaa.InModel
