/- The walk of WindowFails. -/
import Derived.Test.YtpmllnfmdgeejaaAp
namespace Go.Proofs.Ytpmllnfmdgeejaa.InFails
open Go.RowKit

set_option maxHeartbeats 1000000 in
theorem big (m k : Int) (x : Option Addr) (len cap : Nat) (w : World) (hm : len ≤ maxLen) (h : 300 < len) : Calls Try.prog 3 #[.int .i64 m, .int .i64 k, .slice x len cap] w (Woke w) := by
  unfold maxLen at hm
  have t1 : decide ((300 : Int) < (len : Int)) = true := by simp; omega
  go_enter Try.func3, Try.ntmps3
  go_wp2_with (fail)
  refine (awake _).mono ?_
  rintro e w1 ⟨rfl, hb⟩
  go_wp2_with (fail)
  refine (awake _).mono ?_
  rintro e w2 ⟨rfl, hb2⟩
  go_wp2
  go_ret
  exact ⟨rfl, hb.trans (hb2.mono hb.size)⟩

set_option maxHeartbeats 1000000 in
theorem bad (m k : Int) (x : Option Addr) (len cap : Nat) (w : World) (hl : len ≤ 300) (h : m < 1 ∨ k < m ∨ 64 < k) : Calls Try.prog 3 #[.int .i64 m, .int .i64 k, .slice x len cap] w (Woke w) := by
  have t0 : decide ((300 : Int) < (len : Int)) = false := by simp; omega
  by_cases h1 : m < 1
  · go_enter Try.func3, Try.ntmps3
    go_wp2_with (fail)
    refine (awake _).mono ?_
    rintro e w1 ⟨rfl, hb⟩
    go_wp2_with (fail)
    refine (new_no m k w1 h).mono ?_
    rintro e w2 ⟨rfl, rfl⟩
    go_wp2
    go_ret
    exact ⟨rfl, hb⟩
  · by_cases h2 : k < m
    · go_enter Try.func3, Try.ntmps3
      go_wp2_with (fail)
      refine (awake _).mono ?_
      rintro e w1 ⟨rfl, hb⟩
      go_wp2_with (fail)
      refine (new_no m k w1 h).mono ?_
      rintro e w2 ⟨rfl, rfl⟩
      go_wp2
      go_ret
      exact ⟨rfl, hb⟩
    · have h3 : 64 < k := by omega
      go_enter Try.func3, Try.ntmps3
      go_wp2_with (fail)
      refine (awake _).mono ?_
      rintro e w1 ⟨rfl, hb⟩
      go_wp2_with (fail)
      refine (new_no m k w1 h).mono ?_
      rintro e w2 ⟨rfl, rfl⟩
      go_wp2
      go_ret
      exact ⟨rfl, hb⟩

theorem lastOf {A : Option Addr} {c n N : Nat} {l : List Bool} (w : World) (h : Bools w A c l) (hN : l.length = N) (hl : N ≤ 500) (n1 : 1 ≤ n) (n2 : n ≤ 64) :
    Calls Try.prog 10 #[.slice A N c, .int .i64 (n : Int)] w (fun e w' => ∃ b off cap, e = .returned (.slice (some ⟨b, off, none⟩) n cap) ∧ w.heap.size ≤ b ∧ Bools w' (some ⟨b, off, none⟩) cap (lst n l) ∧ Below w.heap.size w w') := by
  subst hN
  have := refLast w h hl n1 n2
  unfold NewTail at this
  rw [length_lst] at this
  exact this
theorem metOf {A : Option Addr} {c n : Nat} {xs : List Bool} (w : World) (h : Bools w A c xs) (hn : xs.length = n) (hl : n ≤ 1000) :
    Calls Try.prog 13 #[.slice A n c] w (Says (.int .i64 (mets xs : Nat)) w) := by
  subst hn
  exact refMet h hl
theorem rowOf {m n p g : Nat} {xs : List Bool} {w : World} (h : Win m w p g n xs) :
    Calls Try.prog 11 #[.pointer (some ⟨p, 0, none⟩)] w (fun e w' => ∃ b cap, e = .returned (.slice (some ⟨b, 0, none⟩) n cap) ∧ Bools w' (some ⟨b, 0, none⟩) cap xs ∧ Below w.heap.size w w') := by
  refine (lastRow h).mono ?_
  rintro e w' ⟨b, cap, rfl, hc, hb, hr, hbel⟩
  rw [h.1] at hc ⊢
  refine ⟨b, cap, rfl, ⟨by rw [h.1]; exact hc, (fun h => by cases h), fun _ => ⟨b, 0, rfl, hr.lt, fun i t hi => by rw [Nat.zero_add]; exact hr.cell hi⟩⟩, hbel⟩

/-- So many jobs were pushed, and the window was asked behind each. -/
def OutRel (l : List Bool) (w : World) (m p g n : Nat) (i : Value) (W : World) : Prop :=
  ∃ (k : Nat) (X : World), k ≤ l.length + 1 ∧ i = .int .i64 (k : Int) ∧ X = W ∧ Has w m p g n (lst n (l.take k)) X
/-- So many places were compared. -/
def CmpRel (n : Nat) (Y : World) (i : Value) (W : World) : Prop := ∃ (j q : Nat), j ≤ n ∧ i = .int .i64 (j : Int) ∧ W = Y.drewN q
/-- So many misses were laid behind the jobs. -/
def FallRel (l : List Bool) (D k : Nat) (Y : World) (i v : Value) (W : World) : Prop :=
  ∃ (j : Nat) (X : World), j ≤ D ∧ i = .int .i64 (j : Int) ∧ X = W ∧ X.ownsRow Y.heap.size 4 1 v (k + j) (cellsB (l.take k ++ List.replicate j false)) ∧ Below Y.heap.size Y X
theorem own_tells {w w' : World} {base : Nat} {v : Value} {n : Nat} {l : List Value} {e : TypeId} (h : w.ownsRow base e 1 v n l) (hb : Below w.heap.size w w') : w'.ownsRow base e 1 v n l := by
  refine ⟨h.1, ?_⟩
  rcases h.2 with h2 | ⟨g, cap, cur, rfl, hbb, hg, rest⟩
  · exact .inl h2
  · exact .inr ⟨g, cap, cur, rfl, hbb, Lies.below (t := e) (cs := cur) hg hb (Lies.lt (t := e) (cs := cur) hg), rest⟩

set_option maxRecDepth 100000 in
set_option maxHeartbeats 8000000 in
theorem core (m n : Nat) (x : Option Addr) (cap : Nat) (l : List Bool) (w : World) (m1 : 1 ≤ m) (m2 : m ≤ n) (n2 : n ≤ 64) (hl : l.length ≤ 300) (ha : Bools w x cap l) :
    Calls Try.prog 3 #[.int .i64 (m : Int), .int .i64 (n : Int), .slice x l.length cap] w (Woke w) := by
  have t0 : decide ((300 : Int) < (l.length : Int)) = false := by simp; omega
  have t01 : decide ((m : Int) < 1) = false := by simp; omega
  have t02 : ¬ n < m := by omega
  have t03 : decide ((64 : Int) < (n : Int)) = false := by simp; omega
  have hlc := ha.le
  have HA := Lib.hid ha
  clear ha
  go_enter Try.func3, Try.ntmps3
  go_wp2_with (fail)
  refine (awake _).mono ?_
  rintro e w1 ⟨rfl, hb1⟩
  have B1 := Lib.hid hb1
  clear hb1
  have KN := Lib.hid (new (m := m) (n := n) w1 m1 m2 n2)
  go_wp2_with (fail)
  with_reducible refine KN.out.mono ?_
  rintro e w2 ⟨p, g, rfl, hp, hg, hw, hb⟩
  have H2 := Lib.hid (Has.made B1.out hp hg hw hb)
  clear hp hg hw hb KN B1
  go_wp2
  go_loopw [9] (fun i W => OutRel l w m p g n i W) (fun i _ => l.length + 1 - (intOf i).toNat)
  case atStart => exact ⟨0, _, by omega, rfl, rfl, H2.out.eq (by rw [List.take_zero, lst_nil])⟩
  case round =>
    obtain ⟨k, X, hk, rfl, rfl, hh⟩ := hrel
    have H3 := Lib.hid hh
    clear hh H2
    by_cases hlt : k ≤ l.length
    · have t1 : decide ((k : Int) ≤ (l.length : Int)) = true := by simp; omega
      have HT := Lib.hid ((HA.out.below (Nat.le_refl _) H3.out.below).take k)
      have KL := Lib.hid (lastOf (n := n) (N := k) X HT.out (by rw [List.length_take]; omega) (by omega) (by omega) n2)
      go_wp2_with (fail)
      with_reducible refine KL.out.mono ?_
      rintro e w3 ⟨bx, ox, cx, rfl, hbx, hx, hbel⟩
      have H4 := Lib.hid (H3.out.tells hbel)
      have HX := Lib.hid hx
      have HXL := Lib.hid H4.out.win.1
      clear hbx hx hbel H3 KL
      go_wp2_with (fail)
      with_reducible refine (rowOf H4.out.win).mono ?_
      rintro e Y ⟨bg, cg, rfl, hr, hbel⟩
      have H5 := Lib.hid (H4.out.tells hbel)
      have HX5 := Lib.hid (HX.out.below (Nat.le_refl _) hbel)
      have HR := Lib.hid hr
      clear hr hbel H4 HX HT
      have HML := Lib.hid (fun j (hj : j ≤ n) => lst_misses hj (l.take k))
      obtain ⟨xs, hxs⟩ : ∃ xs, xs = lst n (l.take k) := ⟨_, rfl⟩
      have HXS := Lib.hid hxs
      rw [← hxs] at H5 HX5 HR HXL HML
      clear hxs
      have KM1 : Hid (Calls Try.prog 12 #[.pointer (some ⟨p, 0, none⟩)] Y (Saw (.int .i64 (mets xs : Nat)) Y)) := Lib.hid (met H5.out.win)
      have KM2 : Hid (∀ q, Calls Try.prog 13 #[.slice (some ⟨bx, ox, none⟩) n cx] (Y.drewN q) (Says (.int .i64 (mets xs : Nat)) (Y.drewN q))) := Lib.hid (fun q => metOf _ (HX5.out.below (Nat.le_refl _) (below_drewN (Below.refl _ _) q)) HXL.out (by omega))
      have KF : Hid (∀ q, Calls Try.prog 14 #[.pointer (some ⟨p, 0, none⟩)] (Y.drewN q) (Saw (.bool (decide (mets xs < m))) (Y.drewN q))) := Lib.hid (fun q => fails (H5.out.drewN q).win)
      have hc64 := mets_le xs
      rw [HXL.out] at hc64
      generalize mets xs = c at KM1 KM2 KF hc64
      go_wp2_with (fail)
      with_reducible refine KM1.out.mono ?_
      rintro e w4 ⟨rfl, q1, rfl⟩
      go_wp2_with (fail)
      with_reducible refine (KM2.out _).mono ?_
      rintro e w4 ⟨rfl, rfl⟩
      go_wp2_with (fail)
      with_reducible refine (KF.out _).mono ?_
      rintro e w4 ⟨rfl, q2, rfl⟩
      go_wp2_with (fail)
      with_reducible refine (KM2.out _).mono ?_
      rintro e w4 ⟨rfl, rfl⟩
      clear KM1 KM2 KF
      go_wp2
      go_loopw [12] (fun i W => CmpRel n Y i W) (fun i _ => n - (intOf i).toNat)
      case atStart => exact ⟨0, _, by omega, rfl, rfl⟩
      case round =>
        obtain ⟨j, q, hj, rfl, rfl⟩ := hrel
        by_cases hlt : j < n
        · have t1 : decide ((j : Int) < (n : Int)) = true := by simp; omega
          have hx : xs[j]? = some (xs[j]'(by have := HXL.out; omega)) := List.getElem?_eq_getElem _
          obtain ⟨b1, o1, e1, _, c1⟩ := HX5.out.at_ hx
          cases e1
          obtain ⟨b1, o1, e1, _, c2⟩ := HR.out.at_ hx
          cases e1
          have c1 := c1 Y (Below.refl _ _)
          have c2 := c2 Y (Below.refl _ _)
          rw [Nat.zero_add] at c2
          clear hx
          generalize xs[j]'_ = v at c1 c2
          have i1 : (0 : Int) ≤ (j : Int) := by omega
          have i2 : (j : Int) < (n : Int) := by omega
          go_wp2_with (fail)
          go_quiet (fail)
          go_wp2
          go_roundw
          case rel => exact ⟨j + 1, _, by omega, by go_num, rfl⟩
          case measure => simp [intOf]; omega
        · have t1 : decide ((j : Int) < (n : Int)) = false := by simp; omega
          have HS := Lib.hid ((HA.out.below (Nat.le_refl _) (H5.out.drewN q).below).take k)
          have H6 := Lib.hid (H5.out.drewN q)
          have HB6 := Lib.hid (below_new (Y.drewN q) (.cells #[] 4))
          have HL6 : Hid (((Y.drewN q).alloc (.cells #[] 4)).ownsRow (Y.drewN q).heap.size 4 1 (.slice (some ⟨(Y.drewN q).heap.size, 0, none⟩) 0 0) 0 (cellsB [])) := Lib.hid (World.ownsRow_lit (Y.drewN q) #[] 0 (Nat.le_refl _) (by unfold maxLen; omega) rfl)
          obtain ⟨D, hD⟩ : ∃ D, D = dist m xs := ⟨_, rfl⟩
          have HD := Lib.hid hD
          have hDn : D ≤ n := by rw [hD]; have := dist_length m1 xs; have := HXL.out; omega
          clear hD
          clear H5 HX5 HR
          generalize Y.drewN q = Z at HS H6 HB6 HL6 ⊢
          go_wp2_with (at_builtin; first
            | (refine append_bools _ rfl _ _ rfl Z.heap.size _ 0 [] rfl HL6.out _ k _ (l.take k) rfl (by rw [List.length_take]; omega) (HS.out.below (Nat.le_refl _) HB6.out) (by omega) (by simp) ?_
               intro v2 w2 o2 g2
               have H7 : Hid (FallRel l D k Z (.int .i64 0) v2 w2) := Lib.hid ⟨0, _, by omega, rfl, rfl, by simpa using o2, HB6.out.grown g2 (by simp) (own_from HL6.out)⟩
               clear o2 g2))
          go_loopw [13, 14] (fun i v W => FallRel l D k Z i v W) (fun i _ _ => D - (intOf i).toNat)
          case atStart => exact H7.out
          case round =>
            obtain ⟨j2, X2, hj2, rfl, rfl, ho, hb⟩ := hrel
            have HO := Lib.hid ho
            have HB := Lib.hid hb
            obtain ⟨hlen, A2, c2, rfl, hB2⟩ := own_bools ho
            have HLN := Lib.hid hlen
            have HB2 := Lib.hid hB2
            clear ho hb hlen hB2 H7 HL6 HB6 HS
            have KL2 := Lib.hid (lastOf (n := n) X2 HB2.out HLN.out (by omega) (by omega) n2)
            go_wp2_with (fail)
            with_reducible refine KL2.out.mono ?_
            rintro e w7 ⟨b7, o7, c7, rfl, hb7, hx7, hbel⟩
            have HO7 := Lib.hid (own_tells HO.out hbel)
            have HB7 := Lib.hid (HB.out.trans (hbel.mono HB.out.size))
            have KM7 := Lib.hid (metOf w7 hx7 (length_lst n _) (by omega))
            rw [HML.out j2 (by omega)] at KM7
            have hi := dist_iff m1 xs j2
            rw [← HD.out] at hi
            have hd64 : mets (xs.drop j2) ≤ 64 := by have := mets_drop_le xs j2; have := mets_le xs; have := HXL.out; omega
            clear hb7 hx7 hbel KL2 HO HB
            generalize mets (xs.drop j2) = d at KM7 hi hd64
            go_wp2_with (fail)
            with_reducible refine KM7.out.mono ?_
            rintro e w8 ⟨rfl, rfl⟩
            by_cases hlt2 : j2 < D
            · have t2 : m ≤ d := by omega
              clear hi
              go_wp2_with (at_builtin; first
                | (refine append_bools _ rfl _ _ rfl Z.heap.size _ (k + j2) (l.take k ++ List.replicate j2 false) rfl (HO7.out.alloc _) _ 1 1 [false] rfl rfl (one_bool w7 false) (by omega) (by have := HB7.out.size; simp; omega) ?_
                   intro v9 w9 o9 g9
                   have hs9 := HB7.out.size
                   have H9 : Hid (FallRel l D k Z (.int .i64 ((j2 : Int) + 1)) v9 w9) := Lib.hid ⟨j2 + 1, _, by omega, by go_num, rfl, by rw [← replicate_snoc, ← List.append_assoc]; exact o9, (HB7.out.alloc hs9 _).grown g9 (by simp; omega) (own_from HO7.out)⟩
                   clear o9 g9 hs9))
              go_roundw
              case rel => exact H9.out
              case measure => simp [intOf]; omega
            · have t2 : ¬ m ≤ d := by omega
              clear hi
              obtain rfl : j2 = D := by omega
              have H7 := Lib.hid (H6.out.tells HB7.out)
              have KD : Hid (Calls Try.prog 15 #[.pointer (some ⟨p, 0, none⟩)] w7 (Saw (.int .i64 (j2 : Int)) w7)) := Lib.hid (by rw [HD.out]; exact distance H7.out.win)
              go_wp2_with (fail)
              with_reducible refine KD.out.mono ?_
              rintro e w8 ⟨rfl, q8, rfl⟩
              have H8 := Lib.hid (H7.out.drewN q8)
              clear KD H7
              by_cases hkl : k < l.length
              · have t3 : decide ((k : Int) < (l.length : Int)) = true := by simp; omega
                have hx : l[k]? = some l[k] := by simp
                obtain ⟨bb, oo, rfl, _, hc⟩ := HA.out.at_ hx
                have ck := hc _ H8.out.below
                have HL := Lib.hid (lst_take (n := n) (by omega) hx)
                rw [← HXS.out] at HL
                clear hx hc
                generalize l[k] = y at ck HL
                go_wp2_with (fail)
                with_reducible refine (push H8.out.win y).mono ?_
                rintro e w9 ⟨rfl, hw, ht⟩
                have H9 := Lib.hid ((H8.out.turn hw ht).eq HL.out.symm)
                clear hw ht
                go_wp2
                go_roundw
                case rel => exact ⟨k + 1, _, by omega, by go_num, rfl, H9.out⟩
                case measure => simp [intOf]; omega
              · have t3 : decide ((k : Int) < (l.length : Int)) = false := by simp; omega
                have HL : Hid (xs = lst n (l.take (k + 1))) := Lib.hid (by rw [HXS.out, List.take_of_length_le (show l.length ≤ k by omega), List.take_of_length_le (show l.length ≤ k + 1 by omega)])
                go_wp2
                go_roundw
                case rel => exact ⟨k + 1, _, by omega, by go_num, rfl, H8.out.eq HL.out⟩
                case measure => simp [intOf]; omega
    · have t1 : decide ((k : Int) ≤ (l.length : Int)) = false := by simp; omega
      go_wp2
      go_ret
      exact ⟨rfl, H3.out.below⟩
end Go.Proofs.Ytpmllnfmdgeejaa.InFails
