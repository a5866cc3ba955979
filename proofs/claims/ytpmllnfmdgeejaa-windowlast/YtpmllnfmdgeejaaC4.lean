/- The walk of WindowLast. -/
import Derived.Test.YtpmllnfmdgeejaaRo
namespace Go.Proofs.Ytpmllnfmdgeejaa.InLast
open Go.RowKit

set_option maxRecDepth 100000 in
set_option maxHeartbeats 4000000 in
theorem big (a b : Int) (x y z : Option Addr) (lx cx ly cy lz cz : Nat) (w : World) (a0 : 0 ≤ a) (a1 : a < 256) (b0 : 0 ≤ b) (b1 : b < 256) (hx : lx ≤ maxLen) (hy : ly ≤ maxLen) (hz : lz ≤ maxLen)
    (h : 200 < lx ∨ 200 < ly ∨ (lz : Int) < 1 + b % 64 ∨ 300 < lz) :
    Calls Try.prog 6 #[.int .u8 a, .int .u8 b, .slice x lx cx, .slice y ly cy, .slice z lz cz] w (Woke w) := by
  unfold maxLen at hx hy hz
  have k0 : 0 ≤ b % 64 := by omega
  have k1 : b % 64 < 64 := by omega
  have hk : 0 < 1 + b % 64 := by omega
  have m0 := Int.emod_nonneg a (show 1 + b % 64 ≠ 0 by omega)
  have m1 := Int.emod_lt_of_pos a hk
  have hk0 : ¬ (1 + b % 64 = 0) := by omega
  by_cases h1 : 200 < lx
  · have t1 : decide ((200 : Int) < (lx : Int)) = true := by simp; omega
    go_enter Try.func6, Try.ntmps6
    go_wp2_with (fail)
    refine (awake _).mono ?_
    rintro e w1 ⟨rfl, hb1⟩
    have B1 := Lib.hid hb1
    clear hb1
    go_wp2_with (fail)
    refine (awake _).mono ?_
    rintro e w2 ⟨rfl, hb2⟩
    go_wp2
    go_ret
    exact ⟨rfl, B1.out.trans (hb2.mono B1.out.size)⟩
  have t1 : decide ((200 : Int) < (lx : Int)) = false := by simp; omega
  by_cases h2 : 200 < ly
  · have t2 : decide ((200 : Int) < (ly : Int)) = true := by simp; omega
    go_enter Try.func6, Try.ntmps6
    go_wp2_with (fail)
    refine (awake _).mono ?_
    rintro e w1 ⟨rfl, hb1⟩
    have B1 := Lib.hid hb1
    clear hb1
    go_wp2_with (fail)
    refine (awake _).mono ?_
    rintro e w2 ⟨rfl, hb2⟩
    go_wp2
    go_ret
    exact ⟨rfl, B1.out.trans (hb2.mono B1.out.size)⟩
  have t2 : decide ((200 : Int) < (ly : Int)) = false := by simp; omega
  by_cases h3 : (lz : Int) < 1 + b % 64
  · have t3 : decide ((lz : Int) < 1 + b % 64) = true := by simp; omega
    go_enter Try.func6, Try.ntmps6
    go_wp2_with (fail)
    refine (awake _).mono ?_
    rintro e w1 ⟨rfl, hb1⟩
    have B1 := Lib.hid hb1
    clear hb1
    go_wp2_with (fail)
    refine (awake _).mono ?_
    rintro e w2 ⟨rfl, hb2⟩
    go_wp2
    go_ret
    exact ⟨rfl, B1.out.trans (hb2.mono B1.out.size)⟩
  have t3 : decide ((lz : Int) < 1 + b % 64) = false := by simp; omega
  have h4 : 300 < lz := by omega
  have t4 : decide ((300 : Int) < (lz : Int)) = true := by simp; omega
  go_enter Try.func6, Try.ntmps6
  go_wp2_with (fail)
  refine (awake _).mono ?_
  rintro e w1 ⟨rfl, hb1⟩
  have B1 := Lib.hid hb1
  clear hb1
  go_wp2_with (fail)
  refine (awake _).mono ?_
  rintro e w2 ⟨rfl, hb2⟩
  go_wp2
  go_ret
  exact ⟨rfl, B1.out.trans (hb2.mono B1.out.size)⟩

/-- So many jobs were pushed onto one of two windows. -/
def OneRel (N : Nat) (w : World) (m p g p' g' n : Nat) (i : Value) (W : World) : Prop :=
  ∃ (k : Nat) (X : World) (xs ys : List Bool), k ≤ N ∧ i = .int .i64 (k : Int) ∧ X = W ∧ Two w m p g n xs m p' g' n ys X
/-- So many jobs were pushed onto both windows: as many of the last are alike. -/
def BothRel (N : Nat) (w : World) (m p g p' g' n : Nat) (i : Value) (W : World) : Prop :=
  ∃ (k : Nat) (X : World) (xs ys : List Bool), k ≤ N ∧ i = .int .i64 (k : Int) ∧ X = W ∧ Two w m p g n xs m p' g' n ys X ∧ xs.drop (n - k) = ys.drop (n - k)
theorem same_next {n k : Nat} {xs ys : List Bool} (hx : xs.length = n) (hy : ys.length = n) (h : xs.drop (n - k) = ys.drop (n - k)) (y : Bool) :
    (xs.drop 1 ++ [y]).drop (n - (k + 1)) = (ys.drop 1 ++ [y]).drop (n - (k + 1)) := by
  by_cases hk : k < n
  · rw [List.drop_append_of_le_length (by rw [List.length_drop]; omega), List.drop_append_of_le_length (by rw [List.length_drop]; omega), List.drop_drop, List.drop_drop, show 1 + (n - (k + 1)) = n - k by omega, h]
  · rw [show n - k = 0 by omega, List.drop_zero, List.drop_zero] at h
    rw [h]

theorem same_start {n : Nat} {xs ys : List Bool} (hx : xs.length = n) (hy : ys.length = n) : xs.drop (n - 0) = ys.drop (n - 0) := by
  rw [List.drop_eq_nil_of_le (by omega), List.drop_eq_nil_of_le (by omega)]
set_option maxRecDepth 100000 in
set_option maxHeartbeats 4000000 in
theorem core (a b : Int) (x y z : Option Addr) (cx cy cz : Nat) (lx ly lz : List Bool) (w : World) (a0 : 0 ≤ a) (a1 : a < 256) (b0 : 0 ≤ b) (b1 : b < 256) (hx : Bools w x cx lx) (hy : Bools w y cy ly) (hz : Bools w z cz lz)
    (h1 : lx.length ≤ 200) (h2 : ly.length ≤ 200) (h3 : 1 + b % 64 ≤ (lz.length : Int)) (h4 : lz.length ≤ 300) :
    Calls Try.prog 6 #[.int .u8 a, .int .u8 b, .slice x lx.length cx, .slice y ly.length cy, .slice z lz.length cz] w (Woke w) := by
  have t1 : decide ((200 : Int) < (lx.length : Int)) = false := by simp; omega
  have t2 : decide ((200 : Int) < (ly.length : Int)) = false := by simp; omega
  have t3 : decide ((lz.length : Int) < 1 + b % 64) = false := by simp; omega
  have t4 : decide ((300 : Int) < (lz.length : Int)) = false := by simp; omega
  have HX := Lib.hid hx
  have HY := Lib.hid hy
  have HZ := Lib.hid hz
  clear hx hy hz
  have k0 : 0 ≤ b % 64 := by omega
  have k1 : b % 64 < 64 := by omega
  have hk : 0 < 1 + b % 64 := by omega
  have m0 := Int.emod_nonneg a (show 1 + b % 64 ≠ 0 by omega)
  have m1 := Int.emod_lt_of_pos a hk
  have hk0 : ¬ (1 + b % 64 = 0) := by omega
  go_enter Try.func6, Try.ntmps6
  go_wp2_with (fail)
  refine (awake _).mono ?_
  rintro e w1 ⟨rfl, hb1⟩
  have B1 := Lib.hid hb1
  clear hb1
  go_wp2_with (fail)
  have hm1 : 1 ≤ 1 + a % (1 + b % 64) := by omega
  have hm2 : 1 + a % (1 + b % 64) ≤ 1 + b % 64 := by omega
  have hk2 : 1 + b % 64 ≤ 64 := by omega
  clear k0 k1 hk m0 m1 hk0 t3
  generalize 1 + a % (1 + b % 64) = m at hm1 hm2 ⊢
  generalize 1 + b % 64 = k at hm2 hk2 h3 ⊢
  obtain ⟨n, rfl⟩ : ∃ n : Nat, k = (n : Int) := ⟨k.toNat, by omega⟩
  obtain ⟨m, rfl⟩ : ∃ j : Nat, m = (j : Int) := ⟨m.toNat, by omega⟩
  have m1 : 1 ≤ m := by omega
  have m2 : m ≤ n := by omega
  have n2 : n ≤ 64 := by omega
  have n3 : n ≤ lz.length := by omega
  have KN : Hid (∀ W, Calls Try.prog 9 #[.int .i64 (m : Int), .int .i64 (n : Int)] W (NewWin m n W)) := Lib.hid (fun W => new (m := m) (n := n) W m1 m2 n2)
  clear hm1 hm2 hk2 h3
  with_reducible refine (KN.out _).mono ?_
  rintro e w2 ⟨p, g, rfl, hp, hg, hw, hb⟩
  have H2 := Lib.hid (Has.made B1.out hp hg hw hb)
  clear hp hg hw hb B1
  go_wp2_with (fail)
  with_reducible refine (KN.out _).mono ?_
  rintro e w3 ⟨p', g', rfl, hp, hg, hw, hb⟩
  have H3 := Lib.hid (Two.made H2.out hp hg hw hb)
  clear hp hg hw hb KN H2
  go_wp2
  go_loopw [17] (fun i W => OneRel lx.length w m p g p' g' n i W) (fun i _ => lx.length - (intOf i).toNat)
  case atStart => exact ⟨0, _, _, _, by omega, rfl, rfl, H3.out⟩
  case round =>
    obtain ⟨k1, X1, xs1, ys1, hk, rfl, rfl, hh⟩ := hrel
    have I1 := Lib.hid hh
    skip
    clear hh H3
    by_cases hlt : k1 < lx.length
    · have t1 : decide ((k1 : Int) < (lx.length : Int)) = true := by simp; omega
      have hx : lx[k1]? = some lx[k1] := by simp
      obtain ⟨d, off, rfl, hd, hc⟩ := HX.out.at_ hx
      have HC := Lib.hid hc
      clear hx hc
      generalize lx[k1] = v at HC
      have c1 := HC.out _ I1.out.a.below
      go_wp2_with (fail)
      with_reducible refine (push I1.out.a.win v).mono ?_
      rintro e w4 ⟨rfl, hw, ht⟩
      have H6 := Lib.hid (I1.out.next hw ht)
      clear hw ht I1
      go_wp2
      go_roundw
      case rel => exact ⟨k1 + 1, _, _, _, by omega, by go_num, rfl, H6.out⟩
      case measure => simp [intOf]; omega
    · have t1 : decide ((k1 : Int) < (lx.length : Int)) = false := by simp; omega
      go_wp2
      go_loopw [18] (fun i W => OneRel ly.length w m p g p' g' n i W) (fun i _ => ly.length - (intOf i).toNat)
      case atStart => exact ⟨0, _, _, _, by omega, rfl, rfl, I1.out⟩
      case round =>
        obtain ⟨k2, X2, xs2, ys2, hk, rfl, rfl, hh⟩ := hrel
        have I2 := Lib.hid hh
        skip
        clear hh I1
        by_cases hlt : k2 < ly.length
        · have t1 : decide ((k2 : Int) < (ly.length : Int)) = true := by simp; omega
          have hx : ly[k2]? = some ly[k2] := by simp
          obtain ⟨d, off, rfl, hd, hc⟩ := HY.out.at_ hx
          have HC := Lib.hid hc
          clear hx hc
          generalize ly[k2] = v at HC
          have c1 := HC.out _ I2.out.a.below
          go_wp2_with (fail)
          with_reducible refine (push I2.out.b.win v).mono ?_
          rintro e w4 ⟨rfl, hw, ht⟩
          have H6 := Lib.hid (I2.out.flip.next hw ht).flip
          clear hw ht I2
          go_wp2
          go_roundw
          case rel => exact ⟨k2 + 1, _, _, _, by omega, by go_num, rfl, H6.out⟩
          case measure => simp [intOf]; omega
        · have t1 : decide ((k2 : Int) < (ly.length : Int)) = false := by simp; omega
          go_wp2
          go_loopw [19] (fun i W => BothRel lz.length w m p g p' g' n i W) (fun i _ => lz.length - (intOf i).toNat)
          case atStart => exact ⟨0, _, _, _, by omega, rfl, rfl, I2.out, same_start I2.out.a.win.1 I2.out.b.win.1⟩
          case round =>
            obtain ⟨k3, X3, xs3, ys3, hk, rfl, rfl, hh, hs⟩ := hrel
            have I3 := Lib.hid hh
            have HS := Lib.hid hs
            clear hh I2 hs
            by_cases hlt : k3 < lz.length
            · have t1 : decide ((k3 : Int) < (lz.length : Int)) = true := by simp; omega
              have hx : lz[k3]? = some lz[k3] := by simp
              obtain ⟨d, off, rfl, hd, hc⟩ := HZ.out.at_ hx
              have HC := Lib.hid hc
              clear hx hc
              generalize lz[k3] = v at HC
              have c1 := HC.out _ I3.out.a.below
              have HS2 := Lib.hid (same_next I3.out.a.win.1 I3.out.b.win.1 HS.out v)
              go_wp2_with (fail)
              with_reducible refine (push I3.out.a.win v).mono ?_
              rintro e w4 ⟨rfl, hw, ht⟩
              have H5 := Lib.hid (I3.out.next hw ht)
              clear hw ht I3
              have c2 := HC.out _ H5.out.a.below
              go_wp2_with (fail)
              with_reducible refine (push H5.out.b.win v).mono ?_
              rintro e w5 ⟨rfl, hw, ht⟩
              have H6 := Lib.hid (H5.out.flip.next hw ht).flip
              clear hw ht H5
              go_wp2
              go_roundw
              case rel => exact ⟨k3 + 1, _, _, _, by omega, by go_num, rfl, H6.out, HS2.out⟩
              case measure => simp [intOf]; omega
            · have t1 : decide ((k3 : Int) < (lz.length : Int)) = false := by simp; omega
              have e1 : xs3 = ys3 := by
                have := HS.out
                rw [show n - k3 = 0 by omega, List.drop_zero, List.drop_zero] at this
                exact this
              subst e1
              clear HS
              have KDv : Hid (∀ q, Calls Try.prog 15 #[.pointer (some ⟨p, 0, none⟩)] (X3.drewN q) (Saw (.int .i64 (dist m xs3 : Nat)) (X3.drewN q))) := Lib.hid (fun q => distance (I3.out.drewN q).a.win)
              have KMv : Hid (∀ q, Calls Try.prog 12 #[.pointer (some ⟨p, 0, none⟩)] (X3.drewN q) (Saw (.int .i64 (mets xs3 : Nat)) (X3.drewN q))) := Lib.hid (fun q => met (I3.out.drewN q).a.win)
              have KFv : Hid (∀ q, Calls Try.prog 14 #[.pointer (some ⟨p, 0, none⟩)] (X3.drewN q) (Saw (.bool (decide (mets xs3 < m))) (X3.drewN q))) := Lib.hid (fun q => fails (I3.out.drewN q).a.win)
              have KDw : Hid (∀ q, Calls Try.prog 15 #[.pointer (some ⟨p', 0, none⟩)] (X3.drewN q) (Saw (.int .i64 (dist m xs3 : Nat)) (X3.drewN q))) := Lib.hid (fun q => distance (I3.out.drewN q).b.win)
              have KMw : Hid (∀ q, Calls Try.prog 12 #[.pointer (some ⟨p', 0, none⟩)] (X3.drewN q) (Saw (.int .i64 (mets xs3 : Nat)) (X3.drewN q))) := Lib.hid (fun q => met (I3.out.drewN q).b.win)
              have KFw : Hid (∀ q, Calls Try.prog 14 #[.pointer (some ⟨p', 0, none⟩)] (X3.drewN q) (Saw (.bool (decide (mets xs3 < m))) (X3.drewN q))) := Lib.hid (fun q => fails (I3.out.drewN q).b.win)
              generalize dist m xs3 = dv at KDv KDw
              generalize decide (mets xs3 < m) = fv at KFv KFw
              generalize mets xs3 = c at KMv KMw
              go_wp2_with (fail)
              refine (KDv.out 0).mono ?_
              rintro e w5 ⟨rfl, q1, rfl⟩
              go_wp2_with (fail)
              with_reducible refine (KDw.out _).mono ?_
              rintro e w5 ⟨rfl, q2, rfl⟩
              go_wp2_with (fail)
              with_reducible refine (KMv.out _).mono ?_
              rintro e w5 ⟨rfl, q3, rfl⟩
              go_wp2_with (fail)
              with_reducible refine (KMw.out _).mono ?_
              rintro e w5 ⟨rfl, q4, rfl⟩
              go_wp2_with (fail)
              with_reducible refine (KFv.out _).mono ?_
              rintro e w5 ⟨rfl, q5, rfl⟩
              go_wp2_with (fail)
              with_reducible refine (KFw.out _).mono ?_
              rintro e w5 ⟨rfl, q6, rfl⟩
              go_wp2
              go_ret
              exact ⟨by simp, (I3.out.drewN _).a.below⟩
end Go.Proofs.Ytpmllnfmdgeejaa.InLast
