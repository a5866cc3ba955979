/- How many bursts strike at most; how many faults lie between two times; whether faults are right; whether rows are the same. -/
import Derived.Test.YtckdnnmkookedaaLf
namespace Go.Proofs.Ytckdnnmkookedaa
open Go.RowKit

set_option maxHeartbeats 1000000 in
theorem most (W b g : Int) (w : World) (h0 : 0 ≤ W) (h1 : W ≤ 1099511627776) (b0 : 1 ≤ b) (b1 : b ≤ 1000) (g0 : 1 ≤ g) (g1 : g ≤ 1049576) : Calls Try.prog 19 #[.int .i64 W, .int .i64 b, .int .i64 g] w (Says (.int .i64 (mostF W b g)) w) := by
  by_cases hw : 1 ≤ W
  · have E : mostF W b g = (W + (b - 1) - 1) / g + 1 := by rw [mostF_pos hw]; congr 2; omega
    have t : decide (W < 1) = false := by simp; omega
    have KC := Lib.hid (fun w' => ceil_small (W + (b - 1)) g w' (by omega) (by omega) g0 g1)
    rw [← E] at KC
    clear E
    generalize mostF W b g = r at *
    go_enter Try.func19, Try.ntmps19
    go_wp2_with (first
      | (go_at_call 22; refine (isLength_yes _ _ b0 b1).mono ?_; rintro e w' ⟨rfl, rfl⟩)
      | (go_at_call 23; refine (isGap_yes _ _ g0 g1).mono ?_; rintro e w' ⟨rfl, rfl⟩)
      | (go_at_call 24; refine (add_small W (b - 1) _ h0 (by omega) (by omega) (by omega)).mono ?_; rintro e w' ⟨rfl, rfl⟩)
      | (go_at_call 25; refine (KC.out _).mono ?_; rintro e w' ⟨rfl, rfl⟩))
    go_ret
    exact ⟨rfl, rfl⟩
  · obtain rfl : W = 0 := by omega
    rw [mostF_zero]
    go_enter Try.func19, Try.ntmps19
    go_wp2
    go_ret
    exact ⟨rfl, rfl⟩
set_option maxHeartbeats 1000000 in
theorem refMost (W b g : Int) (w : World) (h0 : 0 ≤ W) (h1 : W ≤ 1099511627776) (b0 : 1 ≤ b) (b1 : b ≤ 1000) (g0 : 1 ≤ g) (g1 : g ≤ 1049576) : Calls Try.prog 20 #[.int .i64 W, .int .i64 b, .int .i64 g] w (Says (.int .i64 (mostF W b g)) w) := by
  by_cases hw : 1 ≤ W
  · rw [mostF_pos hw]
    have t : (W == 0) = false := by simp; omega
    have t2 : (g == 0) = false := by simp; omega
    have td : (W + b - 2).tdiv g = (W + b - 2) / g := Int.tdiv_eq_ediv_of_nonneg (by omega)
    have q1 : 0 ≤ (W + b - 2) / g := Int.ediv_nonneg (by omega) (by omega)
    have q2 : (W + b - 2) / g ≤ W + b - 2 := Int.ediv_le_self g (by omega)
    go_enter Try.func20, Try.ntmps20
    go_wp2
    go_ret
    exact ⟨rfl, rfl⟩
  · obtain rfl : W = 0 := by omega
    rw [mostF_zero]
    go_enter Try.func20, Try.ntmps20
    go_wp2
    go_ret
    exact ⟨rfl, rfl⟩

def InRel (u v : Int) (l : List Int) (w : World) (n i : Value) (W : World) : Prop :=
  ∃ (k c : Nat), k ≤ l.length ∧ i = .int .i64 (k : Int) ∧ n = .int .i64 (c : Int) ∧ c = inF u v (l.take k) ∧ c ≤ k ∧ W = w
set_option maxHeartbeats 1000000 in
theorem in_ {A : Option Addr} {c n : Nat} {l : List Int} {w : World} (u v : Int) (h : Ints w A c l) (hn : l.length = n) (hl : n ≤ 4000) :
    Calls Try.prog 18 #[.slice A n c, .int .i64 u, .int .i64 v] w (Says (.int .i64 (inF u v l : Nat)) w) := by
  have H := Lib.hid h
  clear h
  go_enter Try.func18, Try.ntmps18
  go_wp2
  go_loopw [7, 12] (fun c i W => InRel u v l w c i W) (fun _ i _ => n - (intOf i).toNat)
  case atStart => exact ⟨0, 0, by omega, rfl, rfl, by simp [inF], by omega, rfl⟩
  case round =>
    obtain ⟨k, c, hk, rfl, rfl, hc, hck, rfl⟩ := hrel
    by_cases hlt : k < n
    · have t1 : decide ((k : Int) < (n : Int)) = true := by simp; omega
      have hx : l[k]? = some (l[k]'(by omega)) := List.getElem?_eq_getElem (by omega)
      obtain ⟨b, off, rfl, hb, hcell⟩ := H.out.at_ hx
      have ck := hcell _ (Below.refl _ _)
      have HN := Lib.hid (inF_next (u := u) (v := v) hx)
      have HC := Lib.hid hc
      clear hx hc hcell
      generalize l[k]'_ = x at HN ck
      by_cases h1 : u ≤ x
      · by_cases h2 : x < v
        · go_wp2
          go_roundw
          case rel => exact ⟨k + 1, c + 1, by omega, by go_num, by go_num, by rw [HN.out, if_pos ⟨h1, h2⟩, ← HC.out], by omega, rfl⟩
          case measure => simp [intOf]; omega
        · have t2 : decide (x < v) = false := by simp; omega
          go_wp2
          go_roundw
          case rel => exact ⟨k + 1, c, by omega, by go_num, rfl, by rw [HN.out, if_neg (fun h => h2 h.2), ← HC.out]; rfl, by omega, rfl⟩
          case measure => simp [intOf]; omega
      · have t2 : decide (u ≤ x) = false := by simp; omega
        go_wp2
        go_roundw
        case rel => exact ⟨k + 1, c, by omega, by go_num, rfl, by rw [HN.out, if_neg (fun h => h1 h.1), ← HC.out]; rfl, by omega, rfl⟩
        case measure => simp [intOf]; omega
    · have t1 : decide ((k : Int) < (n : Int)) = false := by simp; omega
      have t2 : decide (k < n) = false := by simp; omega
      obtain rfl : k = n := by omega
      rw [List.take_of_length_le (by omega)] at hc
      subst hc
      go_wp2
      go_ret
      exact ⟨rfl, rfl⟩
end Go.Proofs.Ytckdnnmkookedaa
