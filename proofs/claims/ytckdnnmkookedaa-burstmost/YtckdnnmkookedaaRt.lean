/- Whether faults are right; whether rows are the same. -/
import Derived.Test.YtckdnnmkookedaaLg
namespace Go.Proofs.Ytckdnnmkookedaa
open Go.RowKit

/-- Rising times. -/
def Good (l : List Int) : Prop := (∀ x ∈ l, 0 ≤ x ∧ x ≤ 1099511627776) ∧ l.Pairwise (fun x y => x < y)
theorem Good.at_ {l : List Int} (h : Good l) {k : Nat} {x : Int} (hx : l[k]? = some x) : 0 ≤ x ∧ x ≤ 1099511627776 := h.1 x (List.mem_of_getElem? hx)
theorem good_next {l : List Int} {k : Nat} {x : Int} (h : Good (l.take k)) (hx : l[k]? = some x) (h0 : 0 ≤ x) (h1 : x ≤ 1099511627776)
    (hp : 0 < k → ∀ y, l[k - 1]? = some y → y < x) : Good (l.take (k + 1)) := by
  rw [take_snoc hx]
  refine ⟨fun z hz => ?_, ?_⟩
  · rcases List.mem_append.1 hz with hz | hz
    · exact h.1 z hz
    · rw [List.mem_singleton.1 hz]; exact ⟨h0, h1⟩
  · rw [List.pairwise_append]
    refine ⟨h.2, by simp, fun z hz y hy => ?_⟩
    rw [List.mem_singleton.1 hy]
    have hlt := (List.getElem?_eq_some_iff.1 hx).1
    obtain ⟨i, hi⟩ := List.getElem?_of_mem hz
    have hik := (List.getElem?_eq_some_iff.1 hi).1
    rw [List.length_take] at hik
    have hl : l[k - 1]? = some (l[k - 1]'(by omega)) := List.getElem?_eq_getElem (by omega)
    have hlast := hp (by omega) _ hl
    rw [List.getElem?_take, if_pos (by omega)] at hi
    rcases Nat.lt_or_ge i (k - 1) with hlt2 | hge
    · have hp2 := List.pairwise_iff_getElem.1 h.2 i (k - 1) (by rw [List.length_take]; omega) (by rw [List.length_take]; omega) hlt2
      simp only [List.getElem_take] at hp2
      have : l[i]'(by omega) = z := by
        have := List.getElem?_eq_getElem (l := l) (i := i) (by omega)
        rw [hi] at this; exact (Option.some.inj this).symm
      omega
    · obtain rfl : i = k - 1 := by omega
      rw [hl] at hi
      have := Option.some.inj hi
      omega
theorem good_nil : Good [] := ⟨fun x h => by simp at h, List.Pairwise.nil⟩
theorem Good.take {l : List Int} (h : Good l) (k : Nat) : Good (l.take k) := ⟨fun x hx => h.1 x (List.mem_of_mem_take hx), h.2.sublist (List.take_sublist k l)⟩

/-- It answers whether they are right, as far as it says yes. -/
def Rights (l : List Int) (w : World) (e : Ending) (w' : World) : Prop := ∃ b : Bool, e = .returned (.bool b) ∧ (b = true → Good l) ∧ ∃ m, w' = w.drewN m
theorem rights_no {l : List Int} {w w' : World} (m : Nat) (h : w' = w.drewN m) : Rights l w (.returned (.bool false)) w' := ⟨false, rfl, (fun h => by cases h), m, h⟩
def RightRel (l : List Int) (w : World) (i : Value) (W : World) : Prop :=
  ∃ (k m : Nat), k ≤ l.length ∧ i = .int .i64 (k : Int) ∧ Good (l.take k) ∧ W = w.drewN m
set_option maxHeartbeats 2000000 in
theorem right {A : Option Addr} {c n : Nat} {l : List Int} {w : World} (h : Ints w A c l) (hn : l.length = n) (hl : n ≤ 4000) :
    Calls Try.prog 10 #[.slice A n c] w (Rights l w) := by
  have H := Lib.hid h
  clear h
  go_enter Try.func10, Try.ntmps10
  go_wp2
  go_loopw [3] (fun i W => RightRel l w i W) (fun i _ => n - (intOf i).toNat)
  case atStart => exact ⟨0, 0, by omega, rfl, good_nil, rfl⟩
  case round =>
    obtain ⟨k, m, hk, rfl, hg, rfl⟩ := hrel
    have HG := Lib.hid hg
    clear hg
    by_cases hlt : k < n
    · have t1 : decide ((k : Int) < (n : Int)) = true := by simp; omega
      have hx : l[k]? = some (l[k]'(by omega)) := List.getElem?_eq_getElem (by omega)
      obtain ⟨b, off, rfl, hb, hcell⟩ := H.out.at_ hx
      have ck := hcell w (Below.refl _ _)
      have HX := Lib.hid (fun h0 h1 hp => good_next HG.out hx h0 h1 hp)
      have HX2 := Lib.hid hx
      clear hx
      generalize l[k]'_ = x at HX HX2 ck
      by_cases h0 : x < 0
      · have d0 : decide (x < 0) = true := by simpa using h0
        go_wp2
        go_quiet (fail)
        go_wp2
        go_ret
        exact rights_no _ (World.drewN_drewN _ _ _)
      · have d0 : decide (x < 0) = false := by simpa using h0
        by_cases h1 : 1099511627776 < x
        · have d1 : decide (1099511627776 < x) = true := by simpa using h1
          go_wp2
          go_quiet (fail)
          go_wp2
          go_ret
          exact rights_no _ (World.drewN_drewN _ _ _)
        · have d1 : decide (1099511627776 < x) = false := by simpa using h1
          by_cases h2 : 0 < k
          · have d2 : decide (0 < (k : Int)) = true := by simp; omega
            have hy : l[k - 1]? = some (l[k - 1]'(by omega)) := List.getElem?_eq_getElem (by omega)
            obtain ⟨b2, off2, e2, _, hcell2⟩ := H.out.at_ hy
            cases e2
            have cy := hcell2 w (Below.refl _ _)
            have HY := Lib.hid hy
            clear hy hcell2 hcell
            generalize l[k - 1]'_ = y at HY cy
            by_cases h3 : x ≤ y
            · have d3 : decide (x ≤ y) = true := by simpa using h3
              go_wp2
              go_quiet (fail)
              go_wp2
              go_ret
              exact rights_no _ (World.drewN_drewN _ _ _)
            · have d3 : decide (x ≤ y) = false := by simpa using h3
              go_wp2
              go_quiet (fail)
              go_wp2
              go_roundw
              case rel => first
                | exact ⟨k + 1, _, by omega, by go_num, HX.out (by omega) (by omega) (fun _ z hz => by rw [HY.out] at hz; cases hz; omega), rfl⟩
                | exact ⟨k + 1, _, by omega, by go_num, HX.out (by omega) (by omega) (fun _ z hz => by rw [HY.out] at hz; cases hz; omega), World.drewN_drewN _ _ _⟩
              case measure => simp [intOf]; omega
          · have d2 : decide (0 < (k : Int)) = false := by simp; omega
            go_wp2
            go_quiet (fail)
            go_wp2
            go_roundw
            case rel => first
              | exact ⟨k + 1, _, by omega, by go_num, HX.out (by omega) (by omega) (fun h => absurd h h2), rfl⟩
              | exact ⟨k + 1, _, by omega, by go_num, HX.out (by omega) (by omega) (fun h => absurd h h2), World.drewN_drewN _ _ _⟩
            case measure => simp [intOf]; omega
    · have t1 : decide ((k : Int) < (n : Int)) = false := by simp; omega
      have t2 : decide (k < n) = false := by simp; omega
      obtain rfl : k = n := by omega
      have HE : Hid (Good l) := Lib.hid (by have := HG.out; rwa [List.take_of_length_le (by omega)] at this)
      go_wp2
      go_ret
      exact ⟨true, rfl, fun _ => HE.out, m, rfl⟩

def SameRel (n : Nat) (w : World) (i : Value) (W : World) : Prop := ∃ (k m : Nat), k ≤ n ∧ i = .int .i64 (k : Int) ∧ W = w.drewN m
set_option maxHeartbeats 1000000 in
theorem refSame {l : List Int} {x y : Option Addr} {c d n : Nat} {w : World} (hn : l.length = n) (hl : n ≤ 4000) (hx : Ints w x c l) (hy : Ints w y d l) :
    Calls Try.prog 13 #[.slice x n c, .slice y n d] w (Saw (.bool true) w) := by
  have HX := Lib.hid hx
  have HY := Lib.hid hy
  clear hx hy
  go_enter Try.func13, Try.ntmps13
  go_wp2
  go_loopw [5] (fun i W => SameRel n w i W) (fun i _ => n - (intOf i).toNat)
  case atStart => exact ⟨0, 0, by omega, rfl, rfl⟩
  case round =>
    obtain ⟨k, m, hk, rfl, rfl⟩ := hrel
    by_cases hlt : k < n
    · have t1 : decide ((k : Int) < (n : Int)) = true := by simp; omega
      have hx : l[k]? = some (l[k]'(by omega)) := List.getElem?_eq_getElem (by omega)
      obtain ⟨b1, o1, rfl, _, hu⟩ := HX.out.at_ hx
      obtain ⟨b2, o2, rfl, _, hv⟩ := HY.out.at_ hx
      have cu := hu w (Below.refl _ _)
      have cv := hv w (Below.refl _ _)
      clear hx hu hv
      generalize l[k]'_ = t at cu cv
      go_wp2
      go_quiet (fail)
      go_wp2
      go_roundw
      case rel => first | exact ⟨k + 1, _, by omega, by go_num, rfl⟩ | exact ⟨k + 1, _, by omega, by go_num, World.drewN_drewN _ _ _⟩
      case measure => simp [intOf]; omega
    · have t1 : decide ((k : Int) < (n : Int)) = false := by simp; omega
      have t1' : decide (k < n) = false := by simp; omega
      go_wp2
      go_ret
      exact ⟨rfl, m, rfl⟩
end Go.Proofs.Ytckdnnmkookedaa
