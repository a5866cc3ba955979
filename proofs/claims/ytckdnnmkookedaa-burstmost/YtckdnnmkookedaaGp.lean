/- The greatest gap; whether faults are legal. -/
import Derived.Test.YtckdnnmkookedaaSr
namespace Go.Proofs.Ytckdnnmkookedaa
open Go.RowKit

theorem gap_next {S : List Int} {k : Nat} {x y m : Int} (hx : S[k]? = some x) (hy : S[k + 1]? = some y) : gapL m (S.take (k + 2)) = min (gapL m (S.take (k + 1))) (y - x) := by
  rw [take_snoc hy, take_snoc hx, List.append_assoc]
  exact gapL_next _ _ _ _
def GapRel (S : List Int) (w : World) (g i : Value) (W : World) : Prop :=
  ∃ (k q : Nat), (k = 0 ∨ k + 1 ≤ S.length) ∧ i = .int .i64 (k : Int) ∧ g = .int .i64 (gapL 1049576 (S.take (k + 1))) ∧ W = w.drewN q
set_option maxHeartbeats 4000000 in
theorem gap {A : Option Addr} {c n : Nat} {l : List Int} {w : World} (b : Int) (h : Ints w A c l) (hn : l.length = n) (hl : n ≤ 3000) (hs : ∀ x ∈ l, 0 ≤ x ∧ x ≤ 1099511627776) (b0 : 1 ≤ b) (b1 : b ≤ 1000) :
    Calls Try.prog 12 #[.slice A n c, .int .i64 b] w (Gives (.int .i64 (gapF b l)) w) := by
  have KS := Lib.hid (starts b h hn hl hs b0 b1)
  have HS : Hid (∀ x ∈ startsF b l, 0 ≤ x ∧ x ≤ 1099511627776) := Lib.hid (fun x hx => hs x (starts_sub hx))
  have hsl : (startsF b l).length ≤ 3000 := by have := starts_len b l; omega
  have HG : Hid (gapF b l = gapL 1049576 (startsF b l)) := Lib.hid rfl
  have HP : Hid (1 ≤ gapF b l) := Lib.hid (gapF_pos b0 l)
  generalize gapF b l = G at *
  generalize startsF b l = S at *
  clear h hs
  go_enter Try.func12, Try.ntmps12
  go_wp2_with (first
    | (go_at_call 22; refine (isLength_yes _ _ b0 b1).mono ?_; rintro e w' ⟨rfl, rfl⟩)
    | fail)
  with_reducible refine KS.out.mono ?_
  rintro e w1 ⟨v, rfl, ho, hb1⟩
  obtain ⟨_, A2, c2, rfl, hI⟩ := own_ints ho
  have HI := Lib.hid hI
  have HB := Lib.hid hb1
  clear ho hI hb1
  go_wp2
  go_loopw [6, 17] (fun g i W => GapRel S w1 g i W) (fun _ i _ => S.length - (intOf i).toNat)
  case atStart => exact ⟨0, 0, .inl rfl, rfl, by cases S <;> rfl, rfl⟩
  case round =>
    obtain ⟨k, q, hk, rfl, rfl, rfl⟩ := hrel
    by_cases hlt : k + 1 < S.length
    · have t1 : decide ((k : Int) < (S.length : Int) - 1) = true := by simp; omega
      have hx : S[k]? = some (S[k]'(by omega)) := List.getElem?_eq_getElem (by omega)
      have hy : S[k + 1]? = some (S[k + 1]'(by omega)) := List.getElem?_eq_getElem (by omega)
      obtain ⟨x0, x1⟩ := HS.out _ (List.mem_of_getElem? hx)
      obtain ⟨y0, y1⟩ := HS.out _ (List.mem_of_getElem? hy)
      obtain ⟨b1', off, rfl, hb, hcx⟩ := HI.out.at_ hx
      obtain ⟨b2', off2, e2, _, hcy⟩ := HI.out.at_ hy
      cases e2
      have cx := hcx w1 (Below.refl _ _)
      have cy := hcy w1 (Below.refl _ _)
      have HN := Lib.hid (gap_next (m := 1049576) hx hy)
      clear hx hy hcx hcy
      generalize S[k]'_ = x at *
      generalize S[k + 1]'_ = y at *
      generalize gapL 1049576 (S.take (k + 1)) = g at *
      by_cases hm : y - x < g
      · have E : min g (y - x) = y - x := by omega
        have t2 : decide (y - x < g) = true := by simpa using hm
        rw [E] at HN
        clear E
        go_wp2
        go_region
        go_wp2
        go_roundw
        case rel => exact ⟨k + 1, _, .inr (by omega), by go_num, by rw [HN.out], rfl⟩
        case measure => simp [intOf]; omega
      · have E : min g (y - x) = g := by omega
        have t2 : decide (y - x < g) = false := by simpa using hm
        rw [E] at HN
        clear E
        go_wp2
        go_region
        go_wp2
        go_roundw
        case rel => exact ⟨k + 1, _, .inr (by omega), by go_num, by rw [HN.out], rfl⟩
        case measure => simp [intOf]; omega
    · have t1 : decide ((k : Int) < (S.length : Int) - 1) = false := by simp; omega
      have t2 : ¬ ((k : Int) < (S.length : Int) - 1) := by omega
      have HT := Lib.hid (show gapL 1049576 (S.take (k + 1)) = G by rw [HG.out, List.take_of_length_le (by omega)])
      rw [HT.out]
      go_wp2
      go_ret
      exact ⟨rfl, below_drewN HB.out q⟩

set_option maxHeartbeats 1000000 in
theorem legal {A : Option Addr} {c n : Nat} {l : List Int} {w : World} (b g : Int) (h : Ints w A c l) (hn : l.length = n) (hl : n ≤ 3000) (hs : ∀ x ∈ l, 0 ≤ x ∧ x ≤ 1099511627776) (b0 : 1 ≤ b) (b1 : b ≤ 1000) (g0 : 1 ≤ g) (g1 : g ≤ 1049576) :
    Calls Try.prog 16 #[.slice A n c, .int .i64 b, .int .i64 g] w (Gives (.bool (decide (g ≤ gapF b l))) w) := by
  have KG := Lib.hid (gap b h hn hl hs b0 b1)
  generalize gapF b l = G at *
  clear h hs
  go_enter Try.func16, Try.ntmps16
  go_wp2_with (first
    | (go_at_call 23; refine (isGap_yes _ _ g0 g1).mono ?_; rintro e w' ⟨rfl, rfl⟩)
    | (go_at_call 12; refine KG.out.mono ?_; rintro e w1 ⟨rfl, hb1⟩))
  go_ret
  exact ⟨rfl, hb1⟩

/-- The first k distances are no less than g. -/
def LegalRel (S : List Int) (g : Int) (w : World) (i : Value) (W : World) : Prop :=
  ∃ (k q : Nat), 1 ≤ k ∧ (k = 1 ∨ k ≤ S.length) ∧ i = .int .i64 (k : Int) ∧ g ≤ gapL 1049576 (S.take k) ∧ W = w.drewN q
set_option maxHeartbeats 4000000 in
theorem refLegal {A : Option Addr} {c n : Nat} {l : List Int} {w : World} (b g : Int) (h : Ints w A c l) (hn : l.length = n) (hl : n ≤ 3000) (hs : ∀ x ∈ l, 0 ≤ x ∧ x ≤ 1099511627776) (b0 : 1 ≤ b) (b1 : b ≤ 1000) (g1 : g ≤ 1049576) :
    Calls Try.prog 17 #[.slice A n c, .int .i64 b, .int .i64 g] w (Gives (.bool (decide (g ≤ gapF b l))) w) := by
  have KS := Lib.hid (refStarts b h hn hl hs b0 b1)
  have HS : Hid (∀ x ∈ startsF b l, 0 ≤ x ∧ x ≤ 1099511627776) := Lib.hid (fun x hx => hs x (starts_sub hx))
  have hsl : (startsF b l).length ≤ 3000 := by have := starts_len b l; omega
  have HG : Hid (gapF b l = gapL 1049576 (startsF b l)) := Lib.hid rfl
  generalize gapF b l = G at *
  generalize startsF b l = S at *
  clear h hs
  go_enter Try.func17, Try.ntmps17
  go_wp2_with (fail)
  with_reducible refine KS.out.mono ?_
  rintro e w1 ⟨v, rfl, ho, hb1⟩
  obtain ⟨_, A2, c2, rfl, hI⟩ := own_ints ho
  have HI := Lib.hid hI
  have HB := Lib.hid hb1
  clear ho hI hb1
  go_wp2
  go_loopw [8] (fun i W => LegalRel S g w1 i W) (fun i _ => S.length - (intOf i).toNat)
  case atStart => exact ⟨1, 0, by omega, .inl rfl, rfl, by cases S <;> exact g1, rfl⟩
  case round =>
    obtain ⟨k, q, hk1, hk, rfl, hle, rfl⟩ := hrel
    have HL := Lib.hid hle
    clear hle
    by_cases hlt : k < S.length
    · have t1 : decide ((k : Int) < (S.length : Int)) = true := by simp; omega
      obtain ⟨j, rfl⟩ : ∃ j, k = j + 1 := ⟨k - 1, by omega⟩
      have hx : S[j]? = some (S[j]'(by omega)) := List.getElem?_eq_getElem (by omega)
      have hy : S[j + 1]? = some (S[j + 1]'(by omega)) := List.getElem?_eq_getElem (by omega)
      obtain ⟨x0, x1⟩ := HS.out _ (List.mem_of_getElem? hx)
      obtain ⟨y0, y1⟩ := HS.out _ (List.mem_of_getElem? hy)
      obtain ⟨b1', off, rfl, hb, hcx⟩ := HI.out.at_ hx
      obtain ⟨b2', off2, e2, _, hcy⟩ := HI.out.at_ hy
      cases e2
      have cx := hcx w1 (Below.refl _ _)
      have cy := hcy w1 (Below.refl _ _)
      have HN : Hid (gapL 1049576 (S.take (j + 1 + 1)) = min (gapL 1049576 (S.take (j + 1))) ((S[j + 1]'(by omega)) - (S[j]'(by omega)))) := Lib.hid (gap_next (m := 1049576) hx hy)
      have HA := Lib.hid (fun (ha : Apart g S) => apart_at ha hx hy)
      clear hx hy hcx hcy
      generalize S[j]'_ = x at *
      generalize S[j + 1]'_ = y at *
      by_cases hm : y - x < g
      · have t2 : decide (y - x < g) = true := by simpa using hm
        have HF : Hid (decide (g ≤ G) = false) := Lib.hid (decide_eq_false (fun hle => by
          rw [HG.out] at hle
          have := HA.out ((le_gapL _ _ _).1 hle).2
          omega))
        rw [HF.out]
        go_wp2
        go_quiet (fail)
        go_wp2
        go_ret
        exact ⟨rfl, below_drewN (below_drewN HB.out _) _⟩
      · have t2 : decide (y - x < g) = false := by simpa using hm
        have HN2 : Hid (g ≤ gapL 1049576 (S.take (j + 1 + 1))) := Lib.hid (by have := HN.out; have := HL.out; omega)
        go_wp2
        go_quiet (fail)
        go_wp2
        go_roundw
        case rel => exact ⟨j + 1 + 1, _, by omega, .inr (by omega), by go_num, HN2.out, rfl⟩
        case measure => simp [intOf]; omega
    · have t1 : decide ((k : Int) < (S.length : Int)) = false := by simp; omega
      have t2 : decide (k < S.length) = false := by simp; omega
      have HF : Hid (decide (g ≤ G) = true) := Lib.hid (decide_eq_true (by
        have := HL.out
        rw [List.take_of_length_le (by omega)] at this
        rw [HG.out]; exact this))
      go_wp2
      go_ret
      exact ⟨by rw [HF.out]; rfl, below_drewN HB.out _⟩
end Go.Proofs.Ytckdnnmkookedaa
