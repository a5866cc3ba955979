/- The statements' own beginnings of bursts. -/
import Derived.Test.YtckdnnmkookedaaSt
namespace Go.Proofs.Ytckdnnmkookedaa
open Go.RowKit

def OuterRel (b : Int) (l : List Int) (w : World) (v i : Value) (W : World) : Prop :=
  ∃ k : Nat, k ≤ l.length ∧ i = .int .i64 (k : Int) ∧ Owns w (startsF b (l.take k)) v W ∧ ∀ x, l[k]? = some x → opensB b (lastO none (startsF b (l.take k))) x = true
def InnerRel (b : Int) (l : List Int) (k : Nat) (S : List Int) (W0 : World) (i : Value) (W : World) : Prop :=
  ∃ j : Nat, k ≤ j ∧ j ≤ l.length ∧ i = .int .i64 (j : Int) ∧ (k < j → startsF b (l.take j) = S) ∧ W = W0
set_option maxHeartbeats 4000000 in
theorem refStarts {A : Option Addr} {c n : Nat} {l : List Int} {w : World} (b : Int) (h : Ints w A c l) (hn : l.length = n) (hl : n ≤ 3000) (hs : ∀ x ∈ l, 0 ≤ x ∧ x ≤ 1099511627776) (b0 : 1 ≤ b) (b1 : b ≤ 1000) :
    Calls Try.prog 15 #[.slice A n c, .int .i64 b] w (NewInts (startsF b l) w) := by
  have H := Lib.hid h
  clear h
  go_enter Try.func15, Try.ntmps15
  go_wp2
  go_loopw [5, 6] (fun v i W => OuterRel b l w v i W) (fun _ i _ => n - (intOf i).toNat)
  case atStart => exact ⟨0, by omega, rfl, owns_none w, fun x _ => rfl⟩
  case round =>
    obtain ⟨k, hk, rfl, ho, hop⟩ := hrel
    have HO := Lib.hid ho
    have hsl : (startsF b (l.take k)).length ≤ k := by have := starts_len b (l.take k); rw [List.length_take] at this; omega
    by_cases hlt : k < n
    · have t1 : decide ((k : Int) < (n : Int)) = true := by simp; omega
      have hx : l[k]? = some (l[k]'(by omega)) := List.getElem?_eq_getElem (by omega)
      obtain ⟨x0, x1⟩ := small_at hs hx
      obtain ⟨b1', off, rfl, hb, hcell⟩ := H.out.at_ hx
      have ck := hcell wr ho.2
      have HN : Hid (startsF b (l.take (k + 1)) = startsF b (l.take k) ++ [l[k]'(by omega)]) := Lib.hid (by rw [starts_next hx, if_pos (hop _ hx)])
      have HX := Lib.hid hx
      have HW := Lib.hid ho.2
      have HC := Lib.hid hcell
      clear hx hcell ho hop
      generalize l[k]'_ = x at *
      generalize startsF b (l.take k) = S at *
      go_wp2_with (at_builtin; first
        | (refine append_ints _ rfl _ _ rfl w.heap.size _ S.length S rfl (HO.out.1.alloc _) _ 1 1 [x] rfl rfl (one_int _ x) (by omega) (by have := HO.out.2.size; simp; omega) ?_
           intro v2 w2 o2 g2
           have H2 := Lib.hid (owns_one HO.out _ o2 g2)
           clear o2 g2))
      obtain ⟨S2, hS2⟩ : ∃ S2, S2 = S ++ [x] := ⟨_, rfl⟩
      rw [← hS2] at HN H2
      have HL : Hid (lastO none S2 = some x) := Lib.hid (by rw [hS2, lastO_snoc])
      clear hS2
      go_loopw [6] (fun i W => InnerRel b l k S2 w2 i W) (fun i _ => n - (intOf i).toNat)
      case atStart => exact ⟨k, by omega, by omega, rfl, fun h => absurd h (Nat.lt_irrefl _), rfl⟩
      case round =>
        obtain ⟨j, hj, hj2, rfl, hjS, rfl⟩ := hrel
        have HJ := Lib.hid hjS
        clear hjS
        by_cases hltj : j < n
        · have t3 : decide ((j : Int) < (n : Int)) = true := by simp; omega
          have hz : l[j]? = some (l[j]'(by omega)) := List.getElem?_eq_getElem (by omega)
          obtain ⟨z0, z1⟩ := small_at hs hz
          obtain ⟨b3, off3, e3, hb3, hcz⟩ := H.out.at_ hz
          cases e3
          have cz := hcz _ H2.out.2
          have HZ := Lib.hid hz
          clear hz hcz
          generalize l[j]'_ = z at *
          have HN3 := Lib.hid (starts_next (b := b) HZ.out)
          by_cases ht : z < x + b
          · have t4 : decide (z < x + b) = true := by simpa using ht
            have HK : Hid (startsF b (l.take (j + 1)) = S2) := Lib.hid (by
              rcases Nat.lt_or_ge k j with hkj | hkj
              · rw [HN3.out, HJ.out hkj, HL.out, if_neg (by simp [opensB]; omega), List.append_nil]
              · obtain rfl : j = k := by omega
                exact HN.out)
            go_wp2
            go_roundw
            case rel => exact ⟨j + 1, by omega, by omega, by go_num, fun _ => HK.out, rfl⟩
            case measure => simp [intOf]; omega
          · have t4 : decide (z < x + b) = false := by simpa using ht
            have hkj : k < j := by
              rcases Nat.lt_or_ge k j with hkj | hkj
              · exact hkj
              · obtain rfl : j = k := by omega
                have := HX.out
                rw [HZ.out] at this
                have := Option.some.inj this
                omega
            go_wp2
            go_roundw
            case rel => exact ⟨j, by omega, rfl, by rw [HJ.out hkj]; exact H2.out, fun y hy => by
              rw [HZ.out] at hy
              cases hy
              rw [HJ.out hkj, HL.out]
              simp [opensB]
              omega⟩
            case measure => simp [intOf]; omega
        · have t3 : decide ((j : Int) < (n : Int)) = false := by simp; omega
          have t4 : decide (j < n) = false := by simp; omega
          have hkj : k < j := by omega
          go_wp2
          go_roundw
          case rel => exact ⟨j, by omega, rfl, by rw [HJ.out hkj]; exact H2.out, fun y hy => by
            rw [List.getElem?_eq_none (by omega)] at hy
            cases hy⟩
          case measure => simp [intOf]; omega
    · have t1 : decide ((k : Int) < (n : Int)) = false := by simp; omega
      have t2 : decide (k < n) = false := by simp; omega
      obtain rfl : k = n := by omega
      have HE := Lib.hid (show startsF b (l.take k) = startsF b l by rw [List.take_of_length_le (by omega)])
      rw [HE.out] at HO
      clear ho
      obtain ⟨_, A2, c2, rfl, _⟩ := own_ints HO.out.1
      go_wp2
      go_ret
      exact ⟨_, rfl, HO.out.1, HO.out.2⟩
end Go.Proofs.Ytckdnnmkookedaa
