/- Faults that the statement makes: some list of small numbers. -/
import Derived.Test.YtckdnnmkookedaaSr
namespace Go.Proofs.Ytckdnnmkookedaa
open Go.RowKit

/-- Small numbers, so many at most. -/
def Few (q : Nat) (L : List Int) : Prop := L.length ≤ q ∧ ∀ y ∈ L, 0 ≤ y ∧ y ≤ 40000
theorem few_nil : Few 0 [] := ⟨Nat.le_refl _, fun y h => by simp at h⟩
theorem Few.app {q : Nat} {L : List Int} (h : Few q L) {x : Int} (h0 : 0 ≤ x) (h1 : x ≤ 40000) : Few (q + 1) (L ++ [x]) := by
  refine ⟨by have := h.1; simp; omega, fun y hy => ?_⟩
  rcases List.mem_append.1 hy with hy | hy
  · exact h.2 y hy
  · rw [List.mem_singleton.1 hy]; exact ⟨h0, h1⟩
theorem Few.more {q q' : Nat} {L : List Int} (h : Few q L) (hq : q ≤ q') : Few q' L := ⟨Nat.le_trans h.1 hq, h.2⟩
/-- It answers small numbers in a row of its own. -/
def Makes (w : World) (e : Ending) (w' : World) : Prop := ∃ L, Few 480 L ∧ NewInts L w e w'
def MadeRel (n : Nat) (w : World) (v x i : Value) (W : World) : Prop :=
  ∃ (k : Nat) (X : Int) (L : List Int), k ≤ n ∧ i = .int .i64 (k : Int) ∧ x = .int .i64 X ∧ 0 ≤ X ∧ X ≤ 511 * (k : Int) ∧ Few (8 * k) L ∧ Owns w L v W
def BitRel (k : Nat) (w : World) (v i : Value) (W : World) : Prop :=
  ∃ (j : Nat) (L : List Int), 1 ≤ j ∧ j ≤ 8 ∧ i = .int .i64 (j : Int) ∧ Few (8 * k + j) L ∧ Owns w L v W
set_option maxRecDepth 100000 in
set_option maxHeartbeats 8000000 in
theorem made {A1 A2 : Option Addr} {c1 c2 n1 n2 : Nat} {la lb : List Int} {w : World} (b g : Int) (h1 : Smalls w A1 c1 la) (hn1 : la.length = n1) (hl : n1 ≤ 60) (h2 : Smalls w A2 c2 lb) (hn2 : lb.length = n2)
    (g0 : 1 ≤ g) (g1 : g ≤ 256) :
    Calls Try.prog 21 #[.slice A1 n1 c1, .slice A2 n2 c2, .int .i64 b, .int .i64 g] w (Makes w) := by
  have H1 := Lib.hid h1
  have H2 := Lib.hid h2
  clear h1 h2
  go_enter Try.func21, Try.ntmps21
  go_wp2
  go_loopw [9, 10, 11] (fun v x i W => MadeRel n1 w v x i W) (fun _ _ i _ => n1 - (intOf i).toNat)
  case atStart => exact ⟨0, 0, [], by omega, rfl, rfl, by omega, by omega, few_nil, owns_none w⟩
  case round =>
    obtain ⟨k, X, L, hk, rfl, rfl, hX0, hX1, hf, ho⟩ := hrel
    have HO := Lib.hid ho
    have HF := Lib.hid hf
    have hLn := hf.1
    by_cases hlt : k < n1
    · have t1 : decide ((k : Int) < (n1 : Int)) = true := by simp; omega
      have hx : la[k]? = some (la[k]'(by omega)) := List.getElem?_eq_getElem (by omega)
      obtain ⟨ba, oa, rfl, hba, hca, ha0, ha1⟩ := (H1.out.tells ho.2).at_ hx
      have hbw := ho.2.size
      clear hx ho hf
      generalize la[k]'_ = t at *
      by_cases hk0 : 0 < k
      · have t2 : decide (0 < (k : Int)) = true := by simp; omega
        go_wp2_with (at_builtin; first
          | (refine append_ints _ rfl _ _ rfl w.heap.size _ L.length L rfl (HO.out.1.alloc _) _ 1 1 [X + t + g] rfl rfl (one_int _ _) (by omega) (by simp; omega) ?_
             intro v2 w2 o2 g2
             have H3 := Lib.hid (owns_one HO.out _ o2 g2)
             clear o2 g2))
        clear hca hba
        have HF3 := Lib.hid (HF.out.app (x := X + t + g) (by omega) (by omega))
        go_loopw [9, 12] (fun v i W => BitRel k w v i W) (fun _ i _ => 8 - (intOf i).toNat)
        case atStart => exact ⟨1, _, by omega, by omega, rfl, HF3.out, H3.out⟩
        case round =>
          obtain ⟨j, L', hj1, hj8, rfl, hf', ho'⟩ := hrel
          have HF' := Lib.hid hf'
          have HO' := Lib.hid ho'
          have hLn' := hf'.1
          have hbw' := ho'.2.size
          clear hf' ho'
          by_cases hjb : (j : Int) < b
          · have t3 : decide ((j : Int) < b) = true := decide_eq_true hjb
            by_cases hj8' : j < 8
            · have t4 : decide ((j : Int) < 8) = true := by simp; omega
              have t4' : decide (j < 8) = true := by simp; omega
              by_cases hjg : (j : Int) < g
              · have t5 : decide ((j : Int) < g) = true := decide_eq_true hjg
                by_cases hltb : k < n2
                · have t6 : decide ((k : Int) < (n2 : Int)) = true := by simp; omega
                  have hxb : lb[k]? = some (lb[k]'(by omega)) := List.getElem?_eq_getElem (by omega)
                  obtain ⟨bb, ob, rfl, hbb, hcb, hb0, hb1⟩ := (H2.out.tells HO'.out.2).at_ hxb
                  clear hxb
                  generalize lb[k]'_ = y at *
                  cases hbit : (bits BinOp.and IntKind.u8 (y / 2 ^ j) 1 == 1)
                  · go_wp2
                    go_roundw
                    case rel => exact ⟨j + 1, L', by omega, by omega, by go_num, HF'.out.more (by omega), HO'.out⟩
                    case measure => simp [intOf]; omega
                  · go_wp2_with (at_builtin; first
                      | (refine append_ints _ rfl _ _ rfl w.heap.size _ L'.length L' rfl (HO'.out.1.alloc _) _ 1 1 [X + t + g + (j : Int)] rfl rfl (one_int _ _) (by omega) (by simp; omega) ?_
                         intro v4 w4 o4 g4
                         have H4 := Lib.hid (owns_one HO'.out _ o4 g4)
                         clear o4 g4))
                    have HF4 := Lib.hid (HF'.out.app (x := X + t + g + (j : Int)) (by omega) (by omega))
                    go_roundw
                    case rel => exact ⟨j + 1, _, by omega, by omega, by go_num, HF4.out.more (by omega), H4.out⟩
                    case measure => simp [intOf]; omega
                · have t6 : decide ((k : Int) < (n2 : Int)) = false := by simp; omega
                  have t6' : decide (k < n2) = false := by simp; omega
                  go_wp2
                  go_roundw
                  case rel => exact ⟨j + 1, L', by omega, by omega, by go_num, HF'.out.more (by omega), HO'.out⟩
                  case measure => simp [intOf]; omega
              · have t5 : decide ((j : Int) < g) = false := decide_eq_false hjg
                go_wp2
                go_roundw
                case rel => exact ⟨k + 1, X + t + g, L', by omega, by go_num, rfl, by omega, by omega, HF'.out.more (by omega), HO'.out⟩
                case measure => simp [intOf]; omega
            · have t4 : decide ((j : Int) < 8) = false := by simp; omega
              have t4' : decide (j < 8) = false := by simp; omega
              go_wp2
              go_roundw
              case rel => exact ⟨k + 1, X + t + g, L', by omega, by go_num, rfl, by omega, by omega, HF'.out.more (by omega), HO'.out⟩
              case measure => simp [intOf]; omega
          · have t3 : decide ((j : Int) < b) = false := decide_eq_false hjb
            go_wp2
            go_roundw
            case rel => exact ⟨k + 1, X + t + g, L', by omega, by go_num, rfl, by omega, by omega, HF'.out.more (by omega), HO'.out⟩
            case measure => simp [intOf]; omega
      · have t2 : decide (0 < (k : Int)) = false := by simp; omega
        have t2' : decide (0 < k) = false := by simp; omega
        go_wp2_with (at_builtin; first
          | (refine append_ints _ rfl _ _ rfl w.heap.size _ L.length L rfl (HO.out.1.alloc _) _ 1 1 [X + t] rfl rfl (one_int _ _) (by omega) (by simp; omega) ?_
             intro v2 w2 o2 g2
             have H3 := Lib.hid (owns_one HO.out _ o2 g2)
             clear o2 g2))
        clear hca hba
        have HF3 := Lib.hid (HF.out.app (x := X + t) (by omega) (by omega))
        go_loopw [9, 12] (fun v i W => BitRel k w v i W) (fun _ i _ => 8 - (intOf i).toNat)
        case atStart => exact ⟨1, _, by omega, by omega, rfl, HF3.out, H3.out⟩
        case round =>
          obtain ⟨j, L', hj1, hj8, rfl, hf', ho'⟩ := hrel
          have HF' := Lib.hid hf'
          have HO' := Lib.hid ho'
          have hLn' := hf'.1
          have hbw' := ho'.2.size
          clear hf' ho'
          by_cases hjb : (j : Int) < b
          · have t3 : decide ((j : Int) < b) = true := decide_eq_true hjb
            by_cases hj8' : j < 8
            · have t4 : decide ((j : Int) < 8) = true := by simp; omega
              have t4' : decide (j < 8) = true := by simp; omega
              by_cases hjg : (j : Int) < g
              · have t5 : decide ((j : Int) < g) = true := decide_eq_true hjg
                by_cases hltb : k < n2
                · have t6 : decide ((k : Int) < (n2 : Int)) = true := by simp; omega
                  have hxb : lb[k]? = some (lb[k]'(by omega)) := List.getElem?_eq_getElem (by omega)
                  obtain ⟨bb, ob, rfl, hbb, hcb, hb0, hb1⟩ := (H2.out.tells HO'.out.2).at_ hxb
                  clear hxb
                  generalize lb[k]'_ = y at *
                  cases hbit : (bits BinOp.and IntKind.u8 (y / 2 ^ j) 1 == 1)
                  · go_wp2
                    go_roundw
                    case rel => exact ⟨j + 1, L', by omega, by omega, by go_num, HF'.out.more (by omega), HO'.out⟩
                    case measure => simp [intOf]; omega
                  · go_wp2_with (at_builtin; first
                      | (refine append_ints _ rfl _ _ rfl w.heap.size _ L'.length L' rfl (HO'.out.1.alloc _) _ 1 1 [X + t + (j : Int)] rfl rfl (one_int _ _) (by omega) (by simp; omega) ?_
                         intro v4 w4 o4 g4
                         have H4 := Lib.hid (owns_one HO'.out _ o4 g4)
                         clear o4 g4))
                    have HF4 := Lib.hid (HF'.out.app (x := X + t + (j : Int)) (by omega) (by omega))
                    go_roundw
                    case rel => exact ⟨j + 1, _, by omega, by omega, by go_num, HF4.out.more (by omega), H4.out⟩
                    case measure => simp [intOf]; omega
                · have t6 : decide ((k : Int) < (n2 : Int)) = false := by simp; omega
                  have t6' : decide (k < n2) = false := by simp; omega
                  go_wp2
                  go_roundw
                  case rel => exact ⟨j + 1, L', by omega, by omega, by go_num, HF'.out.more (by omega), HO'.out⟩
                  case measure => simp [intOf]; omega
              · have t5 : decide ((j : Int) < g) = false := decide_eq_false hjg
                go_wp2
                go_roundw
                case rel => exact ⟨k + 1, X + t, L', by omega, by go_num, rfl, by omega, by omega, HF'.out.more (by omega), HO'.out⟩
                case measure => simp [intOf]; omega
            · have t4 : decide ((j : Int) < 8) = false := by simp; omega
              have t4' : decide (j < 8) = false := by simp; omega
              go_wp2
              go_roundw
              case rel => exact ⟨k + 1, X + t, L', by omega, by go_num, rfl, by omega, by omega, HF'.out.more (by omega), HO'.out⟩
              case measure => simp [intOf]; omega
          · have t3 : decide ((j : Int) < b) = false := decide_eq_false hjb
            go_wp2
            go_roundw
            case rel => exact ⟨k + 1, X + t, L', by omega, by go_num, rfl, by omega, by omega, HF'.out.more (by omega), HO'.out⟩
            case measure => simp [intOf]; omega
    · have t1 : decide ((k : Int) < (n1 : Int)) = false := by simp; omega
      have t1' : decide (k < n1) = false := by simp; omega
      obtain ⟨_, A3, c3, rfl, _⟩ := own_ints HO.out.1
      go_wp2
      go_ret
      exact ⟨L, HF.out.more (by omega), _, rfl, HO.out.1, HO.out.2⟩
end Go.Proofs.Ytckdnnmkookedaa
