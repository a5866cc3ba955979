/- The walk of the statement on what is answered being new memory. -/
import Derived.Test.YtblecehmbmbjiaaPa
namespace Go.Proofs.Ytblecehmbmbjiaa.Keeps
open Go.RowKit

def PushRel (w : World) (p N : Nat) (i : Value) (W : World) : Prop := ∃ (k : Nat) (m : List Ky), k ≤ N ∧ m.length ≤ k ∧ i = .int .i64 (k : Int) ∧ Has w p 1024 m W
def OverRel (w : World) (p g c n c2 : Nat) (A2 : Option Addr) (m : List Ky) (i : Value) (W : World) : Prop :=
  ∃ k : Nat, k ≤ n ∧ i = .int .i64 (k : Int) ∧ Has w p 1024 m W ∧ Keys W A2 c2 m ∧ (0 < n → KRow W g c [])

set_option maxRecDepth 100000 in
set_option maxHeartbeats 4000000 in
theorem core (l : List Ky) (a : Option Addr) (cap : Nat) (w : World) (hm : l.length ≤ maxLen) (hr : Keys w a cap l) : Calls Try.prog 6 #[.slice a l.length cap] w (Woke w) := by
  have HR := Lib.hid hr
  unfold maxLen at hm
  clear hr
  have KN := Lib.hid (fun W (hb : Below w.heap.size w W) => has_new (w0 := w) 1024 hb (by omega) (by omega))
  go_enter Try.func6, Try.ntmps6
  go_wp2_with (fail)
  refine (awake _).mono ?_
  rintro e w1 ⟨rfl, hb1⟩
  have B1 := Lib.hid hb1
  clear hb1
  by_cases h3 : 300 < l.length
  · have t1 : decide ((300 : Int) < (l.length : Int)) = true := by simp; omega
    go_wp2_with (fail)
    refine (awake _).mono ?_
    rintro e w2 ⟨rfl, hb2⟩
    go_wp2
    go_ret
    exact ⟨rfl, B1.out.trans (hb2.mono B1.out.size)⟩
  · have t1 : decide ((300 : Int) < (l.length : Int)) = false := by simp; omega
    go_wp2_with (fail)
    refine (KN.out _ B1.out).mono ?_
    rintro e w2 ⟨rfl, h2, _⟩
    have H2 := Lib.hid h2
    clear h2
    generalize w1.heap.size = p at H2 ⊢
    go_wp2
    go_loopw [5] (fun i W => PushRel w p l.length i W) (fun i _ => l.length - (intOf i).toNat)
    case atStart => exact ⟨0, [], by omega, by simp, rfl, H2.out⟩
    case round =>
      obtain ⟨k, m, hk, hmk, rfl, hh⟩ := hrel
      have H3 := Lib.hid hh
      clear hh
      by_cases hlt : k < l.length
      · have t4 : decide ((k : Int) < (l.length : Int)) = true := by simp; omega
        have hx : l[k]? = some l[k] := List.getElem?_eq_getElem hlt
        obtain ⟨b, off, rfl, hbl, x0, x1, x2, x3⟩ := (HR.out.below (Nat.le_refl _) H3.out.below).cells hx
        clear hx
        have KP := Lib.hid (has_push_any l[k] (by omega) H3.out)
        have hml := length_pushS m l[k]
        generalize l[k] = x at x0 x1 x2 x3 KP hml
        generalize pushS m x = m2 at KP hml
        generalize pushV m x = v at KP
        obtain ⟨y0, y1, y2, y3⟩ := x
        simp only [aggQ] at x0 x1 x2 x3 KP
        go_wp2_with (fail)
        with_reducible refine KP.out.mono ?_
        rintro e w4 ⟨rfl, h4, _⟩
        have H4 := Lib.hid h4
        clear h4 x0 x1 x2 x3
        go_wp2
        go_roundw
        case rel => exact ⟨k + 1, m2, by omega, by omega, by go_num, H4.out⟩
        case measure => simp [intOf]; omega
      · have t4 : decide ((k : Int) < (l.length : Int)) = false := by simp; omega
        have t4' : decide (k < l.length) = false := by simp; omega
        obtain ⟨n, hn⟩ : ∃ n, n = m.length := ⟨_, rfl⟩
        have HN := Lib.hid hn.symm
        have hn3 : n ≤ 300 := by omega
        clear hn
        have KS : Hid (∀ W, Has w p 1024 m W → Calls Try.prog 21 #[.pointer (some ⟨p, 0, none⟩)] W (HasAll n w p 1024 m W)) := fun W h => has_sorted n HN.out h
        go_wp2_with (fail)
        with_reducible refine (KS.out _ H3.out).mono ?_
        rintro e w4 ⟨A, c, rfl, h4, hb4, hc4, hk4, hr4⟩
        have H4 := Lib.hid h4
        have HK4 := Lib.hid hk4
        have HK5 := Lib.hid (hk4.below (Nat.le_refl _) (below_new w4 (.cells #[] 31)))
        have HR4 := Lib.hid hr4
        have HG := Lib.hid (grows_n0 w4)
        clear h4 hb4 hk4 hr4
        go_wp2_with (
          at_builtin
          refine wpList_append_keys rfl (.tmp 41) (.tmp 42) rfl w4 (some ⟨w4.heap.size, 0, none⟩) 0 n c 0 n [] m A rfl rfl HG.out HN.out HK5.out (by omega) (by omega) ?_
          intro A2 c2 w5 hp5
          have HP5 := Lib.hid hp5.grows
          clear hp5)
        obtain ⟨g, hg⟩ : ∃ g, 0 < n → A = some ⟨g, 0, none⟩ ∧ wr.heap.size ≤ g ∧ KRow w4 g c m := by
          by_cases h0 : 0 < n
          · obtain ⟨g, h⟩ := HR4.out h0
            exact ⟨g, fun _ => h⟩
          · exact ⟨0, fun h => absurd h h0⟩
        have HGG := Lib.hid hg
        have H5 := Lib.hid (H4.out.more HP5.out.1)
        have HK6 := Lib.hid HP5.out.keys
        have HAP : Hid (0 < n → ∀ x, A2 = some x → x.block ≠ g) := fun h0 x hx => by
          have h1 := HP5.out.fresh x hx
          have h2 := (HGG.out h0).2.2.lt
          omega
        have HPG : Hid (0 < n → p ≠ g) := fun h0 => by
          have h1 := H3.out.heap.lt
          have h2 := (HGG.out h0).2.1
          omega
        have HR5 : Hid (0 < n → KRow w5 g c []) := fun h0 => ((HGG.out h0).2.2.below HP5.out.1 (HGG.out h0).2.2.lt).bare
        clear hg HR4 HK4 HK5 HG HP5
        go_loopw [8] (fun i W => OverRel w p g c n c2 A2 m i W) (fun i _ => n - (intOf i).toNat)
        case atStart => exact ⟨0, by omega, rfl, H5.out, HK6.out, HR5.out⟩
        case round =>
          obtain ⟨j, hj, rfl, hh, hkk, hrr⟩ := hrel
          have H6 := Lib.hid hh
          have HK7 := Lib.hid hkk
          have HR6 := Lib.hid hrr
          clear hh hkk hrr H5 HK6 HR5
          by_cases hjn : j < n
          · have t5 : decide ((j : Int) < (n : Int)) = true := by simp; omega
            have h0 : 0 < n := by omega
            obtain ⟨rfl, hge, _⟩ := HGG.out h0
            have HRR := Lib.hid (HR6.out h0)
            have HAA := Lib.hid (HAP.out h0)
            have hpg := HPG.out h0
            have hjc : j < c := by omega
            obtain ⟨u, hu⟩ := HRR.out.at_ hjc
            have y0 : wr.cell? ⟨g, j * 4, none⟩ = some (u 0) := (hu 0 (by omega)).1
            have y1 : wr.cell? ⟨g, j * 4 + 1, none⟩ = some (u 1) := (hu 1 (by omega)).1
            have y2 : wr.cell? ⟨g, j * 4 + 2, none⟩ = some (u 2) := (hu 2 (by omega)).1
            have y3 : wr.cell? ⟨g, j * 4 + 3, none⟩ = some (u 3) := (hu 3 (by omega)).1
            have f0 : wr.frozen? ⟨g, j * 4, none⟩ = false := (hu 0 (by omega)).2
            have f1 : wr.frozen? ⟨g, j * 4 + 1, none⟩ = false := (hu 1 (by omega)).2
            have f2 : wr.frozen? ⟨g, j * 4 + 2, none⟩ = false := (hu 2 (by omega)).2
            have f3 : wr.frozen? ⟨g, j * 4 + 3, none⟩ = false := (hu 3 (by omega)).2
            clear hu
            have hgl := HRR.out.lt
            have HX1 : Hid (Has w p 1024 m ((((wr.setCell ⟨g, j * 4, none⟩ (.int .i64 0)).setCell ⟨g, j * 4 + 1, none⟩ (.int .i64 0)).setCell ⟨g, j * 4 + 2, none⟩ (.int .i64 0)).setCell ⟨g, j * 4 + 3, none⟩ (.int .i64 (-9)))) := H6.out.turns (Nat.le_trans H3.out.below.size hge) hpg (turns_setCells (S := fun k => k = g) (g := g) rfl (cellsQ (0, 0, 0, -9)) (j * 4) _ (Turns.refl _ _))
            have HX2 : Hid (KRow ((((wr.setCell ⟨g, j * 4, none⟩ (.int .i64 0)).setCell ⟨g, j * 4 + 1, none⟩ (.int .i64 0)).setCell ⟨g, j * 4 + 2, none⟩ (.int .i64 0)).setCell ⟨g, j * 4 + 3, none⟩ (.int .i64 (-9))) g c []) := HRR.out.spoil (j * 4) (cellsQ (0, 0, 0, -9))
            have HX3 : Hid (Keys ((((wr.setCell ⟨g, j * 4, none⟩ (.int .i64 0)).setCell ⟨g, j * 4 + 1, none⟩ (.int .i64 0)).setCell ⟨g, j * 4 + 2, none⟩ (.int .i64 0)).setCell ⟨g, j * 4 + 3, none⟩ (.int .i64 (-9))) A2 c2 m) := (((HK7.out.setCell (p := ⟨g, j * 4, none⟩) HAA.out _).setCell (p := ⟨g, j * 4 + 1, none⟩) HAA.out _).setCell (p := ⟨g, j * 4 + 2, none⟩) HAA.out _).setCell (p := ⟨g, j * 4 + 3, none⟩) HAA.out _
            go_wp2
            go_roundw
            case rel => exact ⟨j + 1, by omega, by go_num, HX1.out, HX3.out, fun _ => HX2.out⟩
            case measure => simp [intOf]; omega
          · have t5 : decide ((j : Int) < (n : Int)) = false := by simp; omega
            have t5' : decide (j < n) = false := by simp; omega
            go_wp2_with (fail)
            with_reducible refine (KS.out _ H6.out).mono ?_
            rintro e w7 ⟨A7, c7, rfl, h7, hb7, hc7, hk7, _⟩
            have SM := Lib.hid (refSame m A7 A2 c7 c2 (by rw [HN.out]; omega) hk7 (HK7.out.below (Nat.le_refl _) hb7))
            have B7 := Lib.hid h7.below
            rw [HN.out] at SM
            clear h7 hb7 hk7
            go_wp2_with (fail)
            with_reducible refine SM.out.mono ?_
            rintro e w8 ⟨rfl, q, rfl⟩
            go_wp2
            go_ret
            exact ⟨rfl, below_drewN B7.out q⟩
end Go.Proofs.Ytblecehmbmbjiaa.Keeps
