/- The walk of the statement on what is answered being new memory. -/
import Derived.Test.YtngoclkhhfcjjaaPa
namespace Go.Proofs.Ytngoclkhhfcjjaa.Keeps
open Go.RowKit

def PushRel (w : World) (p N : Nat) (i : Value) (W : World) : Prop := ∃ (k : Nat) (S : Nat → Prop) (m : List Ky), k ≤ N ∧ m.length ≤ k ∧ i = .int .i64 (k : Int) ∧ Has w S p 1024 0 m W
def OverRel (w : World) (S : Nat → Prop) (p g c n : Nat) (m : List Ky) (i : Value) (W : World) : Prop :=
  ∃ k : Nat, k ≤ n ∧ i = .int .i64 (k : Int) ∧ Has w S p 1024 50 m W ∧ (0 < n → KRow W g c [])
def SeeRel (n : Nat) (i : Value) : Prop := ∃ k : Nat, k ≤ n ∧ i = .int .i64 (k : Int)

set_option maxRecDepth 100000 in
set_option maxHeartbeats 4000000 in
theorem core (l : List Ky) (a : Option Addr) (cap : Nat) (w : World) (hm : l.length ≤ maxLen) (hr : Keys w a cap l) : Calls Try.prog 5 #[.slice a l.length cap] w (Woke w) := by
  have HR := Lib.hid hr
  unfold maxLen at hm
  clear hr
  have KN := Lib.hid (fun W (hb : Below w.heap.size w W) => has_new (w0 := w) 1024 hb (by omega) (by omega))
  go_enter Try.func5, Try.ntmps5
  go_wp2_with (fail)
  refine (awake _).mono ?_
  rintro e w1 ⟨rfl, hb1⟩
  have B1 := Lib.hid hb1
  clear hb1
  by_cases h3 : 200 < l.length
  · have t1 : decide ((200 : Int) < (l.length : Int)) = true := by simp; omega
    go_wp2_with (fail)
    refine (awake _).mono ?_
    rintro e w2 ⟨rfl, hb2⟩
    go_wp2
    go_ret
    exact ⟨rfl, B1.out.trans (hb2.mono B1.out.size)⟩
  · have t1 : decide ((200 : Int) < (l.length : Int)) = false := by simp; omega
    go_wp2_with (fail)
    refine (KN.out _ B1.out).mono ?_
    rintro e w2 ⟨rfl, h2, _⟩
    have H2 := Lib.hid h2
    clear h2
    generalize w1.heap.size = p at H2 ⊢
    go_wp2
    go_loopw [5] (fun i W => PushRel w p l.length i W) (fun i _ => l.length - (intOf i).toNat)
    case atStart => exact ⟨0, _, [], by omega, by simp, rfl, H2.out⟩
    case round =>
      obtain ⟨k, S, m, hk, hmk, rfl, hh⟩ := hrel
      have H3 := Lib.hid hh
      clear hh H2
      by_cases hlt : k < l.length
      · have t4 : decide ((k : Int) < (l.length : Int)) = true := by simp; omega
        have hx : l[k]? = some l[k] := List.getElem?_eq_getElem hlt
        obtain ⟨b, off, rfl, hbl, x0, x1⟩ := (HR.out.below (Nat.le_refl _) H3.out.below).cells hx
        clear hx
        have KP := Lib.hid (has_add_any l[k] (by omega) H3.out)
        have hml := length_addS 0 m l[k]
        generalize l[k] = x at x0 x1 KP hml
        generalize addS 0 m x = m2 at KP hml
        generalize addV 0 m x = v at KP
        obtain ⟨y0, y1⟩ := x
        simp only [aggQ] at x0 x1 KP
        go_wp2_with (fail)
        with_reducible refine KP.out.mono ?_
        rintro e w4 ⟨rfl, ⟨S4, h4, _⟩, _⟩
        have H4 := Lib.hid h4
        clear h4 x0 x1
        go_wp2
        go_roundw
        case rel => exact ⟨k + 1, S4, m2, by omega, by omega, by go_num, H4.out⟩
        case measure => simp [intOf]; omega
      · have t4 : decide ((k : Int) < (l.length : Int)) = false := by simp; omega
        have t4' : decide (k < l.length) = false := by simp; omega
        obtain ⟨n, hn⟩ : ∃ n, n = (due m 50).length := ⟨_, rfl⟩
        obtain ⟨q, hq⟩ : ∃ q, q = (stay m 50).length := ⟨_, rfl⟩
        have hn2 : n ≤ 200 := by have := (due_sub m 50).length_le; omega
        have hq2 : q ≤ 200 := by have := (stay_sub m 50).length_le; omega
        have HQ := Lib.hid hq.symm
        have KS := Lib.hid (has_adv n 50 hn.symm (by omega) (by omega) H3.out)
        clear hn hq
        go_wp2_with (fail)
        with_reducible refine KS.out.mono ?_
        rintro e w4 ⟨A, c, rfl, h4, ht4, hc4, hk4, hf4, hr4⟩
        have H4 := Lib.hid h4
        have HR4 := Lib.hid hr4
        clear h4 ht4 hk4 hf4 hr4
        have KL := lenOf H4.out.whl
        rw [HQ.out] at KL
        have HKL := Lib.hid KL
        clear KL
        go_wp2_with (fail)
        with_reducible refine HKL.out.mono ?_
        rintro e w5 ⟨rfl, rfl⟩
        obtain ⟨g, hg⟩ : ∃ g, 0 < n → A = some ⟨g, 0, none⟩ ∧ wr.heap.size ≤ g ∧ KRow w4 g c (due m 50) := by
          by_cases h0 : 0 < n
          · obtain ⟨g, h⟩ := HR4.out h0
            exact ⟨g, fun _ => h⟩
          · exact ⟨0, fun h => absurd h h0⟩
        have HGG := Lib.hid hg
        have HR5 : Hid (0 < n → KRow w4 g c []) := fun h0 => (HGG.out h0).2.2.bare
        have HSS := Lib.hid H3.out.inS
        clear hg HR4 HKL KS
        go_wp2
        go_loopw [9] (fun i W => OverRel w S p g c n (stay m 50) i W) (fun i _ => n - (intOf i).toNat)
        case atStart => exact ⟨0, by omega, rfl, H4.out, HR5.out⟩
        case round =>
          obtain ⟨j, hj, rfl, hh, hrr⟩ := hrel
          have H6 := Lib.hid hh
          have HR6 := Lib.hid hrr
          clear hh hrr HR5
          by_cases hjn : j < n
          · have t5 : decide ((j : Int) < (n : Int)) = true := by simp; omega
            have h0 : 0 < n := by omega
            obtain ⟨rfl, hge, _⟩ := HGG.out h0
            have HRR := Lib.hid (HR6.out h0)
            have hjc : j < c := by omega
            obtain ⟨u, hu⟩ := HRR.out.at_ hjc
            have y0 : wr.cell? ⟨g, j * 2, none⟩ = some (u 0) := (hu 0 (by omega)).1
            have y1 : wr.cell? ⟨g, j * 2 + 1, none⟩ = some (u 1) := (hu 1 (by omega)).1
            have f0 : wr.frozen? ⟨g, j * 2, none⟩ = false := (hu 0 (by omega)).2
            have f1 : wr.frozen? ⟨g, j * 2 + 1, none⟩ = false := (hu 1 (by omega)).2
            clear hu
            have hgl := HRR.out.lt
            have hw0 := H3.out.below.size
            have HX1 : Hid (Has w S p 1024 50 (stay m 50) ((wr.setCell ⟨g, j * 2, none⟩ (.int .i64 1)).setCell ⟨g, j * 2 + 1, none⟩ (.int .i64 77))) := H6.out.turns (T := fun k => k = g) (turns_setCells (S := fun k => k = g) (g := g) rfl (cellsQ (1, 77)) (j * 2) _ (Turns.refl _ _)) (fun k hk => by subst hk; omega) (fun k hk e => by have := (HSS.out k hk).2; omega)
            have HX2 : Hid (KRow ((wr.setCell ⟨g, j * 2, none⟩ (.int .i64 1)).setCell ⟨g, j * 2 + 1, none⟩ (.int .i64 77)) g c []) := HRR.out.spoil (j * 2) (cellsQ (1, 77))
            go_wp2
            go_roundw
            case rel => exact ⟨j + 1, by omega, by go_num, HX1.out, fun _ => HX2.out⟩
            case measure => simp [intOf]; omega
          · have t5 : decide ((j : Int) < (n : Int)) = false := by simp; omega
            have t5' : decide (j < n) = false := by simp; omega
            have HDA := Lib.hid (due_all (l := stay m 50) (t := 1099511627776) (fun d hd => (H6.out.whl.times d hd).2))
            have KS2 := Lib.hid (has_adv q 1099511627776 (by rw [HDA.out]; exact HQ.out) (by omega) (by omega) H6.out)
            go_wp2_with (fail)
            with_reducible refine KS2.out.mono ?_
            rintro e w7 ⟨A7, c7, rfl, h7, ht7, hc7, hk7, _⟩
            have B7 := Lib.hid h7.below
            rw [HDA.out] at hk7
            have HK7 := Lib.hid hk7
            clear h7 ht7 hk7
            go_wp2
            go_loop [12] (fun i => SeeRel q i) (fun i => q - (intOf i).toNat)
            case atStart => exact ⟨0, by omega, rfl⟩
            case round =>
              obtain ⟨v, hv, rfl⟩ := hrel
              by_cases hvq : v < q
              · have t6 : decide ((v : Int) < (q : Int)) = true := by simp; omega
                have hvl : v < (stay m 50).length := by rw [HQ.out]; exact hvq
                have hx : (stay m 50)[v]? = some (stay m 50)[v] := List.getElem?_eq_getElem hvl
                obtain ⟨b, off, rfl, hb, x0, -⟩ := HK7.out.cells hx
                have hgt := (stay_mem.1 (List.mem_of_getElem? hx)).2
                clear hx
                generalize (stay m 50)[v] = x at x0 hgt
                obtain ⟨z0, z1⟩ := x
                simp only at x0 hgt
                have t7 : decide (z0 ≤ 50) = false := by simp; omega
                clear hvl
                go_wp2
                go_round
                case rel => exact ⟨v + 1, by omega, by go_num⟩
                case measure => simp [intOf]; omega
              · have t6 : decide ((v : Int) < (q : Int)) = false := by simp; omega
                have t6' : decide (v < q) = false := by simp; omega
                go_wp2
                go_ret
                exact ⟨rfl, B7.out⟩
end Go.Proofs.Ytngoclkhhfcjjaa.Keeps
