/- The walk of the statement on what is answered being new memory. -/
import Derived.Test.YtlodfipiodlgdaaFl
import Derived.Test.YtlodfipiodlgdaaOp
namespace Go.Proofs.Ytlodfipiodlgdaa.Keeps
open Go.RowKit

def PushRel (l : List Int) (w : World) (p : Nat) (i : Value) (W : World) : Prop := ∃ (k : Nat) (S : Nat → Prop) (m : List Ky), k ≤ l.length ∧ Fill l 5 k m ∧ i = .int .i64 (k : Int) ∧ Has w S p 200 0 m W
def OverRel (w : World) (S : Nat → Prop) (p g n : Nat) (m : List Ky) (i : Value) (W : World) : Prop :=
  ∃ (k : Nat) (r : List Int), k ≤ n ∧ i = .int .i64 (k : Int) ∧ Has w S p 200 100 m W ∧ r.length = n ∧ (0 < n → Rest W g 0 r)
def SeeRel (n : Nat) (i : Value) : Prop := ∃ k : Nat, k ≤ n ∧ i = .int .i64 (k : Int)

set_option maxRecDepth 100000 in
set_option maxHeartbeats 4000000 in
theorem core (l : List Int) (a : Option Addr) (cap : Nat) (w : World) (hm : l.length ≤ maxLen) (hr : Smalls w a cap l) : Calls Try.prog 5 #[.slice a l.length cap] w (Woke w) := by
  have HR := Lib.hid hr
  unfold maxLen at hm
  clear hr
  have KN := Lib.hid (fun W (hb : Below w.heap.size w W) => has_new (w0 := w) 200 hb (by omega) (by omega))
  go_enter Try.func5, Try.ntmps5
  go_wp2_with (fail)
  refine (awake _).mono ?_
  rintro e w1 ⟨rfl, hb1⟩
  have B1 := Lib.hid hb1
  clear hb1
  by_cases h3 : 100 < l.length
  · have t1 : decide ((100 : Int) < (l.length : Int)) = true := by simp; omega
    go_wp2_with (fail)
    refine (awake _).mono ?_
    rintro e w2 ⟨rfl, hb2⟩
    go_wp2
    go_ret
    exact ⟨rfl, B1.out.trans (hb2.mono B1.out.size)⟩
  · have t1 : decide ((100 : Int) < (l.length : Int)) = false := by simp; omega
    go_wp2_with (fail)
    refine (KN.out _ B1.out).mono ?_
    rintro e w2 ⟨p, rfl, _, h2, _⟩
    have H2 := Lib.hid h2
    clear h2
    go_wp2
    go_loopw [5] (fun i W => PushRel l w p i W) (fun i _ => l.length - (intOf i).toNat)
    case atStart => exact ⟨0, _, [], by omega, Fill.nil _ _, rfl, H2.out⟩
    case round =>
      obtain ⟨k, S, m, hk, hfl, rfl, hh⟩ := hrel
      have H3 := Lib.hid hh
      have HF := Lib.hid hfl
      clear hh H2 hfl
      by_cases hlt : k < l.length
      · have t4 : decide ((k : Int) < (l.length : Int)) = true := by simp; omega
        have hx : l[k]? = some l[k] := List.getElem?_eq_getElem hlt
        obtain ⟨b, off, rfl, hbl, x0, v0, v1⟩ := (HR.out.below (Nat.le_refl _) H3.out.below).at_ hx
        have HX := Lib.hid hx
        clear hx
        generalize l[k] = v at x0 v0 v1 HX
        have HN := Lib.hid (HF.out.next HX.out)
        have KP := Lib.hid (has_fill (k : Int) v 9 4 (by decide) (by decide) (by decide) v0 v1 HF.out.fresh (by rw [HF.out.len]; omega) H3.out)
        rw [show (9 - 4 : Int) = 5 from rfl] at KP
        go_wp2_with (fail)
        with_reducible refine KP.out.mono ?_
        rintro e w4 ⟨rfl, ⟨S4, h4, _⟩, _⟩
        have H4 := Lib.hid h4
        clear h4 x0
        go_wp2
        go_roundw
        case rel => exact ⟨k + 1, S4, _, by omega, HN.out, by go_num, H4.out⟩
        case measure => simp [intOf]; omega
      · have t4 : decide ((k : Int) < (l.length : Int)) = false := by simp; omega
        have t4' : decide (k < l.length) = false := by simp; omega
        obtain ⟨n, hn⟩ : ∃ n, n = (due m 100).length := ⟨_, rfl⟩
        obtain ⟨q, hq⟩ : ∃ q, q = (stay m 100).length := ⟨_, rfl⟩
        have hnq : n + q = l.length := by have h1 := due_stay_len m 100; have h2 := HF.out.len; omega
        have HQ := Lib.hid hq.symm
        have KS := Lib.hid (has_pro n 100 hn.symm (by omega) (by omega) H3.out)
        clear hn hq
        go_wp2_with (fail)
        with_reducible refine KS.out.mono ?_
        rintro e w4 ⟨A, c, rfl, h4, ht4, hc4, hk4, hf4, hr4⟩
        have H4 := Lib.hid h4
        have HR4 := Lib.hid hr4
        have HI4 := Lib.hid hk4.le
        clear h4 ht4 hk4 hf4 hr4
        have KL := waiting H4.out.whl
        rw [HQ.out] at KL
        have HKL := Lib.hid KL
        clear KL
        go_wp2_with (fail)
        with_reducible refine HKL.out.mono ?_
        rintro e w5 ⟨rfl, rfl⟩
        obtain ⟨g, hg⟩ : ∃ g, 0 < n → A = some ⟨g, 0, none⟩ ∧ wr.heap.size ≤ g ∧ Rest w4 g 0 (nums (due m 100)) := by
          by_cases h0 : 0 < n
          · obtain ⟨g, h⟩ := HR4.out h0
            exact ⟨g, fun _ => h⟩
          · exact ⟨0, fun h => absurd h h0⟩
        have HGG := Lib.hid hg
        have HLN : Hid ((nums (due m 100)).length = n) := by
          have h1 := due_stay_len m 100
          have h2 := HF.out.len
          have h3 := HQ.out
          have h4 := nums_len (due m 100)
          exact Lib.hid (by omega)
        have HSS := Lib.hid H3.out.inS
        clear hg HR4 HKL KS
        go_wp2
        go_loopw [9] (fun i W => OverRel w S p g n (stay m 100) i W) (fun i _ => n - (intOf i).toNat)
        case atStart => exact ⟨0, _, by omega, rfl, H4.out, HLN.out, fun h0 => (HGG.out h0).2.2⟩
        case round =>
          obtain ⟨j, r, hj, rfl, hh, hrl, hrr⟩ := hrel
          have H6 := Lib.hid hh
          have HR6 := Lib.hid hrr
          have HRL := Lib.hid hrl
          clear hh hrr hrl
          by_cases hjn : j < n
          · have t5 : decide ((j : Int) < (n : Int)) = true := by simp; omega
            have h0 : 0 < n := by omega
            obtain ⟨rfl, hge, _⟩ := HGG.out h0
            have HRR := Lib.hid (HR6.out h0)
            have hjc : j < c := by omega
            have hx : r[j]? = some (r[j]'(by rw [HRL.out]; exact hjn)) := List.getElem?_eq_getElem _
            have y0 := HRR.out.cell (Nat.zero_le _) hx
            have f0 := HRR.out.thawed j
            clear hx
            have hgl := HRR.out.lt
            have hw0 := H3.out.below.size
            have HX1 : Hid (Has w S p 200 100 (stay m 100) (wr.setCell ⟨g, j, none⟩ (.int .i64 (-1)))) := H6.out.turns (T := fun k => k = g) ((Turns.refl (fun k => k = g) wr).setCell (a := ⟨g, j, none⟩) (.inr rfl) _) (fun k hk => by subst hk; omega) (fun k hk e => by have := (HSS.out k hk).2; omega)
            have HX2 := Lib.hid (HRR.out.put j (-1))
            have HX3 : Hid ((r.set j (-1)).length = n) := by rw [List.length_set]; exact HRL
            go_wp2
            go_roundw
            case rel => exact ⟨j + 1, _, by omega, by go_num, HX1.out, HX3.out, fun _ => HX2.out⟩
            case measure => simp [intOf]; omega
          · have t5 : decide ((j : Int) < (n : Int)) = false := by simp; omega
            have t5' : decide (j < n) = false := by simp; omega
            have HDA := Lib.hid (due_all (l := stay m 100) (t := 1000) (fun d hd => by
              obtain ⟨i, _, _, v, hv, e⟩ := HF.out.at_ d (stay_mem.1 hd).1
              have := HR.out.small v (List.mem_of_getElem? hv)
              omega))
            have KS2 := Lib.hid (has_pro q 1000 (by rw [HDA.out]; exact HQ.out) (by omega) (by omega) H6.out)
            go_wp2_with (fail)
            with_reducible refine KS2.out.mono ?_
            rintro e w7 ⟨A7, c7, rfl, h7, ht7, hc7, hk7, _⟩
            have B7 := Lib.hid h7.below
            rw [HDA.out] at hk7
            have HK7 := Lib.hid hk7
            clear h7 ht7 hk7
            have fin : ((n : Int) + (q : Int) == (l.length : Int)) = true := by rw [beq_iff_eq]; omega
            go_wp2
            go_loop [12] (fun i => SeeRel q i) (fun i => q - (intOf i).toNat)
            case atStart => exact ⟨0, by omega, rfl⟩
            case round =>
              obtain ⟨v, hv, rfl⟩ := hrel
              by_cases hvq : v < q
              · have t6 : decide ((v : Int) < (q : Int)) = true := by simp; omega
                have hvl : v < (stay m 100).length := by rw [HQ.out]; exact hvq
                have hx : (stay m 100)[v]? = some (stay m 100)[v] := List.getElem?_eq_getElem hvl
                obtain ⟨b, off, rfl, hb, x0⟩ := HK7.out.at_ (nums_at hx)
                obtain ⟨i, -, hge, -⟩ := HF.out.at_ _ (stay_mem.1 (List.mem_of_getElem? hx)).1
                have hge' : 0 ≤ idK (stay m 100)[v] := by omega
                clear hx hge
                generalize idK (stay m 100)[v] = z at x0 hge'
                have t7 : decide (z < 0) = false := by simp; omega
                clear hvl fin
                go_wp2
                go_round
                case rel => exact ⟨v + 1, by omega, by go_num⟩
                case measure => simp [intOf]; omega
              · have t6 : decide ((v : Int) < (q : Int)) = false := by simp; omega
                have t6' : decide (v < q) = false := by simp; omega
                go_wp2
                go_ret
                exact ⟨rfl, B7.out⟩
end Go.Proofs.Ytlodfipiodlgdaa.Keeps
