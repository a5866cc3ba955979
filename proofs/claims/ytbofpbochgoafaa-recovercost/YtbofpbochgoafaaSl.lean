/- Is a task small: the statements' own question. -/
import Derived.Test.YtbofpbochgoafaaRg
import Derived.Test.YtbofpbochgoafaaRp
namespace Go.Proofs.Ytbofpbochgoafaa
open Go.RowKit

def smallT (t : Tk) (d : Int) : Bool := decide ((t.name.size : Int) ≤ 60) && rightT t && decide (t.C ≤ 500) && decide (t.A ≤ 500) && decide (t.Cost ≤ 500) && decide (1 ≤ d) && decide (d ≤ t.C)
theorem small_of {t : Tk} {d : Int} (h : smallT t d = true) : ∃ n s, Sm t d n s := by
  simp only [smallT, Bool.and_eq_true, decide_eq_true_eq] at h
  obtain ⟨⟨⟨⟨⟨⟨_, h1⟩, h2⟩, h3⟩, h4⟩, h5⟩, h6⟩ := h
  have hf := fine_right h1
  obtain ⟨n, s, hw⟩ := ways_of hf h5
  exact ⟨n, s, hf, hw, h6, h2, h3, h4⟩
set_option maxHeartbeats 4000000 in
theorem smallCall (t : Tk) (d : Int) (w : World) : Calls Try.prog 8 #[aggK t, .int .i64 d] w (Gives (.bool (smallT t d)) w) := by
  have HB := Lib.hid (Box.made w t)
  have KR := Lib.hid (fun W => refRightT t W)
  simp only [boxT] at HB
  simp only [aggK] at KR ⊢
  by_cases hn : (t.name.size : Int) ≤ 60
  · have c1 : decide ((t.name.size : Int) ≤ 60) = true := decide_eq_true hn
    have c1' : decide (t.name.size ≤ 60) = true := decide_eq_true (by omega)
    clear hn
    cases hR : rightT t with
    | false =>
      have e0 : smallT t d = false := by unfold smallT; simp [hR]
      rw [e0]
      rw [hR] at KR
      go_enter Try.func8, Try.ntmps8
      go_wp2_with (fail)
      with_reducible refine (KR.out _).mono ?_
      rintro e w2 ⟨rfl, hb⟩
      have H2 := Lib.hid (HB.out.tells hb)
      clear hb HB
      obtain ⟨y0, y1, y2, y3, y4, y5, y6, y7, y8, y9, y10⟩ := H2.out.cells
      go_wp2
      go_ret
      exact ⟨rfl, H2.out.below⟩
    | true =>
      by_cases hc2 : t.C ≤ 500
      · have c2 : decide (t.C ≤ 500) = true := decide_eq_true hc2
        by_cases hc3 : t.A ≤ 500
        · have c3 : decide (t.A ≤ 500) = true := decide_eq_true hc3
          by_cases hc4 : t.Cost ≤ 500
          · have c4 : decide (t.Cost ≤ 500) = true := decide_eq_true hc4
            by_cases hc5 : 1 ≤ d
            · have c5 : decide (1 ≤ d) = true := decide_eq_true hc5
              by_cases hc6 : d ≤ t.C
              · have c6 : decide (d ≤ t.C) = true := decide_eq_true hc6
                have e0 : smallT t d = true := by unfold smallT; rw [c1, hR, c2, c3, c4, c5, c6]; rfl
                rw [e0]
                rw [hR] at KR
                go_enter Try.func8, Try.ntmps8
                go_wp2_with (fail)
                with_reducible refine (KR.out _).mono ?_
                rintro e w2 ⟨rfl, hb⟩
                have H2 := Lib.hid (HB.out.tells hb)
                clear hb HB
                obtain ⟨y0, y1, y2, y3, y4, y5, y6, y7, y8, y9, y10⟩ := H2.out.cells
                go_wp2
                go_ret
                exact ⟨rfl, H2.out.below⟩
              · have c6 : decide (d ≤ t.C) = false := decide_eq_false hc6
                have e0 : smallT t d = false := by unfold smallT; simp [c6]
                rw [e0]
                rw [hR] at KR
                go_enter Try.func8, Try.ntmps8
                go_wp2_with (fail)
                with_reducible refine (KR.out _).mono ?_
                rintro e w2 ⟨rfl, hb⟩
                have H2 := Lib.hid (HB.out.tells hb)
                clear hb HB
                obtain ⟨y0, y1, y2, y3, y4, y5, y6, y7, y8, y9, y10⟩ := H2.out.cells
                go_wp2
                go_ret
                exact ⟨rfl, H2.out.below⟩
            · have c5 : decide (1 ≤ d) = false := decide_eq_false hc5
              have e0 : smallT t d = false := by unfold smallT; simp [c5]
              rw [e0]
              rw [hR] at KR
              go_enter Try.func8, Try.ntmps8
              go_wp2_with (fail)
              with_reducible refine (KR.out _).mono ?_
              rintro e w2 ⟨rfl, hb⟩
              have H2 := Lib.hid (HB.out.tells hb)
              clear hb HB
              obtain ⟨y0, y1, y2, y3, y4, y5, y6, y7, y8, y9, y10⟩ := H2.out.cells
              go_wp2
              go_ret
              exact ⟨rfl, H2.out.below⟩
          · have c4 : decide (t.Cost ≤ 500) = false := decide_eq_false hc4
            have e0 : smallT t d = false := by unfold smallT; simp [c4]
            rw [e0]
            rw [hR] at KR
            go_enter Try.func8, Try.ntmps8
            go_wp2_with (fail)
            with_reducible refine (KR.out _).mono ?_
            rintro e w2 ⟨rfl, hb⟩
            have H2 := Lib.hid (HB.out.tells hb)
            clear hb HB
            obtain ⟨y0, y1, y2, y3, y4, y5, y6, y7, y8, y9, y10⟩ := H2.out.cells
            go_wp2
            go_ret
            exact ⟨rfl, H2.out.below⟩
        · have c3 : decide (t.A ≤ 500) = false := decide_eq_false hc3
          have e0 : smallT t d = false := by unfold smallT; simp [c3]
          rw [e0]
          rw [hR] at KR
          go_enter Try.func8, Try.ntmps8
          go_wp2_with (fail)
          with_reducible refine (KR.out _).mono ?_
          rintro e w2 ⟨rfl, hb⟩
          have H2 := Lib.hid (HB.out.tells hb)
          clear hb HB
          obtain ⟨y0, y1, y2, y3, y4, y5, y6, y7, y8, y9, y10⟩ := H2.out.cells
          go_wp2
          go_ret
          exact ⟨rfl, H2.out.below⟩
      · have c2 : decide (t.C ≤ 500) = false := decide_eq_false hc2
        have e0 : smallT t d = false := by unfold smallT; simp [c2]
        rw [e0]
        rw [hR] at KR
        go_enter Try.func8, Try.ntmps8
        go_wp2_with (fail)
        with_reducible refine (KR.out _).mono ?_
        rintro e w2 ⟨rfl, hb⟩
        have H2 := Lib.hid (HB.out.tells hb)
        clear hb HB
        obtain ⟨y0, y1, y2, y3, y4, y5, y6, y7, y8, y9, y10⟩ := H2.out.cells
        go_wp2
        go_ret
        exact ⟨rfl, H2.out.below⟩
  · have c1 : decide ((t.name.size : Int) ≤ 60) = false := decide_eq_false hn
    have c1' : decide (t.name.size ≤ 60) = false := decide_eq_false (by omega)
    have e0 : smallT t d = false := by unfold smallT; rw [c1]; simp
    rw [e0]
    clear hn
    go_enter Try.func8, Try.ntmps8
    go_wp2
    go_ret
    exact ⟨rfl, HB.out.below⟩
end Go.Proofs.Ytbofpbochgoafaa
