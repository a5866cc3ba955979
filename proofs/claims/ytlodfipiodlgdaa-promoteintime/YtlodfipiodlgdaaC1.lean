/- The walk of the statement on the ticks that are left at a promotion. -/
import Derived.Test.YtlodfipiodlgdaaAw
namespace Go.Proofs.Ytlodfipiodlgdaa.InTime
open Go.RowKit

set_option maxRecDepth 100000 in
set_option maxHeartbeats 4000000 in
theorem core (rel d r : Int) (w : World) (a0 : 0 ≤ rel) (a1 : rel < 4294967296) (b0 : 0 ≤ d) (b1 : d < 4294967296) (c0 : 0 ≤ r) (c1 : r < 4294967296) :
    Calls Try.prog 4 #[.int .u32 rel, .int .u32 d, .int .u32 r] w (Woke w) := by
  have KN := Lib.hid (fun W (hb : Below w.heap.size w W) => has_new (w0 := w) 1 hb (by omega) (by omega))
  go_enter Try.func4, Try.ntmps4
  go_wp2_with (fail)
  refine (awake _).mono ?_
  rintro e w1 ⟨rfl, hb1⟩
  have B1 := Lib.hid hb1
  clear hb1
  go_wp2_with (fail)
  refine (KN.out _ B1.out).mono ?_
  rintro e w2 ⟨p, rfl, _, h2, _⟩
  have H2 := Lib.hid h2
  clear h2 KN
  by_cases hno : r < 1 ∨ d < r
  · have KO := Lib.hid (offset_no d r w2 hno)
    have KW := has_wait 7 rel d r (by omega) H2.out
    have ho : ¬ okT 0 rel d r := fun h => by obtain ⟨h1, h2, _⟩ := h; omega
    have e1 : waitT 0 1 [] 7 rel d r = 0 := if_neg (fun h => ho h.1)
    have e2 : waitE 0 1 [] 7 rel d r = 1 := if_pos ho
    rw [e1, e2] at KW
    have HKW := Lib.hid KW
    clear KW e1 e2 ho
    go_wp2_with (fail)
    with_reducible refine KO.out.mono ?_
    rintro e w3 ⟨rfl, rfl⟩
    go_wp2_with (fail)
    with_reducible refine HKW.out.mono ?_
    rintro e w4 ⟨rfl, ⟨S4, h4, _⟩, _⟩
    have B4 := Lib.hid h4.below
    clear h4
    by_cases hr : r < 1
    · have t1 : decide (r < 1) = true := by simpa using hr
      go_wp2
      go_ret
      exact ⟨rfl, B4.out⟩
    · have t1 : decide (r < 1) = false := by simpa using hr
      have t2 : decide (d < r) = true := by simp; omega
      go_wp2
      go_ret
      exact ⟨rfl, B4.out⟩
  · have t1 : decide (r < 1) = false := by simp; omega
    have t2 : decide (d < r) = false := by simp; omega
    have KO := Lib.hid (offset_yes d r w2 (by omega) (by omega) (by omega))
    have KW := has_wait 7 rel d r (by omega) H2.out
    have ho : okT 0 rel d r ∧ (7 : Int) ∉ ([] : List Ky).map idK ∧ ([] : List Ky).length ≠ 1 := ⟨⟨by omega, by omega, by omega, by omega, by omega⟩, by simp, by simp⟩
    have e1 : waitT 0 1 [] 7 rel d r = rel + (d - r) := if_pos ho
    have e2 : waitE 0 1 [] 7 rel d r = 0 := by unfold waitE; rw [if_neg (not_not_intro ho.1), if_neg ho.2.1, if_neg ho.2.2]
    have e3 : waitM 0 1 [] 7 rel d r = [(rel + (d - r), 7)] := if_pos ho
    rw [e1, e2, e3] at KW
    have HKW := Lib.hid KW
    clear KW e1 e2 e3 ho
    obtain ⟨t, ht⟩ : ∃ t, t = rel + (d - r) := ⟨_, rfl⟩
    rw [← ht] at HKW
    have t0 : 0 ≤ t := by omega
    have t3 : t ≤ 8589934592 := by omega
    have k1 : decide (rel ≤ t) = true := by simp; omega
    have k2 : (rel + d - t == r) = true := by simp; omega
    have HT := Lib.hid ht
    clear ht
    go_wp2_with (fail)
    with_reducible refine KO.out.mono ?_
    rintro e w3 ⟨rfl, rfl⟩
    go_wp2_with (fail)
    with_reducible refine HKW.out.mono ?_
    rintro e w4 ⟨rfl, ⟨S4, h4, _⟩, _⟩
    have H4 := Lib.hid h4
    clear h4
    have hd : due [((t, 7) : Ky)] t = [(t, 7)] := by simp [due]
    have KP := Lib.hid (has_pro 1 t (by rw [hd]; rfl) (by omega) (by omega) H4.out)
    go_wp2_with (fail)
    with_reducible refine KP.out.mono ?_
    rintro e w5 ⟨A5, c5, rfl, h5, _, hc5, hk5, _⟩
    have B5 := Lib.hid h5.below
    rw [hd] at hk5
    obtain ⟨b, off, rfl, hb, x0⟩ := hk5.at_ (i := 0) (t := 7) (by rfl)
    clear h5 hk5 hd
    simp only [Nat.add_zero] at x0
    have i1 : 0 < c5 := by omega
    go_wp2
    go_ret
    exact ⟨rfl, B5.out⟩
end Go.Proofs.Ytlodfipiodlgdaa.InTime
