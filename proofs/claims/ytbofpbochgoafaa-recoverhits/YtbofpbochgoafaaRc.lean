/- What of the demand lies in a part, what behind it, how long it is. -/
import Derived.Test.YtbofpbochgoafaaRu
import Derived.Test.YtbofpbochgoafaaRp
import Derived.Lib.QuietBelow
namespace Go.Proofs.Ytbofpbochgoafaa
open Go.RowKit

section
variable {t : Tk} {d s : Int} {n k : Nat}
theorem Sm.span (h : Sm t d n s) (hk : k < n) : 0 ≤ (k : Int) * s ∧ (k : Int) * s < d := by
  obtain ⟨h1, h2, h3, h4, h5, h6, h7⟩ := h.nums
  exact ⟨Int.mul_nonneg (by omega) (by omega), h.ways.cuts.room hk⟩
end
theorem mode_yes {t : Tk} (h : t.Mode = 1) : (t.Mode == 1) = true := by simp [h]
theorem mode_no {t : Tk} (h : t.Mode ≠ 1) : (t.Mode == 1) = false := by simp [h]
set_option maxHeartbeats 2000000 in
theorem piece {t : Tk} {d s l f : Int} {n k : Nat} {b : Bool} (h : Sm t d n s) (hk : IsPart t n k) (w : World) :
    Calls Try.prog 29 #[aggR t d (k : Int) l b f] w (Gives (.int .i64 (pieceV t d k)) w) := by
  have HB := Lib.hid (RBox.made w t d k l b f)
  obtain ⟨h1, h2, h3, h4, h5, h6, h7⟩ := h.nums
  simp only [boxR] at HB
  simp only [aggR]
  by_cases hm : t.Mode = 1
  · have hlt : k < n := by rcases hk with hk | hk
                           · exact hk
                           · exact absurd hm hk.1
    obtain ⟨r0, r1⟩ := h.span hlt
    have hs := h.ways.retry hm
    rw [hs] at r0 r1 h3 h4
    have HV := Lib.hid (show pieceV t d k = if d - (k : Int) * t.Seg < t.Seg then d - (k : Int) * t.Seg else t.Seg from if_pos hm)
    have t1 := mode_yes hm
    clear hm h hk
    rw [HV.out]
    by_cases hmin : d - (k : Int) * t.Seg < t.Seg
    · rw [if_pos hmin]
      go_enter Try.func29, Try.ntmps29
      go_wp2
      go_ret
      exact ⟨rfl, HB.out.below⟩
    · rw [if_neg hmin]
      go_enter Try.func29, Try.ntmps29
      go_wp2
      go_ret
      exact ⟨rfl, HB.out.below⟩
  · have HV := Lib.hid (show pieceV t d k = d from if_neg hm)
    have t1 := mode_no hm
    clear hm h hk
    rw [HV.out]
    go_enter Try.func29, Try.ntmps29
    go_wp2
    go_ret
    exact ⟨rfl, HB.out.below⟩
/-- What of the demand lies behind a part. -/
def behV (t : Tk) (d p : Int) : Int := if t.Mode = 1 then d - p * t.Seg - pieceV t d p else 0
set_option maxHeartbeats 4000000 in
theorem behind {t : Tk} {d s l f : Int} {n k : Nat} {b : Bool} (h : Sm t d n s) (hk : IsPart t n k) (w : World) :
    Calls Try.prog 22 #[aggR t d (k : Int) l b f] w (Gives (.int .i64 (behV t d k)) w) := by
  have HB := Lib.hid (RBox.made w t d k l b f)
  obtain ⟨h1, h2, h3, h4, h5, h6, h7⟩ := h.nums
  have KP := Lib.hid (fun W => piece (l := l) (f := f) (b := b) h hk W)
  simp only [boxR] at HB
  simp only [aggR] at KP ⊢
  by_cases hm : t.Mode = 1
  · have hlt : k < n := by rcases hk with hk | hk
                           · exact hk
                           · exact absurd hm hk.1
    obtain ⟨r0, r1⟩ := h.span hlt
    have hs := h.ways.retry hm
    rw [hs] at r0 r1 h3 h4
    have HV := Lib.hid (show behV t d k = d - (k : Int) * t.Seg - pieceV t d k from if_pos hm)
    have hp : 1 ≤ pieceV t d k ∧ pieceV t d k ≤ d := by
      unfold pieceV
      rw [if_pos hm]
      split <;> omega
    have t1 := mode_yes hm
    clear hm h hk
    rw [HV.out]
    generalize pieceV t d k = pv at *
    generalize hw1 : w.alloc (.cells #[.string t.name, .int .i64 t.T, .int .i64 t.D, .int .i64 t.C, .int .i64 t.A, .int .i64 t.Seg, .int .i64 t.Cost, .int .i64 t.M, .int .i64 t.K, .int .i64 t.Mode, .int .i64 t.Prio, .int .i64 d, .int .i64 k, .int .i64 l, .bool b, .int .i64 f] 28) = w1 at HB
    obtain ⟨y0, y1, y2, y3, y4, y5, y6, y7, y8, y9, y10, y11, y12, y13, y14, y15⟩ := runs_cells HB.out.lies
    have k_y0 := cell_regrown y0
    have k_y1 := cell_regrown y1
    have k_y2 := cell_regrown y2
    have k_y3 := cell_regrown y3
    have k_y4 := cell_regrown y4
    have k_y5 := cell_regrown y5
    have k_y6 := cell_regrown y6
    have k_y7 := cell_regrown y7
    have k_y8 := cell_regrown y8
    have k_y9 := cell_regrown y9
    have k_y10 := cell_regrown y10
    have k_y11 := cell_regrown y11
    have k_y12 := cell_regrown y12
    have k_y13 := cell_regrown y13
    have k_y14 := cell_regrown y14
    have k_y15 := cell_regrown y15
    have cP := fun d os => Calls.regrown_of (w := w1) (d := d) (os := os) (v := .int .i64 pv) (KP.out _)
    go_enter Try.func22, Try.ntmps22
    go_wp2
    refine wp_region_quiet_below (by kernel_rfl) (by kernel_rfl) ?_
    repeat (go_big_quiet_step (with_reducible first | exact cP _ _))
    refine wpQuiet_nil ?_
    intro _ hw'
    obtain ⟨⟨dq, osq⟩, hw''⟩ := hw'
    subst hw''
    go_wp2
    go_ret
    exact ⟨rfl, (HB.out.tells (below_regrown w1 dq osq)).below⟩
  · have HV := Lib.hid (show behV t d k = 0 from if_neg hm)
    have t1 := mode_no hm
    clear hm h hk
    rw [HV.out]
    go_enter Try.func22, Try.ntmps22
    go_wp2
    go_ret
    exact ⟨rfl, HB.out.below⟩
end Go.Proofs.Ytbofpbochgoafaa
