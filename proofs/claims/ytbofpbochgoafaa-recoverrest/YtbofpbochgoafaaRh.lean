/- How many ticks a run takes yet; is it urgent. -/
import Derived.Test.YtbofpbochgoafaaRe
namespace Go.Proofs.Ytbofpbochgoafaa
open Go.RowKit

set_option maxRecDepth 100000 in
set_option maxHeartbeats 8000000 in
theorem rest {t : Tk} {d s l f : Int} {n k : Nat} {b : Bool} (h : Sm t d n s) (hk : IsPart t n k) (l1 : 1 ≤ l) (l2 : l ≤ 1000) (w : World) :
    Calls Try.prog 14 #[aggR t d (k : Int) l b f] w (Gives (.int .i64 (l + lateV s t.Cost d n k)) w) := by
  have HB := Lib.hid (RBox.made w t d k l b f)
  have KH := Lib.hid (fun W => behind (l := l) (f := f) (b := b) h hk W)
  simp only [boxR] at HB
  by_cases hl : n ≤ k + 1
  · rw [beh_last h hk hl] at KH
    rw [late_none hl, Int.add_zero]
    simp only [aggR] at KH ⊢
    clear h hk hl
    go_enter Try.func14, Try.ntmps14
    go_wp2_with (fail)
    with_reducible refine (KH.out _).mono ?_
    rintro e w2 ⟨rfl, hb⟩
    have H2 := Lib.hid (HB.out.tells hb)
    clear hb HB
    obtain ⟨y0, y1, y2, y3, y4, y5, y6, y7, y8, y9, y10, y11, y12, y13, y14, y15⟩ := runs_cells H2.out.lies
    go_wp2
    go_ret
    exact ⟨rfl, H2.out.below⟩
  · have hl : k + 1 < n := by omega
    have hm : t.Mode = 1 := by
      by_cases hm : t.Mode = 1
      · exact hm
      · have := (h.single hm).1; omega
    obtain ⟨e, he⟩ : ∃ e, e = d - (k : Int) * s - s := ⟨_, rfl⟩
    have hr := h.rest hm hl
    simp only at hr
    rw [← he] at hr
    obtain ⟨r1, r2, r3, r4, r5⟩ := hr
    obtain ⟨b0, b1, b2⟩ := beh_more h hl
    rw [← he] at b0
    rw [b0] at KH
    have hL := h.late k
    have KW := Lib.hid (fun W => whole r1 (show Ways (left_ t e) (left_ t e).C (n - (k + 1)) (left_ t e).Seg from r2) W)
    have hs := h.ways.retry hm
    obtain ⟨_, _, s1, s2, _⟩ := h.nums
    rw [hs] at s1 s2
    have KW : Hid (∀ W, Calls Try.prog 23 #[aggK (left_ t e)] W (Gives (.int .i64 (lateV s t.Cost d n k)) W)) := Lib.hid (fun W => by rw [r5]; exact KW.out W)
    generalize lateV s t.Cost d n k = L at *
    simp only [aggR] at KH ⊢
    simp only [aggK, left_] at KW
    clear h hk hl hm he r1 r2 r5 b0 b1 b2
    by_cases hlt : e < t.Seg
    · simp only [if_pos hlt] at KW
      have KW : Hid (∀ W, Calls Try.prog 23 #[.agg #[.string t.name, .int .i64 t.T, .int .i64 t.D, .int .i64 e, .int .i64 t.A, .int .i64 e, .int .i64 t.Cost, .int .i64 t.M, .int .i64 t.K, .int .i64 t.Mode, .int .i64 t.Prio]] W (Gives (.int .i64 L) W)) := KW
      go_enter Try.func14, Try.ntmps14
      go_wp2_with (fail)
      with_reducible refine (KH.out _).mono ?_
      rintro en w2 ⟨rfl, hb⟩
      have H2 := Lib.hid (HB.out.tells hb)
      clear hb HB
      obtain ⟨y0, y1, y2, y3, y4, y5, y6, y7, y8, y9, y10, y11, y12, y13, y14, y15⟩ := runs_cells H2.out.lies
      have HB3 := Lib.hid (H2.out.tells (below_new w2 (.cells #[.string t.name, .int .i64 t.T, .int .i64 t.D, .int .i64 e, .int .i64 t.A, .int .i64 e, .int .i64 t.Cost, .int .i64 t.M, .int .i64 t.K, .int .i64 t.Mode, .int .i64 t.Prio] 23)))
      have HL3 := Lib.hid (Lies.made w2 23 #[.string t.name, .int .i64 t.T, .int .i64 t.D, .int .i64 e, .int .i64 t.A, .int .i64 e, .int .i64 t.Cost, .int .i64 t.M, .int .i64 t.K, .int .i64 t.Mode, .int .i64 t.Prio])
      obtain ⟨w3, hw3⟩ : ∃ W, W = w2.alloc (.cells #[.string t.name, .int .i64 t.T, .int .i64 t.D, .int .i64 e, .int .i64 t.A, .int .i64 e, .int .i64 t.Cost, .int .i64 t.M, .int .i64 t.K, .int .i64 t.Mode, .int .i64 t.Prio] 23) := ⟨_, rfl⟩
      rw [← hw3] at HB3 HL3
      have HW3 := Lib.hid hw3
      clear hw3
      have x13 := (runs_cells HB3.out.lies).2.2.2.2.2.2.2.2.2.2.2.2.2.1
      have z0 : w3.cell? ⟨w2.heap.size, 0, none⟩ = some (.string t.name) := (HL3.out.cell 0).trans rfl
      have z1 : w3.cell? ⟨w2.heap.size, 1, none⟩ = some (.int .i64 t.T) := (HL3.out.cell 1).trans rfl
      have z2 : w3.cell? ⟨w2.heap.size, 2, none⟩ = some (.int .i64 t.D) := (HL3.out.cell 2).trans rfl
      have z3 : w3.cell? ⟨w2.heap.size, 3, none⟩ = some (.int .i64 e) := (HL3.out.cell 3).trans rfl
      have z4 : w3.cell? ⟨w2.heap.size, 4, none⟩ = some (.int .i64 t.A) := (HL3.out.cell 4).trans rfl
      have z5 : w3.cell? ⟨w2.heap.size, 5, none⟩ = some (.int .i64 e) := (HL3.out.cell 5).trans rfl
      have z6 : w3.cell? ⟨w2.heap.size, 6, none⟩ = some (.int .i64 t.Cost) := (HL3.out.cell 6).trans rfl
      have z7 : w3.cell? ⟨w2.heap.size, 7, none⟩ = some (.int .i64 t.M) := (HL3.out.cell 7).trans rfl
      have z8 : w3.cell? ⟨w2.heap.size, 8, none⟩ = some (.int .i64 t.K) := (HL3.out.cell 8).trans rfl
      have z9 : w3.cell? ⟨w2.heap.size, 9, none⟩ = some (.int .i64 t.Mode) := (HL3.out.cell 9).trans rfl
      have z10 : w3.cell? ⟨w2.heap.size, 10, none⟩ = some (.int .i64 t.Prio) := (HL3.out.cell 10).trans rfl
      have k_x13 := cell_regrown x13
      have k_z0 := cell_regrown z0
      have k_z1 := cell_regrown z1
      have k_z2 := cell_regrown z2
      have k_z3 := cell_regrown z3
      have k_z4 := cell_regrown z4
      have k_z5 := cell_regrown z5
      have k_z6 := cell_regrown z6
      have k_z7 := cell_regrown z7
      have k_z8 := cell_regrown z8
      have k_z9 := cell_regrown z9
      have k_z10 := cell_regrown z10
      have cW := fun d os => Calls.regrown_of (w := w3) (d := d) (os := os) (v := .int .i64 L) (KW.out _)
      go_wp2
      rw [← HW3.out]
      refine wp_region_quiet_below (by kernel_rfl) (by kernel_rfl) ?_
      repeat (go_big_quiet_step (with_reducible first | exact cW _ _))
      refine wpQuiet_nil ?_
      intro _ hw'
      obtain ⟨⟨dq, osq⟩, hw''⟩ := hw'
      subst hw''
      go_wp2
      go_ret
      exact ⟨rfl, (HB3.out.tells (below_regrown w3 dq osq)).below⟩
    · simp only [if_neg hlt] at KW
      have KW : Hid (∀ W, Calls Try.prog 23 #[.agg #[.string t.name, .int .i64 t.T, .int .i64 t.D, .int .i64 e, .int .i64 t.A, .int .i64 t.Seg, .int .i64 t.Cost, .int .i64 t.M, .int .i64 t.K, .int .i64 t.Mode, .int .i64 t.Prio]] W (Gives (.int .i64 L) W)) := KW
      go_enter Try.func14, Try.ntmps14
      go_wp2_with (fail)
      with_reducible refine (KH.out _).mono ?_
      rintro en w2 ⟨rfl, hb⟩
      have H2 := Lib.hid (HB.out.tells hb)
      clear hb HB
      obtain ⟨y0, y1, y2, y3, y4, y5, y6, y7, y8, y9, y10, y11, y12, y13, y14, y15⟩ := runs_cells H2.out.lies
      have HB3 := Lib.hid (H2.out.tells (below_new w2 (.cells #[.string t.name, .int .i64 t.T, .int .i64 t.D, .int .i64 e, .int .i64 t.A, .int .i64 t.Seg, .int .i64 t.Cost, .int .i64 t.M, .int .i64 t.K, .int .i64 t.Mode, .int .i64 t.Prio] 23)))
      have HL3 := Lib.hid (Lies.made w2 23 #[.string t.name, .int .i64 t.T, .int .i64 t.D, .int .i64 e, .int .i64 t.A, .int .i64 t.Seg, .int .i64 t.Cost, .int .i64 t.M, .int .i64 t.K, .int .i64 t.Mode, .int .i64 t.Prio])
      obtain ⟨w3, hw3⟩ : ∃ W, W = w2.alloc (.cells #[.string t.name, .int .i64 t.T, .int .i64 t.D, .int .i64 e, .int .i64 t.A, .int .i64 t.Seg, .int .i64 t.Cost, .int .i64 t.M, .int .i64 t.K, .int .i64 t.Mode, .int .i64 t.Prio] 23) := ⟨_, rfl⟩
      rw [← hw3] at HB3 HL3
      have HW3 := Lib.hid hw3
      clear hw3
      have x13 := (runs_cells HB3.out.lies).2.2.2.2.2.2.2.2.2.2.2.2.2.1
      have z0 : w3.cell? ⟨w2.heap.size, 0, none⟩ = some (.string t.name) := (HL3.out.cell 0).trans rfl
      have z1 : w3.cell? ⟨w2.heap.size, 1, none⟩ = some (.int .i64 t.T) := (HL3.out.cell 1).trans rfl
      have z2 : w3.cell? ⟨w2.heap.size, 2, none⟩ = some (.int .i64 t.D) := (HL3.out.cell 2).trans rfl
      have z3 : w3.cell? ⟨w2.heap.size, 3, none⟩ = some (.int .i64 e) := (HL3.out.cell 3).trans rfl
      have z4 : w3.cell? ⟨w2.heap.size, 4, none⟩ = some (.int .i64 t.A) := (HL3.out.cell 4).trans rfl
      have z5 : w3.cell? ⟨w2.heap.size, 5, none⟩ = some (.int .i64 t.Seg) := (HL3.out.cell 5).trans rfl
      have z6 : w3.cell? ⟨w2.heap.size, 6, none⟩ = some (.int .i64 t.Cost) := (HL3.out.cell 6).trans rfl
      have z7 : w3.cell? ⟨w2.heap.size, 7, none⟩ = some (.int .i64 t.M) := (HL3.out.cell 7).trans rfl
      have z8 : w3.cell? ⟨w2.heap.size, 8, none⟩ = some (.int .i64 t.K) := (HL3.out.cell 8).trans rfl
      have z9 : w3.cell? ⟨w2.heap.size, 9, none⟩ = some (.int .i64 t.Mode) := (HL3.out.cell 9).trans rfl
      have z10 : w3.cell? ⟨w2.heap.size, 10, none⟩ = some (.int .i64 t.Prio) := (HL3.out.cell 10).trans rfl
      have k_x13 := cell_regrown x13
      have k_z0 := cell_regrown z0
      have k_z1 := cell_regrown z1
      have k_z2 := cell_regrown z2
      have k_z3 := cell_regrown z3
      have k_z4 := cell_regrown z4
      have k_z5 := cell_regrown z5
      have k_z6 := cell_regrown z6
      have k_z7 := cell_regrown z7
      have k_z8 := cell_regrown z8
      have k_z9 := cell_regrown z9
      have k_z10 := cell_regrown z10
      have cW := fun d os => Calls.regrown_of (w := w3) (d := d) (os := os) (v := .int .i64 L) (KW.out _)
      go_wp2
      rw [← HW3.out]
      refine wp_region_quiet_below (by kernel_rfl) (by kernel_rfl) ?_
      repeat (go_big_quiet_step (with_reducible first | exact cW _ _))
      refine wpQuiet_nil ?_
      intro _ hw'
      obtain ⟨⟨dq, osq⟩, hw''⟩ := hw'
      subst hw''
      go_wp2
      go_ret
      exact ⟨rfl, (HB3.out.tells (below_regrown w3 dq osq)).below⟩
set_option maxHeartbeats 2000000 in
theorem urgent_no {t : Tk} {d p l f : Int} {b : Bool} (hm : t.Mode = 1) (w : World) : Calls Try.prog 15 #[aggR t d p l b f] w (Gives (.bool false) w) := by
  have HB := Lib.hid (RBox.made w t d p l b f)
  have t3 : (t.Mode == 3) = false := by simp [hm]
  simp only [boxR] at HB
  simp only [aggR]
  clear hm
  go_enter Try.func15, Try.ntmps15
  go_wp2
  go_ret
  exact ⟨rfl, HB.out.below⟩
end Go.Proofs.Ytbofpbochgoafaa
