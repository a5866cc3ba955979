/- Answers that the document fixes. -/
import Derived.Test.YtbebmmjnfdphbaaRg
namespace Go.Proofs.Ytbebmmjnfdphbaa
open Go.RowKit

def t0 : Tk := ⟨⟨#[97]⟩, 9, 9, 5, 0, 2, 1, 1, 1, 1, 0⟩
theorem fine0 : Fine t0 := ⟨by decide, by decide⟩
theorem ways0 : Ways t0 5 3 2 := ⟨⟨by omega, by omega, by omega, by omega⟩, fun _ => rfl, fun h => absurd rfl h⟩
set_option maxRecDepth 100000 in
set_option maxHeartbeats 4000000 in
theorem awake (w : World) : Calls Try.prog 8 #[] w (Woke w) := by
  have HB := Lib.hid (Box.made w t0)
  have hpl : pl 2 1 5 3 = [3, 3, 2] := by decide
  have KP : Hid (∀ W, Calls Try.prog 10 #[aggK t0, .int .i64 5] W (fun e W' => ∃ g c, e = .returned (.slice (some ⟨g, 0, none⟩) 3 c) ∧ W.heap.size ≤ g ∧ 3 ≤ c ∧ Rest W' g 0 [3, 3, 2] ∧ Below W.heap.size W W')) := Lib.hid (fun W => by
    have := parts fine0 ways0 (by decide) (by decide) W
    rw [show t0.Cost = 1 from rfl, hpl] at this
    exact this)
  have KZ := Lib.hid (fun W => parts_no (t := t0) (d := 0) (.inl (by decide)) W)
  have KC : Hid (∀ W, Calls Try.prog 11 #[aggK t0, .int .i64 7] W (Gives (.tuple #[.int .i64 5, .bool true]) W)) := Lib.hid (fun W => cut (t := t0) 7 W)
  have KW : Hid (∀ W, Calls Try.prog 16 #[aggK t0] W (Gives (.int .i64 8) W)) := Lib.hid (fun W => wholeAny fine0 W)
  have KE : Hid (∀ W, Calls Try.prog 12 #[aggK t0] W (Gives (.int .i64 3) W)) := Lib.hid (fun W => extra fine0 W)
  have KL : Hid (∀ W g, Lies W g 23 (boxT t0) → Calls Try.prog 19 #[.agg #[.int .i64 1, .slice (some ⟨g, 0, none⟩) 1 1]] W (Gives (.tuple #[.int .i64 889, .int .i64 1]) W)) := Lib.hid (fun W g hl =>
    loads 1 (l := [t0]) (by simp) (fun t ht => by simp at ht; rw [ht]; exact fine0) (tasks_row hl (by simp [flatK, cellsK, boxT]) (by simp)))
  simp only [aggK, boxT, t0] at KP KZ KC KW KE KL HB
  clear hpl
  go_enter Try.func8, Try.ntmps8
  go_wp2_with (fail)
  with_reducible refine (KP.out _).mono ?_
  rintro e w1 ⟨g, c, rfl, hg, hc, hr, hb1⟩
  have HB1 := Lib.hid (HB.out.tells hb1)
  have HR1 := Lib.hid hr
  clear hb1 hr
  obtain ⟨y0, y1, y2, y3, y4, y5, y6, y7, y8, y9, y10⟩ := HB1.out.cells
  simp only at y0 y1 y2 y3 y4 y5 y6 y7 y8 y9 y10
  go_wp2_with (fail)
  with_reducible refine (KC.out _).mono ?_
  rintro e w2 ⟨rfl, hb2⟩
  have HB2 := Lib.hid (HB1.out.tells hb2)
  have HR2 := Lib.hid (HR1.out.tells hb2)
  clear hb2 y0 y1 y2 y3 y4 y5 y6 y7 y8 y9 y10 HB HB1 HR1
  obtain ⟨y0, y1, y2, y3, y4, y5, y6, y7, y8, y9, y10⟩ := HB2.out.cells
  simp only at y0 y1 y2 y3 y4 y5 y6 y7 y8 y9 y10
  have HB3 := Lib.hid (HB2.out.tells (below_new w2 (.cells (boxT t0) 23)))
  have HR3 := Lib.hid (HR2.out.tells (below_new w2 (.cells (boxT t0) 23)))
  have KL3 := Lib.hid (KL.out _ _ (Lies.made w2 23 (boxT t0)))
  simp only [boxT, t0] at HB3 HR3 KL3
  go_wp2_with (fail)
  with_reducible refine KL3.out.mono ?_
  rintro e w3 ⟨rfl, hb3⟩
  have HB4 := Lib.hid (HB3.out.tells hb3)
  have HR4 := Lib.hid (HR3.out.tells hb3)
  clear hb3 y0 y1 y2 y3 y4 y5 y6 y7 y8 y9 y10 HB2 HR2 HB3 HR3 KL3 KL
  obtain ⟨y0, y1, y2, y3, y4, y5, y6, y7, y8, y9, y10⟩ := HB4.out.cells
  simp only at y0 y1 y2 y3 y4 y5 y6 y7 y8 y9 y10
  have r0 := HR4.out.cell (i := 0) (x := 3) (by omega) rfl
  have r2 := HR4.out.cell (i := 2) (x := 2) (by omega) rfl
  go_wp2_with (fail)
  with_reducible refine (KW.out _).mono ?_
  rintro e w4 ⟨rfl, hb4⟩
  have HB5 := Lib.hid (HB4.out.tells hb4)
  clear hb4 y0 y1 y2 y3 y4 y5 y6 y7 y8 y9 y10 r0 r2 HB4 HR4
  obtain ⟨y0, y1, y2, y3, y4, y5, y6, y7, y8, y9, y10⟩ := HB5.out.cells
  simp only at y0 y1 y2 y3 y4 y5 y6 y7 y8 y9 y10
  go_wp2_with (fail)
  with_reducible refine (KE.out _).mono ?_
  rintro e w5 ⟨rfl, hb5⟩
  have HB6 := Lib.hid (HB5.out.tells hb5)
  clear hb5 y0 y1 y2 y3 y4 y5 y6 y7 y8 y9 y10 HB5
  obtain ⟨y0, y1, y2, y3, y4, y5, y6, y7, y8, y9, y10⟩ := HB6.out.cells
  simp only at y0 y1 y2 y3 y4 y5 y6 y7 y8 y9 y10
  go_wp2_with (fail)
  with_reducible refine (KZ.out _).mono ?_
  rintro e w6 ⟨rfl, hb6⟩
  have HB7 := Lib.hid (HB6.out.tells hb6)
  clear hb6 y0 y1 y2 y3 y4 y5 y6 y7 y8 y9 y10 HB6
  go_wp2
  go_ret
  exact ⟨rfl, HB7.out.below⟩
end Go.Proofs.Ytbebmmjnfdphbaa
