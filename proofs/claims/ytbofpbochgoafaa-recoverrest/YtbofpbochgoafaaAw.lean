/- Answers that the document fixes. A run of the call's own, at a block of its own. -/
import Derived.Test.YtbofpbochgoafaaWk
import Derived.Test.YtbofpbochgoafaaLt
namespace Go.Proofs.Ytbofpbochgoafaa
open Go.RowKit

/-- In W, behind w, a run lies at the block g, which w had not; what w had is as it was. -/
structure RAt (w : World) (g : Nat) (t : Tk) (d p l : Int) (s : Bool) (f : Int) (W : World) : Prop where
  below : Below w.heap.size w W
  ge : w.heap.size ≤ g
  lies : Lies W g 28 (boxR t d p l s f)
section
variable {w w1 W W' : World} {t t' : Tk} {d p l f d' p' l' f' : Int} {s s' : Bool} {g : Nat}
theorem RAt.tells (h : RAt w g t d p l s f W) (hb : Below W.heap.size W W') : RAt w g t d p l s f W' := ⟨h.below.trans (hb.mono h.below.size), h.ge, h.lies.below hb h.lies.lt⟩
theorem RAt.wrote (h : RAt w g t d p l s f W) (hw : Wrote g W W') (hl : Lies W' g 28 (boxR t' d' p' l' s' f')) : RAt w g t' d' p' l' s' f' W' := ⟨hw.below _ _ h.ge h.below, h.ge, hl⟩
theorem RAt.fails (h : RAt w g t d p l s f W) : W.cell? ⟨g, 15, none⟩ = some (.int .i64 f) := (runs_cells h.lies).2.2.2.2.2.2.2.2.2.2.2.2.2.2.2
theorem RAt.left (h : RAt w g t d p l s f W) : W.cell? ⟨g, 13, none⟩ = some (.int .i64 l) := (runs_cells h.lies).2.2.2.2.2.2.2.2.2.2.2.2.2.1
end
def t1 : Tk := ⟨⟨#[97]⟩, 9, 9, 1, 0, 1, 1, 1, 1, 1, 0⟩
theorem sm1 : Sm t1 1 1 1 := ⟨⟨by decide, by decide⟩, ⟨⟨by omega, by omega, by omega, by omega⟩, fun _ => rfl, fun h => absurd rfl h⟩, by decide, by decide, by decide, by decide⟩
set_option maxRecDepth 100000 in
set_option maxHeartbeats 8000000 in
theorem awake (w : World) : Calls Try.prog 7 #[] w (Woke w) := by
  have p0 : IsPart t1 1 0 := .inl (by omega)
  have l0 : lenV t1 1 1 0 = 2 := by decide
  have v0 : lateV 1 1 1 1 0 = 0 := by decide
  have b0 : backK t1 0 = 0 := by decide
  have e0 : evV t1 0 = 2 := by decide
  have K1 : Hid (∀ W, Calls Try.prog 9 #[.agg #[.string ⟨#[97]⟩, .int .i64 9, .int .i64 9, .int .i64 1, .int .i64 0, .int .i64 1, .int .i64 1, .int .i64 1, .int .i64 1, .int .i64 1, .int .i64 0], .int .i64 1] W (Gives (.tuple #[aggR t1 1 0 2 false 0, .int .i64 0]) W)) := Lib.hid (fun W => by have := begin_ sm1 W; rw [l0] at this; exact this)
  have K2 : Hid (∀ W, Calls Try.prog 14 #[aggR t1 1 0 2 false 0] W (Gives (.int .i64 2) W)) := Lib.hid (fun W => by have := rest (l := 2) (f := 0) (b := false) sm1 p0 (by omega) (by omega) W; rw [show t1.Cost = 1 from rfl, v0] at this; exact this)
  have K3 : Hid (∀ W, Calls Try.prog 10 #[aggR t1 1 0 2 false 0, .bool true] W (Gives (.tuple #[aggR t1 1 0 1 true 0, .int .i64 0]) W)) := Lib.hid (fun W => step_runs (t := t1) (d := 1) (p := 0) (l := 2) (f := 0) (b := false) true (by omega) (by omega) W)
  have K4 : Hid (∀ W, Calls Try.prog 10 #[aggR t1 1 0 1 true 0, .bool false] W (Gives (.tuple #[aggR t1 1 0 2 false 1, .int .i64 2]) W)) := Lib.hid (fun W => by have := step_fails (f := 0) (b := true) false rfl sm1 p0 (by omega) (by omega) W; rw [b0, l0, e0] at this; exact this)
  have K5 : Hid (∀ W, Calls Try.prog 10 #[aggR t1 1 0 2 false 1, .bool false] W (Gives (.tuple #[aggR t1 1 0 1 false 1, .int .i64 0]) W)) := Lib.hid (fun W => step_runs (t := t1) (d := 1) (p := 0) (l := 2) (f := 1) (b := false) false (by omega) (by omega) W)
  have K6 : Hid (∀ W, Calls Try.prog 10 #[aggR t1 1 0 1 false 1, .bool false] W (Gives (.tuple #[aggR t1 1 0 0 false 1, .int .i64 4]) W)) := Lib.hid (fun W => step_done (f := 1) sm1 p0 (by omega) W)
  have K7 : Hid (∀ W, Calls Try.prog 9 #[.agg #[.string ⟨#[97]⟩, .int .i64 9, .int .i64 9, .int .i64 1, .int .i64 0, .int .i64 1, .int .i64 1, .int .i64 1, .int .i64 1, .int .i64 1, .int .i64 0], .int .i64 2] W (Gives (.tuple #[aggR t00 0 0 0 false 0, .int .i64 1]) W)) := Lib.hid (fun W => begin_no (t := t1) (by decide) (by omega) W)
  have K8 : Hid (∀ W, Calls Try.prog 15 #[aggR t1 1 0 0 false 1] W (Gives (.bool false) W)) := Lib.hid (fun W => urgent_no rfl W)
  clear l0 v0 b0 e0 p0
  simp only [aggR, t1] at K8
  go_enter Try.func7, Try.ntmps7
  go_wp2_with (fail)
  with_reducible refine (K1.out _).mono ?_
  rintro e w1 ⟨rfl, hb1⟩
  go_wp2_with (first
   | (with_reducible refine lay_run ?_ ?_ ?_
      rfl
      rfl
      intro g V hg hb2 hz)
   | (with_reducible apply write_run (x := .tmp 1) (y := .tmp 13) (hL := hz)
      rfl
      rfl
      rfl
      rfl
      intro W1 hw hl
      have A1 := Lib.hid (RAt.mk (w := w) (hw.below _ _ (Nat.le_trans hb1.size hg) (hb1.trans (hb2.mono hb1.size))) (Nat.le_trans hb1.size hg) hl)
      have c13 := A1.out.left
      clear hw hl hz hb2 hg hb1)
   | (with_reducible refine load_run ?_ (.tmp 1) ?_ ?_ A1.out.lies ?_
      rfl
      rfl
      rfl))
  with_reducible refine (K2.out _).mono ?_
  rintro e w2 ⟨rfl, hb⟩
  have A2 := Lib.hid (A1.out.tells hb)
  clear hb
  go_wp2_with (first
   | (with_reducible refine load_run ?_ (.tmp 1) ?_ ?_ A2.out.lies ?_
      rfl
      rfl
      rfl))
  with_reducible refine (K3.out _).mono ?_
  rintro e w3 ⟨rfl, hb⟩
  have A3' := Lib.hid (A2.out.tells hb)
  clear hb
  go_wp2_with (first
   | (with_reducible apply write_run (x := .tmp 1) (y := .tmp 27) (hL := A3'.out.lies)
      rfl
      rfl
      rfl
      rfl
      intro v3 hw hl
      have A3 := Lib.hid (A3'.out.wrote hw hl)
      clear hw hl)
   | (with_reducible refine load_run ?_ (.tmp 1) ?_ ?_ A3.out.lies ?_
      rfl
      rfl
      rfl))
  with_reducible refine (K4.out _).mono ?_
  rintro e w4 ⟨rfl, hb⟩
  have A4' := Lib.hid (A3.out.tells hb)
  clear hb
  go_wp2_with (first
   | (with_reducible apply write_run (x := .tmp 1) (y := .tmp 32) (hL := A4'.out.lies)
      rfl
      rfl
      rfl
      rfl
      intro v4 hw hl
      have A4 := Lib.hid (A4'.out.wrote hw hl)
      clear hw hl)
   | (with_reducible refine load_run ?_ (.tmp 1) ?_ ?_ A4.out.lies ?_
      rfl
      rfl
      rfl))
  with_reducible refine (K5.out _).mono ?_
  rintro e w5 ⟨rfl, hb⟩
  have A5' := Lib.hid (A4.out.tells hb)
  clear hb
  go_wp2_with (first
   | (with_reducible apply write_run (x := .tmp 1) (y := .tmp 37) (hL := A5'.out.lies)
      rfl
      rfl
      rfl
      rfl
      intro v5 hw hl
      have A5 := Lib.hid (A5'.out.wrote hw hl)
      clear hw hl)
   | (with_reducible refine load_run ?_ (.tmp 1) ?_ ?_ A5.out.lies ?_
      rfl
      rfl
      rfl))
  with_reducible refine (K6.out _).mono ?_
  rintro e w6 ⟨rfl, hb⟩
  have A6' := Lib.hid (A5.out.tells hb)
  clear hb
  go_wp2_with (first
   | (with_reducible apply write_run (x := .tmp 1) (y := .tmp 42) (hL := A6'.out.lies)
      rfl
      rfl
      rfl
      rfl
      intro v6 hw hl
      have A6 := Lib.hid (A6'.out.wrote hw hl)
      clear hw hl)
   | (with_reducible refine load_run ?_ (.tmp 1) ?_ ?_ A6.out.lies ?_
      rfl
      rfl
      rfl))
  with_reducible refine (K7.out _).mono ?_
  rintro e w7 ⟨rfl, hb⟩
  have A7' := Lib.hid (A6.out.tells hb)
  clear hb
  go_wp2_with (first
   | (with_reducible refine lay_run ?_ ?_ ?_
      rfl
      rfl
      intro g2 V2 hg2 hb2 hz)
   | (with_reducible apply write_run (x := .tmp 8) (y := .tmp 47) (hL := hz)
      rfl
      rfl
      rfl
      rfl
      intro W2 hw hl
      have A7 := Lib.hid (A7'.out.tells (hw.below _ _ hg2 hb2))
      have hC := runs_cells A7.out.lies
      simp only [t1] at hC
      obtain ⟨y0, y1, y2, y3, y4, y5, y6, y7, y8, y9, y10, y11, y12, y13, y14, y15⟩ := hC
      clear hw hl hz hb2 hg2)
   | (with_reducible refine load_run ?_ (.tmp 1) ?_ ?_ A7.out.lies ?_
      rfl
      rfl
      rfl))
  with_reducible refine (K8.out _).mono ?_
  rintro e w8 ⟨rfl, hb⟩
  have A8 := Lib.hid (A7.out.tells hb)
  clear hb
  go_wp2
  go_ret
  exact ⟨rfl, A8.out.below⟩
end Go.Proofs.Ytbofpbochgoafaa
