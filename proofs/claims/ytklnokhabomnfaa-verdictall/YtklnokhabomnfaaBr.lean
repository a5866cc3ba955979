/- The program's own: how a demand is cut, what it costs more, the whole demand, a task's load. -/
import Derived.Test.YtklnokhabomnfaaDm
import Derived.Test.YtklnokhabomnfaaTq
import Derived.Test.YtklnokhabomnfaaLf
import Derived.BigQuiet
namespace Go.Proofs.Ytklnokhabomnfaa
open Go.RowKit

/-- It answers v; new memory was made, nothing else. -/
def Gives (v : Value) (w : World) (e : Ending) (w' : World) : Prop := e = .returned v ∧ Below w.heap.size w w'
theorem gives {v u : Value} {w w' : World} (h : v = u) (hb : Below w.heap.size w w') : Gives v w (.returned u) w' := ⟨by rw [h], hb⟩
/-- A task's cells. -/
def boxT (t : Tk) : Array Value := #[.string t.name, .int .i64 t.T, .int .i64 t.D, .int .i64 t.C, .int .i64 t.A, .int .i64 t.Seg, .int .i64 t.Cost, .int .i64 t.M, .int .i64 t.K, .int .i64 t.Mode, .int .i64 t.Prio]
/-- A task in a box that the call made first. -/
structure Box (w : World) (t : Tk) (W : World) : Prop where
  below : Below w.heap.size w W
  lies : Lies W w.heap.size 39 (boxT t)
section
variable {w W W' : World} {t : Tk}
theorem Box.made (w : World) (t : Tk) : Box w t (w.alloc (.cells (boxT t) 39)) := ⟨below_new _ _, Lies.made _ _ _⟩
theorem Box.tells (h : Box w t W) (hb : Below W.heap.size W W') : Box w t W' := ⟨h.below.trans (hb.mono h.below.size), h.lies.below hb h.lies.lt⟩
theorem Box.drewN (h : Box w t W) (k : Nat) : Box w t (W.drewN k) := ⟨below_drewN h.below k, h.lies.drewN k⟩
theorem Box.lt (h : Box w t W) : w.heap.size < W.heap.size := h.lies.lt
theorem Box.cells (h : Box w t W) : W.cell? ⟨w.heap.size, 0, none⟩ = some (.string t.name) ∧ W.cell? ⟨w.heap.size, 1, none⟩ = some (.int .i64 t.T) ∧ W.cell? ⟨w.heap.size, 2, none⟩ = some (.int .i64 t.D) ∧ W.cell? ⟨w.heap.size, 3, none⟩ = some (.int .i64 t.C)
    ∧ W.cell? ⟨w.heap.size, 4, none⟩ = some (.int .i64 t.A) ∧ W.cell? ⟨w.heap.size, 5, none⟩ = some (.int .i64 t.Seg) ∧ W.cell? ⟨w.heap.size, 6, none⟩ = some (.int .i64 t.Cost) ∧ W.cell? ⟨w.heap.size, 7, none⟩ = some (.int .i64 t.M)
    ∧ W.cell? ⟨w.heap.size, 8, none⟩ = some (.int .i64 t.K) ∧ W.cell? ⟨w.heap.size, 9, none⟩ = some (.int .i64 t.Mode) ∧ W.cell? ⟨w.heap.size, 10, none⟩ = some (.int .i64 t.Prio) :=
  ⟨h.lies.cell 0, h.lies.cell 1, h.lies.cell 2, h.lies.cell 3, h.lies.cell 4, h.lies.cell 5, h.lies.cell 6, h.lies.cell 7, h.lies.cell 8, h.lies.cell 9, h.lies.cell 10⟩
end
theorem Fine.nums {t : Tk} (h : Fine t) : 1 ≤ t.C ∧ t.C ≤ 1048576 ∧ 0 ≤ t.Cost ∧ t.Cost ≤ 1000 ∧ 1 ≤ t.T ∧ t.T ≤ 1048576 := by
  obtain ⟨h1, h2, h3, h4, h5, h6⟩ := h.times
  exact ⟨h1, by omega, h5, h6, by omega, h4⟩
theorem Fine.again {t : Tk} (h : Fine t) : (t.Mode = 1 ∧ 1 ≤ t.Seg ∧ t.Seg ≤ 1048576) ∨ ((t.Mode = 2 ∨ t.Mode = 3) ∧ 1 ≤ t.A ∧ t.A ≤ 1048576) := by
  obtain ⟨h1, h2, h3, h4, h5, h6⟩ := h.times
  rcases h.mode with ⟨a, b, c, d⟩ | ⟨a, b, c, d⟩
  · exact .inl ⟨a, b, by omega⟩
  · exact .inr ⟨a, b, by omega⟩
theorem Ways.pos {t : Tk} {d s : Int} {n : Nat} (h : Ways t d n s) : 1 ≤ d := by
  have := h.cuts.room (i := 0) (by have := h.cuts.1; omega)
  simp at this; omega

set_option maxHeartbeats 1000000 in
theorem bounded {t : Tk} (h : Fine t) (w : World) : Calls Try.prog 71 #[aggK t] w (Gives (.bool true) w) := by
  obtain ⟨b1, b2, b3, b4, _, _⟩ := h.nums
  have HB := Lib.hid (Box.made w t)
  clear h
  simp only [aggK]
  simp only [boxT] at HB
  go_enter Try.func71, Try.ntmps71
  go_wp2
  go_ret
  exact ⟨rfl, HB.out.below⟩
set_option maxHeartbeats 1000000 in
theorem segments_no {t : Tk} {d : Int} (hd : d < 1 ∨ t.C < d) (w : World) : Calls Try.prog 59 #[aggK t, .int .i64 d] w (Gives (.tuple #[.int .i64 0, .int .i64 0]) w) := by
  have HB := Lib.hid (Box.made w t)
  simp only [aggK]
  simp only [boxT] at HB
  by_cases h1 : d < 1
  · have t1 : decide (d < 1) = true := decide_eq_true h1
    clear hd
    go_enter Try.func59, Try.ntmps59
    go_wp2
    go_ret2
    exact ⟨rfl, HB.out.below⟩
  · have t1 : decide (d < 1) = false := decide_eq_false h1
    have t2 : decide (t.C < d) = true := decide_eq_true (by omega)
    clear hd h1
    go_enter Try.func59, Try.ntmps59
    go_wp2
    go_ret2
    exact ⟨rfl, HB.out.below⟩
set_option maxHeartbeats 2000000 in
theorem segments {t : Tk} {d s : Int} {n : Nat} (h : Fine t) (hw : Ways t d n s) (hd : d ≤ t.C) (w : World) : Calls Try.prog 59 #[aggK t, .int .i64 d] w (Gives (.tuple #[.int .i64 (n : Int), .int .i64 s]) w) := by
  have hp := hw.pos
  have KB := Lib.hid (fun W => bounded h W)
  obtain ⟨b1, b2, _, _, _, _⟩ := h.nums
  have HB := Lib.hid (Box.made w t)
  simp only [boxT] at HB
  simp only [aggK] at KB ⊢
  have t1 : decide (d < 1) = false := decide_eq_false (by omega)
  have t2 : decide (t.C < d) = false := decide_eq_false (by omega)
  rcases h.again with ⟨m1, m2, m3⟩ | ⟨m1, _, _⟩
  · obtain rfl := hw.retry m1
    obtain ⟨k, hk, hc⟩ := cuts_ceil hp m2
    obtain rfl := hc.same hw.cuts
    have KC := Lib.hid (fun W => ceil_small d t.Seg W (by omega) (by omega) m2 m3)
    rw [← hk] at KC
    have M1 := Lib.hid m1
    clear hk hc hw h m1
    go_enter Try.func59, Try.ntmps59
    go_wp2_with (fail)
    with_reducible refine (KB.out _).mono ?_
    rintro e w1 ⟨rfl, hb1⟩
    have HB1 := Lib.hid (HB.out.tells hb1)
    clear hb1
    obtain ⟨y0, y1, y2, y3, y4, y5, y6, y7, y8, y9, y10⟩ := HB1.out.cells
    rw [M1.out] at y9
    clear y0 y1 y2 y4 y6 y7 y8 y10
    go_wp2_with (fail)
    with_reducible refine (KC.out _).mono ?_
    rintro e w2 ⟨rfl, rfl⟩
    go_wp2
    go_region
    all_goals
      go_wp2
      go_ret2
      exact ⟨rfl, below_drewN HB1.out.below _⟩
  · obtain ⟨rfl, rfl⟩ := hw.whole (by omega)
    have M1 := Lib.hid m1
    clear hw h m1
    go_enter Try.func59, Try.ntmps59
    go_wp2_with (fail)
    with_reducible refine (KB.out _).mono ?_
    rintro e w1 ⟨rfl, hb1⟩
    have HB1 := Lib.hid (HB.out.tells hb1)
    clear hb1
    obtain ⟨y0, y1, y2, y3, y4, y5, y6, y7, y8, y9, y10⟩ := HB1.out.cells
    clear y0 y1 y2 y4 y5 y6 y7 y8 y10
    rcases M1.out with m1 | m1 <;>
    · rw [m1] at y9
      clear m1
      go_wp2
      go_ret2
      exact ⟨rfl, HB1.out.below⟩
set_option maxHeartbeats 2000000 in
theorem whole {t : Tk} {s : Int} {n : Nat} (h : Fine t) (hw : Ways t t.C n s) (w : World) : Calls Try.prog 40 #[aggK t] w (Gives (.int .i64 (t.C + (n : Int) * t.Cost)) w) := by
  obtain ⟨b1, b2, b3, b4, _, _⟩ := h.nums
  have KS := Lib.hid (fun W => segments h hw (Int.le_refl _) W)
  have hn := hw.cuts.few
  have hn1 := hw.cuts.1
  have KM := Lib.hid (fun W => mul_small (n : Int) t.Cost W (by omega) (by omega) b3 b4)
  have p0 : 0 ≤ (n : Int) * t.Cost := Int.mul_nonneg (by omega) b3
  have p1 : (n : Int) * t.Cost ≤ 1048576 * 1000 := Int.mul_le_mul (by omega) b4 b3 (by omega)
  have KA := Lib.hid (fun W => add_small t.C ((n : Int) * t.Cost) W (by omega) (by omega) p0 (by omega))
  have HB := Lib.hid (Box.made w t)
  simp only [boxT] at HB
  simp only [aggK] at KS ⊢
  generalize (n : Int) * t.Cost = x at KM KA ⊢
  have t1 : ((n : Int) == 0) = false := by simp; omega
  have t2 : (n == 0) = false := by simp; omega
  clear p0 p1 hw h
  go_enter Try.func40, Try.ntmps40
  go_wp2_with (fail)
  with_reducible refine (KS.out _).mono ?_
  rintro e w1 ⟨rfl, hb1⟩
  have HB1 := Lib.hid (HB.out.tells hb1)
  clear hb1
  obtain ⟨y0, y1, y2, y3, y4, y5, y6, y7, y8, y9, y10⟩ := HB1.out.cells
  clear y0 y1 y2 y4 y5 y7 y8 y9 y10
  go_wp2_with (fail)
  with_reducible refine (KM.out _).mono ?_
  rintro e w2 ⟨rfl, rfl⟩
  go_wp2_with (fail)
  with_reducible refine (KA.out _).mono ?_
  rintro e w2 ⟨rfl, rfl⟩
  go_wp2
  go_ret
  exact ⟨rfl, HB1.out.below⟩

/-- What a failing part costs more. -/
def extraV (t : Tk) : Int := (if t.Mode = 1 then t.Seg else t.A) + t.Cost
set_option maxHeartbeats 2000000 in
theorem extra {t : Tk} (h : Fine t) (w : World) : Calls Try.prog 72 #[aggK t] w (Gives (.int .i64 (extraV t)) w) := by
  obtain ⟨b1, b2, b3, b4, _, _⟩ := h.nums
  have HB := Lib.hid (Box.made w t)
  simp only [boxT] at HB
  have hag := h.again
  simp only [aggK]
  clear h
  obtain ⟨nm, tT, tD, tC, tA, tS, tc, tM, tK, tO, tP⟩ := t
  simp only at *
  rcases hag with ⟨rfl, m2, m3⟩ | ⟨m1, m2, m3⟩
  · have KA := Lib.hid (fun W => add_small tS tc W (by omega) (by omega) b3 (by omega))
    go_enter Try.func72, Try.ntmps72
    go_wp2_with (fail)
    with_reducible refine (KA.out _).mono ?_
    rintro e w2 ⟨rfl, rfl⟩
    go_wp2
    go_ret
    exact ⟨rfl, HB.out.below⟩
  · have KA := Lib.hid (fun W => add_small tA tc W (by omega) (by omega) b3 (by omega))
    rcases m1 with rfl | rfl <;>
    · go_enter Try.func72, Try.ntmps72
      go_wp2_with (fail)
      with_reducible refine (KA.out _).mono ?_
      rintro e w2 ⟨rfl, rfl⟩
      go_wp2
      go_ret
      exact ⟨rfl, HB.out.below⟩
set_option maxHeartbeats 2000000 in
theorem refExtra {t : Tk} (h : Fine t) (w : World) : Calls Try.prog 65 #[aggK t] w (Gives (.int .i64 (extraV t)) w) := by
  obtain ⟨b1, b2, b3, b4, _, _⟩ := h.nums
  have HB := Lib.hid (Box.made w t)
  simp only [boxT] at HB
  have hag := h.again
  simp only [aggK]
  clear h
  obtain ⟨nm, tT, tD, tC, tA, tS, tc, tM, tK, tO, tP⟩ := t
  simp only at *
  rcases hag with ⟨rfl, m2, m3⟩ | ⟨m1, m2, m3⟩
  · go_enter Try.func65, Try.ntmps65
    go_wp2
    go_ret
    exact ⟨rfl, HB.out.below⟩
  · rcases m1 with rfl | rfl <;>
    · go_enter Try.func65, Try.ntmps65
      go_wp2
      go_ret
      exact ⟨rfl, HB.out.below⟩

/-- A demand cut to 1 to C. -/
def cutV (t : Tk) (d : Int) : Int := if t.C < d then t.C else if d < 1 then 1 else d
end Go.Proofs.Ytklnokhabomnfaa
