/- Answers that the document fixes; sets that aren't right, gaps that can't be. -/
import Derived.Test.YtklnokhabomnfaaVr
namespace Go.Proofs.Ytklnokhabomnfaa
open Go.RowKit

set_option maxRecDepth 100000 in
set_option maxHeartbeats 4000000 in
theorem judge_no (b g : Int) {l : List Tk} {a : Option Addr} {cap : Nat} {w : World} (hm : l.length ≤ maxLen) (ht : Tasks w a cap l) (h : ¬ ((whyF b l).1 = 0 ∧ 1 ≤ g ∧ g ≤ 1049576)) :
    Calls Try.prog 13 #[.agg #[.int .i64 b, .slice a l.length cap], .int .i64 g] w (Gives (.tuple #[vdV false 0 none 0 0, .int .i64 1]) w) := by
  have HT := Lib.hid ht
  have HB := Lib.hid (SetBox.made w b a l.length cap)
  have HZ := Lib.hid (Lies.made (w.alloc (.cells #[.int .i64 b, .slice a l.length cap] 24)) 29 #[.bool false, .int .i64 0, .slice none 0 0])
  have KR := Lib.hid (fun W (hb : Below w.heap.size w W) => right b l a cap (w := W) hm (HT.out.below (Nat.le_refl _) hb))
  have HN := Lib.hid (fun (g0 : 1 ≤ g) (g1 : g ≤ 1049576) => show ((whyF b l).1 == 0) = false from beq_eq_false_iff_ne.2 (fun e => h ⟨e, g0, g1⟩))
  generalize ((whyF b l).1 == 0) = rr at KR HN
  clear ht h
  go_enter Try.func13, Try.ntmps13
  go_upto_region 1 with fail
  obtain ⟨X, hX⟩ : ∃ X, X = (w.alloc (.cells #[.int .i64 b, .slice a l.length cap] 24)).alloc (.cells #[.bool false, .int .i64 0, .slice none 0 0] 29) := ⟨_, rfl⟩
  have HB1 := Lib.hid (HB.out.tells (below_new _ (.cells #[.bool false, .int .i64 0, .slice none 0 0] 29)))
  rw [← hX] at HB1 HZ ⊢
  have HZ1 : Hid (Lies X (w.heap.size + 1) 29 #[.bool false, .int .i64 0, .slice none 0 0]) := Lib.hid (by simpa using HZ.out)
  clear hX HZ HB
  obtain ⟨s0, s1⟩ := HB1.out.cells
  have key : ∀ W, SetBox w b a l.length cap W → Lies W (w.heap.size + 1) 29 #[.bool false, .int .i64 0, .slice none 0 0] →
      let V := ((W.setCell ⟨w.heap.size + 1, 0, none⟩ (.bool false)).setCell ⟨w.heap.size + 1, 1, none⟩ (.int .i64 0)).setCell ⟨w.heap.size + 1, 2, none⟩ (.slice none 0 0)
      Lies V (w.heap.size + 1) 29 #[.bool false, .int .i64 0, .slice none 0 0] ∧ Below w.heap.size w V := fun W h1 h2 =>
    ⟨((h2.here 0 _).here 1 _).here 2 _, ((h1.below.setCell (p := ⟨w.heap.size + 1, 0, none⟩) (show w.heap.size ≤ w.heap.size + 1 by omega) _).setCell (p := ⟨w.heap.size + 1, 1, none⟩) (show w.heap.size ≤ w.heap.size + 1 by omega) _).setCell (p := ⟨w.heap.size + 1, 2, none⟩) (show w.heap.size ≤ w.heap.size + 1 by omega) _⟩
  have KEY := Lib.hid key
  clear key
  by_cases h1 : g < 1
  · have t1 : decide (g < 1) = true := decide_eq_true h1
    have HE := Lib.hid (KEY.out X HB1.out HZ1.out)
    have z0 : X.cell? ⟨w.heap.size + 1, 0, none⟩ = some (.bool false) := HZ1.out.cell 0
    have z1 : X.cell? ⟨w.heap.size + 1, 1, none⟩ = some (.int .i64 0) := HZ1.out.cell 1
    have z2 : X.cell? ⟨w.heap.size + 1, 2, none⟩ = some (.slice none 0 0) := HZ1.out.cell 2
    have f0 := HZ1.out.thawed 0
    have f1 := HZ1.out.thawed 1
    have f2 := HZ1.out.thawed 2
    go_wp2
    refine bodyPost_ret (results_vd rfl _ _ (w.heap.size + 1) _ rfl HE.out.1 rfl) rfl ?_
    exact ⟨rfl, HE.out.2⟩
  · have t1 : decide (g < 1) = false := decide_eq_false h1
    by_cases h2 : 1049576 < g
    · have t2 : decide (1049576 < g) = true := decide_eq_true h2
      have HE := Lib.hid (KEY.out X HB1.out HZ1.out)
      have z0 : X.cell? ⟨w.heap.size + 1, 0, none⟩ = some (.bool false) := HZ1.out.cell 0
      have z1 : X.cell? ⟨w.heap.size + 1, 1, none⟩ = some (.int .i64 0) := HZ1.out.cell 1
      have z2 : X.cell? ⟨w.heap.size + 1, 2, none⟩ = some (.slice none 0 0) := HZ1.out.cell 2
      have f0 := HZ1.out.thawed 0
      have f1 := HZ1.out.thawed 1
      have f2 := HZ1.out.thawed 2
      go_wp2
      refine bodyPost_ret (results_vd rfl _ _ (w.heap.size + 1) _ rfl HE.out.1 rfl) rfl ?_
      exact ⟨rfl, HE.out.2⟩
    · have t2 : decide (1049576 < g) = false := decide_eq_false h2
      obtain rfl := HN.out (by omega) (by omega)
      go_wp2_with (fail)
      with_reducible refine (KR.out _ HB1.out.below).mono ?_
      rintro e w1 ⟨rfl, hb1⟩
      have HB2 := Lib.hid (HB1.out.tells hb1)
      have HZ2 := Lib.hid (HZ1.out.below hb1 HZ1.out.lt)
      have HE := Lib.hid (KEY.out w1 HB2.out HZ2.out)
      clear hb1 s0 s1
      have z0 : w1.cell? ⟨w.heap.size + 1, 0, none⟩ = some (.bool false) := HZ2.out.cell 0
      have z1 : w1.cell? ⟨w.heap.size + 1, 1, none⟩ = some (.int .i64 0) := HZ2.out.cell 1
      have z2 : w1.cell? ⟨w.heap.size + 1, 2, none⟩ = some (.slice none 0 0) := HZ2.out.cell 2
      have f0 := HZ2.out.thawed 0
      have f1 := HZ2.out.thawed 1
      have f2 := HZ2.out.thawed 2
      go_wp2
      refine bodyPost_ret (results_vd rfl _ _ (w.heap.size + 1) _ rfl HE.out.1 rfl) rfl ?_
      exact ⟨rfl, HE.out.2⟩

def tA : Tk := ⟨⟨#[97]⟩, 20, 20, 3, 0, 3, 0, 1, 1, 1, 1⟩
theorem rightA : (whyF 1 [tA]).1 = 0 := by decide +kernel
theorem apartA : Apart [tA] := (good_of rightA).dist
set_option maxRecDepth 100000 in
theorem low6 : ∀ n : Nat, n < 6 → (n : Int) < nextV 1 [tA] tA 1000 n := by decide
set_option maxRecDepth 100000 in
theorem at6 : nextV 1 [tA] tA 1000 6 = 6 := by decide
set_option maxRecDepth 100000 in
theorem low21 : ∀ n : Nat, n < 21 → (n : Int) < nextV 1 [tA] tA 1 n := by decide
theorem resp6 : Resp (nextV 1 [tA] tA 1000) 20 6 true := .inl ⟨rfl, by omega, by omega, at6, fun x x0 x1 => by
  have := low6 x.toNat (by omega)
  rwa [show ((x.toNat : Nat) : Int) = x by omega] at this⟩
theorem resp21 : Resp (nextV 1 [tA] tA 1) 20 0 false := .inr ⟨rfl, rfl, fun x x0 x1 => by
  have := low21 x.toNat (by omega)
  rwa [show ((x.toNat : Nat) : Int) = x by omega] at this⟩
theorem verdA : Verd 1 1000 [tA] true (-1) [6] := .inl ⟨rfl, rfl, rfl, fun k o ho => by
  match k, ho with
  | 0, ho => cases ho; exact ⟨fun _ => ⟨6, rfl, resp6⟩, fun h => absurd trivial h⟩⟩
theorem verdB : Verd 1 1 [tA] false 0 [0] := .inr ⟨rfl, 0, tA, rfl, rfl, resp21, rfl, fun k o ho => by
  match k, ho with
  | 0, ho => cases ho; exact ⟨fun h => absurd (h tA rfl) (by omega), fun _ => rfl⟩⟩
theorem same_self (ok : Bool) (i : Int) (l : List Int) : sameV ok ok i i l l = true := by simp [sameV]
theorem same_ok (i j : Int) (l l' : List Int) : sameV true false i j l l' = false := by simp [sameV]
theorem vd_cells {W : World} {d : Nat} {ok : Bool} {i : Int} {a : Option Addr} {n c : Nat} (h : Lies W d 29 #[.bool ok, .int .i64 i, .slice a n c]) :
    W.cell? ⟨d, 0, none⟩ = some (.bool ok) ∧ W.cell? ⟨d, 1, none⟩ = some (.int .i64 i) ∧ W.cell? ⟨d, 2, none⟩ = some (.slice a n c) := ⟨h.cell 0, h.cell 1, h.cell 2⟩
set_option maxRecDepth 100000 in
set_option maxHeartbeats 8000000 in
theorem awake (w : World) : Calls Try.prog 9 #[] w (Woke w) := by
  obtain ⟨X, hX⟩ : ∃ X, X = (w.alloc (.cells (boxT tA) 39)).alloc (.cells #[.int .i64 1, .slice (some ⟨w.heap.size, 0, none⟩) 1 1] 24) := ⟨_, rfl⟩
  have HB : Hid (Below w.heap.size w X) := by rw [hX]; exact (below_new _ _).alloc (by simp) _
  have HR : Lies X w.heap.size 39 (boxT tA) := by rw [hX]; exact (Lies.made w 39 (boxT tA)).alloc _
  have HS : Lies X (w.heap.size + 1) 24 #[.int .i64 1, .slice (some ⟨w.heap.size, 0, none⟩) 1 1] := by
    rw [hX]
    have := Lies.made (w.alloc (.cells (boxT tA) 39)) 24 #[.int .i64 1, .slice (some ⟨w.heap.size, 0, none⟩) 1 1]
    simpa using this
  have HSH := Lib.hid HS
  clear HS
  have HT : Hid (Tasks X (some ⟨w.heap.size, 0, none⟩) 1 [tA]) := Lib.hid (tasks_row HR (by simp [flatK, cellsK, boxT]) (by simp))
  clear HR
  have K0 : Hid (∀ W, Below X.heap.size X W → Calls Try.prog 13 #[.agg #[.int .i64 1, .slice (some ⟨w.heap.size, 0, none⟩) 1 1], .int .i64 1000] W (Judged 1 1000 [tA] W)) := Lib.hid (fun W hb => judge 1 1000 (w := W) rightA (HT.out.below (Nat.le_refl _) hb) (by omega) (by omega))
  have K1 : Hid (∀ W, Below X.heap.size X W → Calls Try.prog 13 #[.agg #[.int .i64 1, .slice (some ⟨w.heap.size, 0, none⟩) 1 1], .int .i64 1] W (Judged 1 1 [tA] W)) := Lib.hid (fun W hb => judge 1 1 (w := W) rightA (HT.out.below (Nat.le_refl _) hb) (by omega) (by omega))
  have K2 : Hid (∀ W, Calls Try.prog 13 #[.agg #[.int .i64 0, .slice none 0 0], .int .i64 5] W (Gives (.tuple #[vdV false 0 none 0 0, .int .i64 1]) W)) := Lib.hid (fun W => judge_no 0 5 (l := []) (a := none) (cap := 0) (w := W) (by unfold maxLen; simp) (tasks_none _ _ _) (fun h => by have := h.1; revert this; decide))
  simp only [boxT, tA] at hX
  have HXE := Lib.hid hX
  clear hX HT
  go_enter Try.func9, Try.ntmps9
  go_upto_region 2 with fail
  rw [← HXE.out]
  clear HXE
  obtain ⟨B, hB⟩ : ∃ B, B = w.heap.size + 1 := ⟨_, rfl⟩
  rw [← hB] at HSH ⊢
  clear hB
  have s0 : X.cell? ⟨B, 0, none⟩ = some (.int .i64 1) := HSH.out.cell 0
  have s1 : X.cell? ⟨B, 1, none⟩ = some (.slice (some ⟨w.heap.size, 0, none⟩) 1 1) := HSH.out.cell 1
  have K0' := Lib.hid (K0.out X (Below.refl _ _))
  go_wp2_with (fail)
  with_reducible refine K0'.out.mono ?_
  rintro e w1 ⟨ok, late, R, t, rfl, hv, hr, ht, hb⟩
  obtain ⟨rfl, rfl, rfl⟩ := hv.same apartA verdA
  have HR1 := Lib.hid hr
  have HS1 := Lib.hid (HSH.out.below hb HSH.out.lt)
  have HB1 := Lib.hid hb
  clear hv hr ht hb K0 K0' s0 s1
  go_upto_region 3 with fail
  have HV1 := Lib.hid (Lies.made w1 29 #[.bool true, .int .i64 (-1), .slice (some ⟨t, 0, none⟩) 1 1])
  have HR2 := Lib.hid (HR1.out.tells (below_new w1 (.cells #[.bool true, .int .i64 (-1), .slice (some ⟨t, 0, none⟩) 1 1] 29)))
  have HS2 := Lib.hid (HS1.out.alloc (.cells #[.bool true, .int .i64 (-1), .slice (some ⟨t, 0, none⟩) 1 1] 29))
  have HB2 := Lib.hid (HB1.out.alloc HB1.out.size (.cells #[.bool true, .int .i64 (-1), .slice (some ⟨t, 0, none⟩) 1 1] 29))
  generalize w1.alloc (.cells #[.bool true, .int .i64 (-1), .slice (some ⟨t, 0, none⟩) 1 1] 29) = X1 at HV1 HR2 HS2 HB2 ⊢
  generalize w1.heap.size = d at HV1 ⊢
  clear HR1 HS1 HB1
  have s0 : X1.cell? ⟨B, 0, none⟩ = some (.int .i64 1) := HS2.out.cell 0
  have s1 : X1.cell? ⟨B, 1, none⟩ = some (.slice (some ⟨w.heap.size, 0, none⟩) 1 1) := HS2.out.cell 1
  have K1' := Lib.hid (K1.out X1 HB2.out)
  go_wp2_with (fail)
  with_reducible refine K1'.out.mono ?_
  rintro e w2 ⟨ok, late, R, t2, rfl, hv, hr, ht, hb⟩
  obtain ⟨rfl, rfl, rfl⟩ := hv.same apartA verdB
  have HW1 := Lib.hid hr
  have HV2 := Lib.hid (HV1.out.below hb HV1.out.lt)
  have HR3 := Lib.hid (HR2.out.tells hb)
  have HB3 := Lib.hid (HB2.out.trans (hb.mono HB2.out.size))
  clear hv hr ht hb K1 K1' s0 s1 HV1 HR2 HB2 HS2
  go_upto_region 4 with fail
  have HY1 := Lib.hid (Lies.made w2 29 #[.bool false, .int .i64 0, .slice (some ⟨t2, 0, none⟩) 1 1])
  have HW2 := Lib.hid (HW1.out.tells (below_new w2 (.cells #[.bool false, .int .i64 0, .slice (some ⟨t2, 0, none⟩) 1 1] 29)))
  have HR4 := Lib.hid (HR3.out.tells (below_new w2 (.cells #[.bool false, .int .i64 0, .slice (some ⟨t2, 0, none⟩) 1 1] 29)))
  have HV3 := Lib.hid (HV2.out.alloc (.cells #[.bool false, .int .i64 0, .slice (some ⟨t2, 0, none⟩) 1 1] 29))
  have HB4 := Lib.hid (HB3.out.alloc HB3.out.size (.cells #[.bool false, .int .i64 0, .slice (some ⟨t2, 0, none⟩) 1 1] 29))
  generalize w2.alloc (.cells #[.bool false, .int .i64 0, .slice (some ⟨t2, 0, none⟩) 1 1] 29) = X2 at HY1 HW2 HR4 HV3 HB4 ⊢
  generalize w2.heap.size = d2 at HY1 ⊢
  clear HW1 HR3 HV2 HB3
  have K2' := Lib.hid (K2.out X2)
  go_wp2_with (fail)
  with_reducible refine K2'.out.mono ?_
  rintro e w3 ⟨rfl, hb⟩
  have HY2 := Lib.hid (HY1.out.below hb HY1.out.lt)
  have HV4 := Lib.hid (HV3.out.below hb HV3.out.lt)
  have HR5 := Lib.hid (HR4.out.tells hb)
  have HW3 := Lib.hid (HW2.out.tells hb)
  have HB5 := Lib.hid (HB4.out.trans (hb.mono HB4.out.size))
  clear hb K2 K2' HY1 HV3 HR4 HW2 HB4
  go_upto_region 5 with fail
  have HY3 := Lib.hid (HY2.out.alloc (.cells #[.bool false, .int .i64 0, .slice none 0 0] 29))
  have HV5 := Lib.hid (HV4.out.alloc (.cells #[.bool false, .int .i64 0, .slice none 0 0] 29))
  have HR6 := Lib.hid (HR5.out.tells (below_new w3 (.cells #[.bool false, .int .i64 0, .slice none 0 0] 29)))
  have HW4 := Lib.hid (HW3.out.tells (below_new w3 (.cells #[.bool false, .int .i64 0, .slice none 0 0] 29)))
  have HB6 := Lib.hid (HB5.out.alloc HB5.out.size (.cells #[.bool false, .int .i64 0, .slice none 0 0] 29))
  generalize w3.alloc (.cells #[.bool false, .int .i64 0, .slice none 0 0] 29) = X3 at HY3 HV5 HR6 HW4 HB6 ⊢
  generalize w3.heap.size = d3
  clear HY2 HV4 HR5 HW3 HB5
  obtain ⟨v0, v1, v2⟩ := vd_cells HV5.out
  obtain ⟨y0, y1, y2⟩ := vd_cells HY3.out
  have c0 : X3.cell? ⟨t, 0, none⟩ = some (.int .i64 6) := HR6.out.cell (i := 0) rfl
  have KA : Hid (Calls Try.prog 16 #[.agg #[.bool true, .int .i64 (-1), .slice (some ⟨t, 0, none⟩) 1 1], .agg #[.bool true, .int .i64 (-1), .slice (some ⟨t, 0, none⟩) 1 1]] X3 (Gives (.bool true) X3)) := Lib.hid (by
    have := sameVerdict true true (-1) (-1) (l := [6]) (l' := [6]) (n := 1) (m := 1) (c := 1) (d := 1) rfl rfl (by omega) (by omega) HR6.out.ints HR6.out.ints
    rw [same_self] at this
    exact this)
  go_wp2_with (fail)
  with_reducible refine KA.out.mono ?_
  rintro e w4 ⟨rfl, hb⟩
  have HV6 := Lib.hid (HV5.out.below hb HV5.out.lt)
  have HY4 := Lib.hid (HY3.out.below hb HY3.out.lt)
  have HR7 := Lib.hid (HR6.out.tells hb)
  have HW5 := Lib.hid (HW4.out.tells hb)
  have HB7 := Lib.hid (HB6.out.trans (hb.mono HB6.out.size))
  clear hb v0 v1 v2 y0 y1 y2 c0 KA HV5 HY3 HR6 HW4 HB6
  obtain ⟨v0, v1, v2⟩ := vd_cells HV6.out
  obtain ⟨y0, y1, y2⟩ := vd_cells HY4.out
  have KB : Hid (Calls Try.prog 16 #[.agg #[.bool true, .int .i64 (-1), .slice (some ⟨t, 0, none⟩) 1 1], .agg #[.bool false, .int .i64 0, .slice (some ⟨t2, 0, none⟩) 1 1]] w4 (Gives (.bool false) w4)) := Lib.hid (by
    have := sameVerdict true false (-1) 0 (l := [6]) (l' := [0]) (n := 1) (m := 1) (c := 1) (d := 1) rfl rfl (by omega) (by omega) HR7.out.ints HW5.out.ints
    rw [same_ok] at this
    exact this)
  go_wp2_with (fail)
  with_reducible refine KB.out.mono ?_
  rintro e w5 ⟨rfl, hb⟩
  have HB8 := Lib.hid (HB7.out.trans (hb.mono HB7.out.size))
  clear hb
  go_wp2
  go_ret
  exact ⟨rfl, HB.out.trans (HB8.out.mono HB.out.size)⟩
end Go.Proofs.Ytklnokhabomnfaa
