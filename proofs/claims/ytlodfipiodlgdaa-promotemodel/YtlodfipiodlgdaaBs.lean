/- An entry's place in a row that is in order: slices.BinarySearchFunc. -/
import Derived.Test.YtlodfipiodlgdaaGk
import Derived.Lib.QuietBelow
import Derived.BigRegion
import Derived.IntWalk
namespace Go.Proofs.Ytlodfipiodlgdaa
open Go.RowKit Go.Sort

theorem below_grow {w w' : World} {n : Nat} {os : Array Obj} (h : w' = grow (w.drewN n) os) : Below w.heap.size w w' := by
  subst h
  exact ⟨rfl, rfl, rfl, by simp [grow, World.drewN], fun k hk => by simp [grow, World.drewN, Array.getElem?_append, hk]⟩
/-- It answers v; of what was there nothing has turned. -/
def Tells (v : Value) (w : World) (e : Ending) (w' : World) : Prop := e = .returned v ∧ Below w.heap.size w w'
theorem compare_below (a b : Ky) (w : World) : Calls Try.prog 24 #[aggQ a, aggQ b] w (Tells (.int .i64 (cmpK a b)) w) :=
  (cmpKeys a b w).mono fun _ _ ⟨he, _, _, hw⟩ => ⟨he, below_grow hw⟩
/-- The place, and whether the entry is there. -/
def Looks (l : List Ky) (d : Ky) (w : World) (e : Ending) (w' : World) : Prop := ∃ b : Bool, e = .returned (.tuple #[.int .i64 ((posK d l : Nat) : Int), .bool b]) ∧ Below w.heap.size w w'
def LookRel (l : List Ky) (d : Ky) (V : World) (i j : Value) (W : World) : Prop :=
  ∃ (x y : Nat) (X : World), x ≤ y ∧ y ≤ l.length ∧ i = .int .i64 (x : Int) ∧ j = .int .i64 (y : Int) ∧ X = W ∧ Below V.heap.size V X ∧ (∀ q z, q < x → l[q]? = some z → lt z d = true) ∧ (∀ q z, y ≤ q → l[q]? = some z → lt z d = false)
theorem srt_before {l : List Ky} (h : Srt l) {q r : Nat} {x y d : Ky} (hq : l[q]? = some x) (hr : l[r]? = some y) (hqr : q ≤ r) (hy : lt y d = true) : lt x d = true := by
  by_cases e : q = r
  · subst e
    rw [hq] at hr
    cases hr
    exact hy
  · obtain ⟨l1, e1⟩ := List.getElem?_eq_some_iff.1 hq
    obtain ⟨l2, e2⟩ := List.getElem?_eq_some_iff.1 hr
    have := List.pairwise_iff_getElem.1 h q r l1 l2 (by omega)
    rw [e1, e2] at this
    exact lt_iff.2 (this.trans (lt_iff.1 hy))

set_option maxRecDepth 100000 in
set_option maxHeartbeats 2000000 in
theorem search {l : List Ky} {d : Ky} {a : Option Addr} {c : Nat} {w : World} (hs : Srt l) (hk : Keys w a c l) (hl : l.length ≤ 1024) :
    Calls Try.prog 23 #[.slice a l.length c, aggQ d, .func (.func 24) #[] #[]] w (Looks l d w) := by
  obtain ⟨d0, d1⟩ := d
  simp only [aggQ]
  have HS := Lib.hid hs
  have HL := Lib.hid (Lies.made w 60 #[.int .i64 d0, .int .i64 d1])
  have HK := Lib.hid (hk.below (Nat.le_refl _) (below_new w (.cells #[.int .i64 d0, .int .i64 d1] 60)))
  have HB := Lib.hid (below_new w (.cells #[.int .i64 d0, .int .i64 d1] 60))
  clear hk hs
  go_enter Try.func23, Try.ntmps23
  go_wp2
  generalize w.alloc (.cells #[.int .i64 d0, .int .i64 d1] 60) = V at HL HK HB ⊢
  go_loopw [9, 10] (fun i j W => LookRel l (d0, d1) V i j W) (fun i j _ => (intOf j).toNat - (intOf i).toNat)
  case atStart => exact ⟨0, l.length, V, by omega, by omega, rfl, rfl, rfl, Below.refl _ _, fun q _ hq => by omega, fun q z hq hz => by rw [List.getElem?_eq_none hq] at hz; cases hz⟩
  case round =>
    obtain ⟨x, y, W, hxy, hyl, rfl, rfl, rfl, hbel, h1, h2⟩ := hrel
    have HBW := Lib.hid hbel
    have H1 := Lib.hid h1
    have H2 := Lib.hid h2
    clear hbel h1 h2
    have hL := HL.out.below HBW.out HL.out.lt
    have z0 : W.cell? ⟨w.heap.size, 0, none⟩ = some (.int .i64 d0) := hL.cell 0
    have z1 : W.cell? ⟨w.heap.size, 1, none⟩ = some (.int .i64 d1) := hL.cell 1
    have hwl := hL.lt
    clear hL
    by_cases hlt : x < y
    · have t1 : decide ((x : Int) < (y : Int)) = true := by simp; omega
      obtain ⟨q, hq1, hq2, hq3⟩ : ∃ q : Nat, x ≤ q ∧ q < y ∧ ((x : Int) + (y : Int)) / 2 = (q : Int) := ⟨(x + y) / 2, by omega, by omega, by omega⟩
      have HQ := Lib.hid hq3
      clear hq3
      have hx : l[q]? = some l[q] := List.getElem?_eq_getElem (by omega)
      obtain ⟨b, off, rfl, hb, x0, x1⟩ := (HK.out.below (Nat.le_refl _) HBW.out).cells hx
      have HX := Lib.hid hx
      clear hx
      generalize l[q] = k at x0 x1 HX
      obtain ⟨k0, k1⟩ := k
      simp only at x0 x1
      have KC := Lib.hid (fun W => compare_below (k0, k1) (d0, d1) W)
      simp only [aggQ] at KC
      have HR := Lib.hid (show lt (k0, k1) (d0, d1) = decide (cmpK (k0, k1) (d0, d1) < 0) from rfl)
      generalize cmpK (k0, k1) (d0, d1) = r at KC HR
      have X0 := cell_regrown x0
      have X1 := cell_regrown x1
      have Z0 := cell_regrown z0
      have Z1 := cell_regrown z1
      go_upto_region 5 with fail
      rw [HQ.out]
      have i1 : (0 : Int) ≤ (q : Int) := by omega
      have i2 : (q : Int) < (l.length : Int) := by omega
      have i3 : q < l.length := by omega
      refine wp_region_quiet_below (by kernel_rfl) (by kernel_rfl) ?_
      repeat (go_big_quiet_step (exact (KC.out _).regrown_of))
      refine wpQuiet_nil ?_
      intro _ hw'
      obtain ⟨⟨dr, os⟩, hw''⟩ := hw'
      subst hw''
      have HB2 := Lib.hid (HBW.out.trans ((below_regrown W dr os).mono HBW.out.size))
      generalize grow (redrawn W dr) os = W2 at HB2 ⊢
      by_cases hr : r < 0
      · have t2 : decide (r < 0) = true := by simpa using hr
        have HLT := Lib.hid (HR.out.trans t2)
        have HN : Hid (∀ j z, j < q + 1 → l[j]? = some z → lt z (d0, d1) = true) := fun j z hj hz => srt_before HS.out hz HX.out (by omega) HLT.out
        go_wp2
        go_roundw
        case rel => exact ⟨q + 1, y, _, by omega, by omega, by go_num, rfl, rfl, HB2.out, HN.out, H2.out⟩
        case measure => simp [intOf]; omega
      · have t2 : decide (r < 0) = false := by simpa using hr
        have HLT := Lib.hid (HR.out.trans t2)
        have HN : Hid (∀ j z, q ≤ j → l[j]? = some z → lt z (d0, d1) = false) := fun j z hj hz => by
          by_cases e : lt z (d0, d1) = true
          · have := srt_before HS.out HX.out hz hj e
            rw [HLT.out] at this
            cases this
          · simpa using e
        go_wp2
        go_roundw
        case rel => exact ⟨x, q, _, by omega, by omega, rfl, rfl, rfl, HB2.out, H1.out, HN.out⟩
        case measure => simp [intOf]; omega
    · have t1 : decide ((x : Int) < (y : Int)) = false := by simp; omega
      have t1' : decide (x < y) = false := by simp; omega
      obtain rfl : x = y := by omega
      have HP := Lib.hid (show posK (d0, d1) l = x from pos_eq hyl H1.out (fun z hz => H2.out x z (Nat.le_refl _) hz))
      have HF : Hid (Below w.heap.size w W) := HB.out.trans (HBW.out.mono HB.out.size)
      by_cases hxl : x < l.length
      · have t3 : decide ((x : Int) < (l.length : Int)) = true := by simp; omega
        have hx : l[x]? = some l[x] := List.getElem?_eq_getElem hxl
        obtain ⟨b, off, rfl, hb, x0, x1⟩ := (HK.out.below (Nat.le_refl _) HBW.out).cells hx
        clear hx
        generalize l[x] = k at x0 x1
        obtain ⟨k0, k1⟩ := k
        simp only at x0 x1
        have KC := Lib.hid (fun W => compare_below (k0, k1) (d0, d1) W)
        simp only [aggQ] at KC
        generalize cmpK (k0, k1) (d0, d1) = r at KC
        have X0 := cell_regrown x0
        have X1 := cell_regrown x1
        have Z0 := cell_regrown z0
        have Z1 := cell_regrown z1
        have i1 : (0 : Int) ≤ (x : Int) := by omega
        go_upto_region 8 with fail
        refine wp_region_quiet_below (by kernel_rfl) (by kernel_rfl) ?_
        repeat (go_big_quiet_step (exact (KC.out _).regrown_of))
        refine wpQuiet_nil ?_
        intro _ hw'
        obtain ⟨⟨dr, os⟩, hw''⟩ := hw'
        subst hw''
        have HB2 := Lib.hid (HF.out.trans ((below_regrown W dr os).mono HF.out.size))
        generalize grow (redrawn W dr) os = W2 at HB2 ⊢
        go_wp2
        go_ret2
        exact ⟨_, by rw [HP.out]; rfl, HB2.out⟩
      · have t3 : decide ((x : Int) < (l.length : Int)) = false := by simp; omega
        have t3' : decide (x < l.length) = false := by simp; omega
        go_upto_region 8 with fail
        go_quiet (fail)
        go_wp2
        go_ret2
        exact ⟨_, by rw [HP.out]; rfl, below_drewN HF.out _⟩
end Go.Proofs.Ytlodfipiodlgdaa
