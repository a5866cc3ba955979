/- The dearest of the tasks that a function literal asks for; Dear, Ahead: for whatever list of fine tasks. -/
import Derived.Test.YtklnokhabomnfaaDr
import Derived.Deep.DeepCutAuto
import Derived.Deep.RegionHeld3
namespace Go.Proofs.Ytklnokhabomnfaa
open Go.RowKit

def dearestDRel (b p : Int) (l : List Tk) (a : Option Addr) (cap : Nat) (w : World) (m i : Value) (W : World) : Prop :=
  ∃ k : Nat, k ≤ l.length ∧ i = .int .i64 (k : Int) ∧ m = .int .i64 (maxE (dearQ p) (l.take k)) ∧ SetBox w b a l.length cap W
set_option maxRecDepth 100000 in
set_option maxHeartbeats 2000000 in
theorem dearestD (b p : Int) {l : List Tk} {a : Option Addr} {cap g : Nat} {w : World} (hl : l.length ≤ 30) (hf : ∀ t ∈ l, Fine t) (ht : Tasks w a cap l) (hc : w.cell? ⟨g, 10, none⟩ = some (.int .i64 p)) (hg : g < w.heap.size) :
    Calls Try.prog 60 #[.agg #[.int .i64 b, .slice a l.length cap], .func (.func 62) #[] #[.pointer (some ⟨g, 0, none⟩)]] w (Gives (.int .i64 (maxE (dearQ p) l)) w) := by
  have HT := Lib.hid ht
  have HF := Lib.hid hf
  have HC := Lib.hid hc
  have HB := Lib.hid (SetBox.made w b a l.length cap)
  clear ht hf hc
  go_enter Try.func60, Try.ntmps60
  go_wp2
  go_loopw [5, 11] (fun m i W => dearestDRel b p l a cap w m i W) (fun _ i _ => l.length - (intOf i).toNat)
  case atStart => exact ⟨0, by omega, rfl, rfl, HB.out⟩
  case round =>
    obtain ⟨k, hk, rfl, rfl, hs⟩ := hrel
    have HS := Lib.hid hs
    clear hs
    by_cases hlt : k < l.length
    · have t1 : decide ((k : Int) < (l.length : Int)) = true := by simp; omega
      have hx : l[k]? = some l[k] := List.getElem?_eq_getElem hlt
      have HTW := Lib.hid (HT.out.below (Nat.le_refl _) HS.out.below)
      obtain ⟨bb, off, rfl, hbl, x0, x1, x2, x3, x4, x5, x6, x7, x8, x9, x10⟩ := HTW.out.cells hx
      have hfx := HF.out _ (List.getElem_mem hlt)
      have HX := Lib.hid (maxE_next (q := dearQ p) hx)
      have KE := Lib.hid (fun W => extra hfx W)
      obtain ⟨e1, e2⟩ := extra_nums hfx
      clear hfx hx
      generalize l[k] = x at *
      have KQ : Hid (∀ W, Below wr.heap.size wr W → Calls Try.prog 62 #[aggK x, .pointer (some ⟨g, 0, none⟩)] W (Gives (.bool (dearQ p x)) W)) := Lib.hid (fun W hb =>
        dearFn x p g W ((hb.cell (p := ⟨g, 10, none⟩) (Nat.lt_of_lt_of_le hg HS.out.below.size)).trans ((HS.out.below.cell (p := ⟨g, 10, none⟩) hg).trans HC.out)) (Nat.lt_of_lt_of_le hg (Nat.le_trans HS.out.below.size hb.size)))
      have HBX := Lib.hid (Box.made wr x)
      simp only [boxT] at HBX
      simp only [aggK] at KE KQ
      have KQ1 := Lib.hid (KQ.out _ HBX.out.below)
      clear KQ
      generalize extraV x = ev at *
      generalize maxE (dearQ p) (l.take k) = mv at *
      cases hq : dearQ p x
      · rw [hq] at KQ1 HX
        rw [if_neg (by simp)] at HX
        clear hq
        go_wp2_with (fail)
        with_reducible refine KQ1.out.mono ?_
        rintro e w1 ⟨rfl, hb1⟩
        have HS1 := Lib.hid (HS.out.tells (HBX.out.tells hb1).below)
        clear hb1
        go_wp2
        go_roundw
        case rel => exact ⟨k + 1, by omega, by go_num, by rw [HX.out], HS1.out⟩
        case measure => simp [intOf]; omega
      · rw [hq] at KQ1 HX
        rw [if_pos rfl] at HX
        clear hq
        go_wp2_with (fail)
        with_reducible refine KQ1.out.mono ?_
        rintro e w1 ⟨rfl, hb1⟩
        have HX1 := Lib.hid (HBX.out.tells hb1)
        clear hb1
        obtain ⟨y0, y1, y2, y3, y4, y5, y6, y7, y8, y9, y10⟩ := HX1.out.cells
        go_wp2_with (fail)
        with_reducible refine (KE.out _).mono ?_
        rintro e w2 ⟨rfl, hb2⟩
        have HS1 := Lib.hid (HS.out.tells (HX1.out.tells hb2).below)
        clear hb2
        go_wp2
        go_roundw
        case rel => exact ⟨k + 1, by omega, by go_num, by rw [HX.out]; congr 1; split <;> omega, HS1.out⟩
        case measure => simp [intOf]; omega
    · have t1 : decide ((k : Int) < (l.length : Int)) = false := by simp; omega
      obtain rfl : k = l.length := by omega
      rw [List.take_length]
      generalize maxE (dearQ p) l = mv at *
      go_wp2
      go_ret
      exact ⟨rfl, HS.out.below⟩

def dearestARel (b p : Int) (l : List Tk) (a : Option Addr) (cap : Nat) (w : World) (m i : Value) (W : World) : Prop :=
  ∃ k : Nat, k ≤ l.length ∧ i = .int .i64 (k : Int) ∧ m = .int .i64 (maxE (aheadQ p) (l.take k)) ∧ SetBox w b a l.length cap W
set_option maxRecDepth 100000 in
set_option maxHeartbeats 2000000 in
theorem dearestA (b p : Int) {l : List Tk} {a : Option Addr} {cap g : Nat} {w : World} (hl : l.length ≤ 30) (hf : ∀ t ∈ l, Fine t) (ht : Tasks w a cap l) (hc : w.cell? ⟨g, 10, none⟩ = some (.int .i64 p)) (hg : g < w.heap.size) :
    Calls Try.prog 60 #[.agg #[.int .i64 b, .slice a l.length cap], .func (.func 61) #[] #[.pointer (some ⟨g, 0, none⟩)]] w (Gives (.int .i64 (maxE (aheadQ p) l)) w) := by
  have HT := Lib.hid ht
  have HF := Lib.hid hf
  have HC := Lib.hid hc
  have HB := Lib.hid (SetBox.made w b a l.length cap)
  clear ht hf hc
  go_enter Try.func60, Try.ntmps60
  go_wp2
  go_loopw [5, 11] (fun m i W => dearestARel b p l a cap w m i W) (fun _ i _ => l.length - (intOf i).toNat)
  case atStart => exact ⟨0, by omega, rfl, rfl, HB.out⟩
  case round =>
    obtain ⟨k, hk, rfl, rfl, hs⟩ := hrel
    have HS := Lib.hid hs
    clear hs
    by_cases hlt : k < l.length
    · have t1 : decide ((k : Int) < (l.length : Int)) = true := by simp; omega
      have hx : l[k]? = some l[k] := List.getElem?_eq_getElem hlt
      have HTW := Lib.hid (HT.out.below (Nat.le_refl _) HS.out.below)
      obtain ⟨bb, off, rfl, hbl, x0, x1, x2, x3, x4, x5, x6, x7, x8, x9, x10⟩ := HTW.out.cells hx
      have hfx := HF.out _ (List.getElem_mem hlt)
      have HX := Lib.hid (maxE_next (q := aheadQ p) hx)
      have KE := Lib.hid (fun W => extra hfx W)
      obtain ⟨e1, e2⟩ := extra_nums hfx
      clear hfx hx
      generalize l[k] = x at *
      have KQ : Hid (∀ W, Below wr.heap.size wr W → Calls Try.prog 61 #[aggK x, .pointer (some ⟨g, 0, none⟩)] W (Gives (.bool (aheadQ p x)) W)) := Lib.hid (fun W hb =>
        aheadFn x p g W ((hb.cell (p := ⟨g, 10, none⟩) (Nat.lt_of_lt_of_le hg HS.out.below.size)).trans ((HS.out.below.cell (p := ⟨g, 10, none⟩) hg).trans HC.out)) (Nat.lt_of_lt_of_le hg (Nat.le_trans HS.out.below.size hb.size)))
      have HBX := Lib.hid (Box.made wr x)
      simp only [boxT] at HBX
      simp only [aggK] at KE KQ
      have KQ1 := Lib.hid (KQ.out _ HBX.out.below)
      clear KQ
      generalize extraV x = ev at *
      generalize maxE (aheadQ p) (l.take k) = mv at *
      cases hq : aheadQ p x
      · rw [hq] at KQ1 HX
        rw [if_neg (by simp)] at HX
        clear hq
        go_wp2_with (fail)
        with_reducible refine KQ1.out.mono ?_
        rintro e w1 ⟨rfl, hb1⟩
        have HS1 := Lib.hid (HS.out.tells (HBX.out.tells hb1).below)
        clear hb1
        go_wp2
        go_roundw
        case rel => exact ⟨k + 1, by omega, by go_num, by rw [HX.out], HS1.out⟩
        case measure => simp [intOf]; omega
      · rw [hq] at KQ1 HX
        rw [if_pos rfl] at HX
        clear hq
        go_wp2_with (fail)
        with_reducible refine KQ1.out.mono ?_
        rintro e w1 ⟨rfl, hb1⟩
        have HX1 := Lib.hid (HBX.out.tells hb1)
        clear hb1
        obtain ⟨y0, y1, y2, y3, y4, y5, y6, y7, y8, y9, y10⟩ := HX1.out.cells
        go_wp2_with (fail)
        with_reducible refine (KE.out _).mono ?_
        rintro e w2 ⟨rfl, hb2⟩
        have HS1 := Lib.hid (HS.out.tells (HX1.out.tells hb2).below)
        clear hb2
        go_wp2
        go_roundw
        case rel => exact ⟨k + 1, by omega, by go_num, by rw [HX.out]; congr 1; split <;> omega, HS1.out⟩
        case measure => simp [intOf]; omega
    · have t1 : decide ((k : Int) < (l.length : Int)) = false := by simp; omega
      obtain rfl : k = l.length := by omega
      rw [List.take_length]
      generalize maxE (aheadQ p) l = mv at *
      go_wp2
      go_ret
      exact ⟨rfl, HS.out.below⟩

set_option maxRecDepth 100000 in
set_option maxHeartbeats 2000000 in
theorem dear (b : Int) {l : List Tk} {a : Option Addr} {cap k : Nat} {o : Tk} {w : World} (hl : l.length ≤ 30) (hf : ∀ t ∈ l, Fine t) (ht : Tasks w a cap l) (ho : l[k]? = some o) :
    Calls Try.prog 43 #[.agg #[.int .i64 b, .slice a l.length cap], .int .i64 (k : Int)] w (Gives (.int .i64 (maxE (dearQ o.Prio) l)) w) := by
  have hk := (List.getElem?_eq_some_iff.1 ho).1
  have HT := Lib.hid ht
  have HF := Lib.hid hf
  have HB := Lib.hid (SetBox.made w b a l.length cap)
  have KP := Lib.hid (fun W => isPlace (b := b) (a := a) (cap := cap) hk W)
  clear ht hf
  go_enter Try.func43, Try.ntmps43
  go_wp2_with (fail)
  with_reducible refine (KP.out _).mono ?_
  rintro e w1 ⟨rfl, hb1⟩
  have HB1 := Lib.hid (HB.out.tells hb1)
  clear hb1 KP HB
  obtain ⟨s0, s1⟩ := HB1.out.cells
  have HT1 := Lib.hid (HT.out.below (Nat.le_refl _) HB1.out.below)
  have HO := Lib.hid ho
  obtain ⟨bb, off, rfl, hbl, x0, x1, x2, x3, x4, x5, x6, x7, x8, x9, x10⟩ := HT1.out.cells ho
  have q1 : (0 : Int) ≤ (k : Int) := by omega
  have q2 : (k : Int) < (l.length : Int) := by omega
  clear ho
  obtain ⟨nm, tT, tD, tC, tA, tS, tc, tM, tK, tO, tP⟩ := o
  simp only at x0 x1 x2 x3 x4 x5 x6 x7 x8 x9 x10
  have HOX := Lib.hid (Box.made w1 ⟨nm, tT, tD, tC, tA, tS, tc, tM, tK, tO, tP⟩)
  have KD := Lib.hid (dearestD b tP (g := w1.heap.size) hl HF.out (HT1.out.below (Nat.le_refl _) HOX.out.below) HOX.out.cells.2.2.2.2.2.2.2.2.2.2 HOX.out.lt)
  have HB2 := Lib.hid (HB1.out.tells HOX.out.below)
  simp only [boxT] at KD HB2
  clear HOX HO
  simp only
  generalize maxE (dearQ tP) l = mv at *
  go_upto_region 4 with fail
  generalize w1.alloc (.cells #[.string nm, .int .i64 tT, .int .i64 tD, .int .i64 tC, .int .i64 tA, .int .i64 tS, .int .i64 tc, .int .i64 tM, .int .i64 tK, .int .i64 tO, .int .i64 tP] 39) = X at KD HB2 ⊢
  clear s0 s1
  obtain ⟨s0, s1⟩ := HB2.out.cells
  go_wp2_with (fail)
  with_reducible refine KD.out.mono ?_
  rintro e w2 ⟨rfl, hb2⟩
  have HB3 := Lib.hid (HB2.out.tells hb2)
  go_wp2
  go_ret
  exact ⟨rfl, HB3.out.below⟩

set_option maxRecDepth 100000 in
set_option maxHeartbeats 2000000 in
theorem ahead (b : Int) {l : List Tk} {a : Option Addr} {cap k : Nat} {o : Tk} {w : World} (hl : l.length ≤ 30) (hf : ∀ t ∈ l, Fine t) (ht : Tasks w a cap l) (ho : l[k]? = some o) :
    Calls Try.prog 41 #[.agg #[.int .i64 b, .slice a l.length cap], .int .i64 (k : Int)] w (Gives (.int .i64 (maxE (aheadQ o.Prio) l)) w) := by
  have hk := (List.getElem?_eq_some_iff.1 ho).1
  have HT := Lib.hid ht
  have HF := Lib.hid hf
  have HB := Lib.hid (SetBox.made w b a l.length cap)
  have KP := Lib.hid (fun W => isPlace (b := b) (a := a) (cap := cap) hk W)
  clear ht hf
  go_enter Try.func41, Try.ntmps41
  go_wp2_with (fail)
  with_reducible refine (KP.out _).mono ?_
  rintro e w1 ⟨rfl, hb1⟩
  have HB1 := Lib.hid (HB.out.tells hb1)
  clear hb1 KP HB
  obtain ⟨s0, s1⟩ := HB1.out.cells
  have HT1 := Lib.hid (HT.out.below (Nat.le_refl _) HB1.out.below)
  have HO := Lib.hid ho
  obtain ⟨bb, off, rfl, hbl, x0, x1, x2, x3, x4, x5, x6, x7, x8, x9, x10⟩ := HT1.out.cells ho
  have q1 : (0 : Int) ≤ (k : Int) := by omega
  have q2 : (k : Int) < (l.length : Int) := by omega
  clear ho
  obtain ⟨nm, tT, tD, tC, tA, tS, tc, tM, tK, tO, tP⟩ := o
  simp only at x0 x1 x2 x3 x4 x5 x6 x7 x8 x9 x10
  have HOX := Lib.hid (Box.made w1 ⟨nm, tT, tD, tC, tA, tS, tc, tM, tK, tO, tP⟩)
  have KD := Lib.hid (dearestA b tP (g := w1.heap.size) hl HF.out (HT1.out.below (Nat.le_refl _) HOX.out.below) HOX.out.cells.2.2.2.2.2.2.2.2.2.2 HOX.out.lt)
  have HB2 := Lib.hid (HB1.out.tells HOX.out.below)
  simp only [boxT] at KD HB2
  clear HOX HO
  simp only
  generalize maxE (aheadQ tP) l = mv at *
  go_upto_region 4 with fail
  generalize w1.alloc (.cells #[.string nm, .int .i64 tT, .int .i64 tD, .int .i64 tC, .int .i64 tA, .int .i64 tS, .int .i64 tc, .int .i64 tM, .int .i64 tK, .int .i64 tO, .int .i64 tP] 39) = X at KD HB2 ⊢
  clear s0 s1
  obtain ⟨s0, s1⟩ := HB2.out.cells
  go_wp2_with (fail)
  with_reducible refine KD.out.mono ?_
  rintro e w2 ⟨rfl, hb2⟩
  have HB3 := Lib.hid (HB2.out.tells hb2)
  go_wp2
  go_ret
  exact ⟨rfl, HB3.out.below⟩
end Go.Proofs.Ytklnokhabomnfaa
