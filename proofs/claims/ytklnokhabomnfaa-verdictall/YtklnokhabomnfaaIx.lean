/- Is there one among the tasks ahead? -/
import Derived.Test.YtklnokhabomnfaaMz
namespace Go.Proofs.Ytklnokhabomnfaa
open Go.RowKit

/-- A number from 0 on just where b is so; new memory was made, nothing else. -/
def Found (b : Bool) (w : World) (e : Ending) (w' : World) : Prop := ∃ r : Int, e = .returned (.int .i64 r) ∧ decide (0 ≤ r) = b ∧ Below w.heap.size w w'
def IxRel (l : List Tk) (p : Tk → Bool) (w : World) (i : Value) (W : World) : Prop := ∃ k : Nat, k ≤ l.length ∧ i = .int .i64 (k : Int) ∧ Below w.heap.size w W ∧ (l.take k).any p = false
theorem any_at {l : List Tk} {p : Tk → Bool} {k : Nat} {t : Tk} (h : l[k]? = some t) (ht : p t = true) : l.any p = true := List.any_eq_true.2 ⟨t, List.mem_of_getElem? h, ht⟩
theorem any_next {l : List Tk} {p : Tk → Bool} {k : Nat} {t : Tk} (h : l[k]? = some t) (ht : p t = false) (h0 : (l.take k).any p = false) : (l.take (k + 1)).any p = false := by
  rw [take_next h, List.any_append, h0]; simp [ht]

set_option maxHeartbeats 2000000 in
theorem index37 (l : List Tk) (n : ByteArray) (g : Nat) (a : Option Addr) (cap : Nat) {w : World} (hl : l.length ≤ 1000) (ht : Tasks w a cap l) (hg : g < w.heap.size) (c0 : w.cell? ⟨g, 0, none⟩ = some (.string n)) :
    Calls Try.prog 75 #[.slice a l.length cap, .func (.func 68) #[] #[.pointer (some ⟨g, 0, none⟩)]] w (Found (l.any fun x => decide (x.name = n)) w) := by
  have HT := Lib.hid ht
  have HC : Hid (∀ W, Below w.heap.size w W → W.cell? ⟨g, 0, none⟩ = some (.string n)) := fun W hW => by rw [hW.cell (p := ⟨g, 0, none⟩) hg]; exact c0
  clear ht c0
  go_enter Try.func75, Try.ntmps75
  go_wp2
  go_loopw [8] (fun i W => IxRel l (fun x => decide (x.name = n)) w i W) (fun i _ => l.length - (intOf i).toNat)
  case atStart => exact ⟨0, Nat.zero_le _, rfl, Below.refl _ _, rfl⟩
  case round =>
    obtain ⟨k, hk, rfl, hb, ha⟩ := hrel
    have HB := Lib.hid hb
    have HA := Lib.hid ha
    clear hb ha
    by_cases hlt : k < l.length
    · have t1 : decide ((k : Int) < (l.length : Int)) = true := by simp; omega
      have hx : l[k]? = some l[k] := List.getElem?_eq_getElem hlt
      have HX := Lib.hid hx
      obtain ⟨b, off, rfl, hbl, x0, x1, x2, x3, x4, x5, x6, x7, x8, x9, x10⟩ := (HT.out.below (Nat.le_refl _) HB.out).cells hx
      clear hx
      generalize l[k] = t at x0 x1 x2 x3 x4 x5 x6 x7 x8 x9 x10 HX
      have hs := HB.out.size
      have KC := Lib.hid (sameName t n g (w := wr) (by omega) (HC.out wr HB.out))
      cases hp : decide (t.name = n) with
      | true =>
        rw [hp] at KC
        have HV := Lib.hid (any_at (p := fun x => decide (x.name = n)) HX.out hp)
        clear hp
        simp only [aggK] at KC
        go_wp2_with (fail)
        with_reducible refine KC.out.mono ?_
        rintro e w1 ⟨rfl, hb1⟩
        have H1 := Lib.hid hb1
        clear hb1
        go_wp2
        go_ret
        exact ⟨_, rfl, by rw [HV.out]; simp, HB.out.trans (H1.out.mono HB.out.size)⟩
      | false =>
        rw [hp] at KC
        have HV := Lib.hid (any_next (p := fun x => decide (x.name = n)) HX.out hp HA.out)
        clear hp
        simp only [aggK] at KC
        go_wp2_with (fail)
        with_reducible refine KC.out.mono ?_
        rintro e w1 ⟨rfl, hb1⟩
        have H1 := Lib.hid hb1
        clear hb1
        go_wp2
        go_roundw
        case rel => exact ⟨k + 1, by omega, by go_num, HB.out.trans (H1.out.mono HB.out.size), HV.out⟩
        case measure => simp [intOf]; omega
    · have t1 : decide ((k : Int) < (l.length : Int)) = false := by simp; omega
      have t1' : decide (k < l.length) = false := by simp; omega
      have HV := Lib.hid (show (l.any fun x => decide (x.name = n)) = false by have := HA.out; rw [List.take_of_length_le (by omega)] at this; exact this)
      go_wp2
      go_ret
      exact ⟨_, rfl, by rw [HV.out]; rfl, HB.out⟩

set_option maxHeartbeats 1000000 in
theorem contains37 (l : List Tk) (n : ByteArray) (g : Nat) (a : Option Addr) (cap : Nat) {w : World} (hl : l.length ≤ 1000) (ht : Tasks w a cap l) (hg : g < w.heap.size) (c0 : w.cell? ⟨g, 0, none⟩ = some (.string n)) :
    Calls Try.prog 67 #[.slice a l.length cap, .func (.func 68) #[] #[.pointer (some ⟨g, 0, none⟩)]] w (Tells (l.any fun x => decide (x.name = n)) w) := by
  have K1 := Lib.hid (index37 l n g a cap hl ht hg c0)
  clear ht c0
  go_enter Try.func67, Try.ntmps67
  go_wp2_with (fail)
  with_reducible refine K1.out.mono ?_
  rintro e w1 ⟨r, rfl, hr, hb1⟩
  have HR := Lib.hid hr
  have H1 := Lib.hid hb1
  clear hb1 hr
  go_wp2
  go_ret
  exact tells HR.out.symm H1.out

set_option maxHeartbeats 2000000 in
theorem index38 (l : List Tk) (q : Int) (g : Nat) (a : Option Addr) (cap : Nat) {w : World} (hl : l.length ≤ 1000) (ht : Tasks w a cap l) (hg : g < w.heap.size) (c0 : w.cell? ⟨g, 10, none⟩ = some (.int .i64 q)) :
    Calls Try.prog 75 #[.slice a l.length cap, .func (.func 69) #[] #[.pointer (some ⟨g, 0, none⟩)]] w (Found (l.any fun x => decide (x.Prio = q)) w) := by
  have HT := Lib.hid ht
  have HC : Hid (∀ W, Below w.heap.size w W → W.cell? ⟨g, 10, none⟩ = some (.int .i64 q)) := fun W hW => by rw [hW.cell (p := ⟨g, 10, none⟩) hg]; exact c0
  clear ht c0
  go_enter Try.func75, Try.ntmps75
  go_wp2
  go_loopw [8] (fun i W => IxRel l (fun x => decide (x.Prio = q)) w i W) (fun i _ => l.length - (intOf i).toNat)
  case atStart => exact ⟨0, Nat.zero_le _, rfl, Below.refl _ _, rfl⟩
  case round =>
    obtain ⟨k, hk, rfl, hb, ha⟩ := hrel
    have HB := Lib.hid hb
    have HA := Lib.hid ha
    clear hb ha
    by_cases hlt : k < l.length
    · have t1 : decide ((k : Int) < (l.length : Int)) = true := by simp; omega
      have hx : l[k]? = some l[k] := List.getElem?_eq_getElem hlt
      have HX := Lib.hid hx
      obtain ⟨b, off, rfl, hbl, x0, x1, x2, x3, x4, x5, x6, x7, x8, x9, x10⟩ := (HT.out.below (Nat.le_refl _) HB.out).cells hx
      clear hx
      generalize l[k] = t at x0 x1 x2 x3 x4 x5 x6 x7 x8 x9 x10 HX
      have hs := HB.out.size
      have KC := Lib.hid (samePrio t q g (w := wr) (by omega) (HC.out wr HB.out))
      cases hp : decide (t.Prio = q) with
      | true =>
        rw [hp] at KC
        have HV := Lib.hid (any_at (p := fun x => decide (x.Prio = q)) HX.out hp)
        clear hp
        simp only [aggK] at KC
        go_wp2_with (fail)
        with_reducible refine KC.out.mono ?_
        rintro e w1 ⟨rfl, hb1⟩
        have H1 := Lib.hid hb1
        clear hb1
        go_wp2
        go_ret
        exact ⟨_, rfl, by rw [HV.out]; simp, HB.out.trans (H1.out.mono HB.out.size)⟩
      | false =>
        rw [hp] at KC
        have HV := Lib.hid (any_next (p := fun x => decide (x.Prio = q)) HX.out hp HA.out)
        clear hp
        simp only [aggK] at KC
        go_wp2_with (fail)
        with_reducible refine KC.out.mono ?_
        rintro e w1 ⟨rfl, hb1⟩
        have H1 := Lib.hid hb1
        clear hb1
        go_wp2
        go_roundw
        case rel => exact ⟨k + 1, by omega, by go_num, HB.out.trans (H1.out.mono HB.out.size), HV.out⟩
        case measure => simp [intOf]; omega
    · have t1 : decide ((k : Int) < (l.length : Int)) = false := by simp; omega
      have t1' : decide (k < l.length) = false := by simp; omega
      have HV := Lib.hid (show (l.any fun x => decide (x.Prio = q)) = false by have := HA.out; rw [List.take_of_length_le (by omega)] at this; exact this)
      go_wp2
      go_ret
      exact ⟨_, rfl, by rw [HV.out]; rfl, HB.out⟩

set_option maxHeartbeats 1000000 in
theorem contains38 (l : List Tk) (q : Int) (g : Nat) (a : Option Addr) (cap : Nat) {w : World} (hl : l.length ≤ 1000) (ht : Tasks w a cap l) (hg : g < w.heap.size) (c0 : w.cell? ⟨g, 10, none⟩ = some (.int .i64 q)) :
    Calls Try.prog 67 #[.slice a l.length cap, .func (.func 69) #[] #[.pointer (some ⟨g, 0, none⟩)]] w (Tells (l.any fun x => decide (x.Prio = q)) w) := by
  have K1 := Lib.hid (index38 l q g a cap hl ht hg c0)
  clear ht c0
  go_enter Try.func67, Try.ntmps67
  go_wp2_with (fail)
  with_reducible refine K1.out.mono ?_
  rintro e w1 ⟨r, rfl, hr, hb1⟩
  have HR := Lib.hid hr
  have H1 := Lib.hid hb1
  clear hb1 hr
  go_wp2
  go_ret
  exact tells HR.out.symm H1.out
end Go.Proofs.Ytklnokhabomnfaa
