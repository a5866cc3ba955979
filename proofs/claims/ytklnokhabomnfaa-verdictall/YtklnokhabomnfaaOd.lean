/- All places of a set's tasks, by priority, in memory of their own. -/
import Derived.Test.YtklnokhabomnfaaIs
namespace Go.Proofs.Ytklnokhabomnfaa
open Go.RowKit

theorem intInfoO' : ((Try.prog.info? 3).map fun i => (i.zero, i.size, i.bytes)) = some (some (Value.int .i64 0), 1, 8) := by kernel_rfl
theorem intInfoO : ∃ i, Try.prog.info? 3 = some i ∧ i.zero = some (Value.int .i64 0) ∧ i.size = 1 ∧ i.bytes = 8 := by
  obtain ⟨i, hi, h⟩ := Option.map_eq_some_iff.1 intInfoO'
  simp only [Prod.mk.injEq] at h
  exact ⟨i, hi, h.1, h.2.1, h.2.2⟩
theorem make_ints (n : Nat) (hn : n ≤ 1000) (W : World) : (Instr.makeSlice 27 (.int .i64 (n : Int)) (.int .i64 (n : Int))).run Try.prog W = .ok (.slice (some ⟨W.heap.size, 0, none⟩) n n) (W.alloc (.cells (madeCells #[.int .i64 0] n) 3)) := by
  obtain ⟨i0, hi0, hz0, hs0, hb0⟩ := intInfoO
  have := run_make (P := Try.prog) W 27 3 i0 (Value.int .i64 0) Try.underlying27 hi0 hz0 .i64 .i64 n n (by omega) (by omega) (by rw [hb0]; omega) (by omega)
  rw [hs0] at this
  simpa [Value.cells] using this
theorem made_ints (W : World) (n : Nat) : Nums (W.alloc (.cells (madeCells #[.int .i64 0] n) 3)) W.heap.size n (fun _ => 0) :=
  ⟨_, Lies.made W 3 _, by simp [size_madeCells], fun i hi => by
    unfold madeCells
    rw [Array.getElem?_map, Array.getElem?_eq_getElem (by simp; exact hi)]
    simp [Nat.mod_one]⟩

/-- The first k numbers, then zeros. -/
def idTo (k : Nat) : Nat → Nat := fun i => if i < k then i else 0
theorem idTo_in {k i : Nat} (h : i < k) : idTo k i = i := if_pos h
theorem idTo_out {k i : Nat} (h : ¬ i < k) : idTo k i = 0 := if_neg h
theorem idTo_next (k i : Nat) : upd (idTo k) k k i = idTo (k + 1) i := by
  unfold upd
  by_cases hik : i = k
  · rw [if_pos hik, idTo_in (by omega), hik]
  · rw [if_neg hik]
    by_cases h2 : i < k
    · rw [idTo_in h2, idTo_in (by omega)]
    · rw [idTo_out h2, idTo_out (by omega)]
/-- Places in a row that is new, by priority. -/
def Ordered (l : List Tk) (w : World) (e : Ending) (w' : World) : Prop :=
  ∃ (g : Nat) (o : Nat → Nat), e = .returned (.slice (some ⟨g, 0, none⟩) l.length l.length) ∧ Below w.heap.size w w' ∧ w.heap.size ≤ g ∧ Nums w' g l.length o ∧ Places l.length o ∧ Order (keyP l) o l.length
def FillRel (b : Int) (l : List Tk) (a : Option Addr) (cap : Nat) (w : World) (i : Value) (W : World) : Prop :=
  ∃ k : Nat, k ≤ l.length ∧ i = .int .i64 (k : Int) ∧ Below w.heap.size w W ∧ Lies W w.heap.size 24 #[.int .i64 b, .slice a l.length cap] ∧ Nums W (w.heap.size + 1) l.length (idTo k)

set_option maxRecDepth 100000 in
set_option maxHeartbeats 4000000 in
theorem order (b : Int) (l : List Tk) (a : Option Addr) (cap : Nat) {w : World} (hn : 1 ≤ l.length) (hm : l.length ≤ 16) (ht : Tasks w a cap l) :
    Calls Try.prog 22 #[.agg #[.int .i64 b, .slice a l.length cap]] w (Ordered l w) := by
  have HT := Lib.hid ht
  have hmk := fun W => make_ints l.length (by omega) W
  have hmf : ∀ (fn : Fn) (first cap : Array Value) (w : World), (Instr.makeFunc fn first cap).run Try.prog w = .ok (.func fn first cap) w := fun _ _ _ _ => rfl
  have HI0 := Lib.hid (show Nums ((w.alloc (.cells #[.int .i64 b, .slice a l.length cap] 24)).alloc (.cells (madeCells #[.int .i64 0] l.length) 3)) (w.heap.size + 1) l.length (fun _ => 0) by
    have := made_ints (w.alloc (.cells #[.int .i64 b, .slice a l.length cap] 24)) l.length
    simpa using this)
  have HX0 : Hid (Lies ((w.alloc (.cells #[.int .i64 b, .slice a l.length cap] 24)).alloc (.cells (madeCells #[.int .i64 0] l.length) 3)) w.heap.size 24 #[.int .i64 b, .slice a l.length cap]) := (Lies.made _ _ _).alloc _
  have HB0 : Hid (Below w.heap.size w ((w.alloc (.cells #[.int .i64 b, .slice a l.length cap] 24)).alloc (.cells (madeCells #[.int .i64 0] l.length) 3))) := (below_new _ _).alloc (by simp) _
  clear ht
  go_enter Try.func22, Try.ntmps22
  go_wp2
  clear hmk
  go_loopw [11] (fun i W => FillRel b l a cap w i W) (fun i _ => l.length - (intOf i).toNat)
  case atStart => exact ⟨0, Nat.zero_le _, rfl, HB0.out, HX0.out, HI0.out.same (fun i _ => (idTo_out (by omega)).symm)⟩
  case round =>
    obtain ⟨k, hk, rfl, hbel, hbox, hI⟩ := hrel
    have HB := Lib.hid hbel
    have HX := Lib.hid hbox
    have HI := Lib.hid hI
    clear hbel hbox hI HI0 HX0 HB0
    by_cases hlt : k < l.length
    · have t1 : decide ((k : Int) < (l.length : Int)) = true := by simp; omega
      have ck := HI.out.cell (i := k) hlt
      have fk := HI.out.thawed k
      rw [idTo_out (by omega)] at ck
      have HI1 : Hid (Nums (wr.setCell ⟨w.heap.size + 1, k, none⟩ (.int .i64 (k : Int))) (w.heap.size + 1) l.length (idTo (k + 1))) := (HI.out.put k k).same (fun i _ => idTo_next k i)
      have HX1 := Lib.hid (HX.out.there (a := ⟨w.heap.size + 1, k, none⟩) (by simp) (.int .i64 (k : Int)))
      have HB1 := Lib.hid (HB.out.setCell (p := ⟨w.heap.size + 1, k, none⟩) (by simp) (.int .i64 (k : Int)))
      go_wp2
      go_roundw
      case rel => exact ⟨k + 1, by omega, by go_num, HB1.out, HX1.out, HI1.out⟩
      case measure => simp [intOf]; omega
    · have t1 : decide ((k : Int) < (l.length : Int)) = false := by simp; omega
      have t1' : decide (k < l.length) = false := by simp; omega
      obtain rfl : k = l.length := by omega
      have KC := Lib.hid (sortStable b l a cap w.heap.size (w.heap.size + 1) (idTo l.length) hn hm HT.out HB.out (by omega) HX.out (by omega) HI.out ⟨fun i hi => by rw [idTo_in hi]; exact hi, fun i j hi hj h => by rw [idTo_in hi, idTo_in hj] at h; exact h⟩)
      go_wp2_with (fail)
      with_reducible refine KC.out.mono ?_
      rintro e w1 ⟨o1, rfl, h1, h2, h3, h4⟩
      have H1 := Lib.hid h1
      have H2 := Lib.hid h2
      have H3 := Lib.hid h3
      have H4 := Lib.hid h4
      clear h1 h2 h3 h4
      go_wp2
      go_ret
      exact ⟨_, o1, rfl, HB.out.trans (H1.out.below (fun k hk => by omega) HB.out.size), by omega, H2.out, H3.out, H4.out⟩
end Go.Proofs.Ytklnokhabomnfaa
