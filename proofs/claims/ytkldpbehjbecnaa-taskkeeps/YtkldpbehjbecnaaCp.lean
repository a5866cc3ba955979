/- A set like it, in memory of its own. -/
import Derived.Test.YtkldpbehjbecnaaTr
import Derived.Deep.DeepCutAuto
namespace Go.Proofs.Ytkldpbehjbecnaa
open Go.RowKit

/-- A set of the same tasks, in a row that is new. -/
def Copied (b : Int) (l : List Tk) (w : World) (e : Ending) (w' : World) : Prop :=
  ∃ g : Nat, e = .returned (.agg #[.int .i64 b, .slice (some ⟨g, 0, none⟩) l.length l.length]) ∧ Below w.heap.size w w' ∧ w.heap.size ≤ g ∧ TRow w' g l.length l
def CopyRel (b : Int) (l : List Tk) (a : Option Addr) (cap : Nat) (w : World) (i : Value) (W : World) : Prop :=
  ∃ k : Nat, k ≤ l.length ∧ i = .int .i64 (k : Int) ∧ Below w.heap.size w W ∧ Lies W w.heap.size 24 #[.int .i64 b, .slice a l.length cap] ∧ Lies W (w.heap.size + 1) 24 #[.int .i64 0, .slice none 0 0] ∧ TRow W (w.heap.size + 1 + 1) l.length (l.take k)
theorem results_set {fn : Func} (h : fn.results = #[.cell 2 24]) (tmps : Array Value) (w : World) (g : Nat) (cs : Array Value) (hp : tmps.getD 2 undef = .pointer (some ⟨g, 0, none⟩)) (hL : Lies w g 24 cs) (hs : cs.size = 2) :
    (results fn tmps).run Try.prog w = .ok (.agg cs) w := by
  have hp' : tmps[2]?.getD undef = .pointer (some ⟨g, 0, none⟩) := by simpa using hp
  simp [results, h, hp', asAddr, run_loadVar_row (P := Try.prog) w g 24 24 cs (0, 0) _ hL Try.underlying24 rfl (by rw [hs]; rfl)]

set_option maxRecDepth 100000 in
set_option maxHeartbeats 4000000 in
theorem copies (b : Int) (l : List Tk) (a : Option Addr) (cap : Nat) {w : World} (hf : fewK l) (ht : Tasks w a cap l) :
    Calls Try.prog 17 #[.agg #[.int .i64 b, .slice a l.length cap]] w (Copied b l w) := by
  have HT := Lib.hid ht
  have HF := Lib.hid hf
  have hm : l.length ≤ 30 := hf.1
  have hmk := fun W => make_tasks l.length (by omega) W
  obtain ⟨V, hV⟩ : ∃ V, V = ((w.alloc (.cells #[.int .i64 b, .slice a l.length cap] 24)).alloc (.cells #[.int .i64 0, .slice none 0 0] 24)).alloc (.cells (madeCells zeroC (l.length * 11)) 32) := ⟨_, rfl⟩
  have HB0 : Hid (Below w.heap.size w V) := by rw [hV]; exact ((below_new _ _).alloc (by simp) _).alloc (by simp; omega) _
  have HX0 : Hid (Lies V w.heap.size 24 #[.int .i64 b, .slice a l.length cap]) := by rw [hV]; exact ((Lies.made _ _ _).alloc _).alloc _
  have HR0 := Lib.hid (show Lies V (w.heap.size + 1) 24 #[.int .i64 0, .slice none 0 0] by
    rw [hV]
    have := (Lies.made (w.alloc (.cells #[.int .i64 b, .slice a l.length cap] 24)) 24 #[.int .i64 0, .slice none 0 0]).alloc (.cells (madeCells zeroC (l.length * 11)) 32)
    simpa using this)
  have HT0 := Lib.hid (show TRow V (w.heap.size + 1 + 1) l.length [] by
    rw [hV]
    have := made_tasks ((w.alloc (.cells #[.int .i64 b, .slice a l.length cap] 24)).alloc (.cells #[.int .i64 0, .slice none 0 0] 24)) l.length
    simpa using this)
  have HVE := Lib.hid hV
  clear ht hf hV
  go_enter Try.func17, Try.ntmps17
  go_wp2
  clear hmk
  rw [← HVE.out]
  go_loopw [13] (fun i W => CopyRel b l a cap w i W) (fun i _ => l.length - (intOf i).toNat)
  case atStart => exact ⟨0, Nat.zero_le _, rfl, HB0.out, HX0.out, HR0.out, HT0.out⟩
  case round =>
    obtain ⟨k, hk, rfl, hbel, hbox, hres, htr⟩ := hrel
    have HB := Lib.hid hbel
    have HX := Lib.hid hbox
    have HR := Lib.hid hres
    have HTR := Lib.hid htr
    clear hbel hbox hres htr HB0 HX0 HR0 HT0 HVE
    by_cases hlt : k < l.length
    · have t1 : decide ((k : Int) < (l.length : Int)) = true := by simp; omega
      have hx : l[k]? = some l[k] := List.getElem?_eq_getElem hlt
      have HXK := Lib.hid hx
      obtain ⟨bb, off, rfl, hbl, x0, x1, x2, x3, x4, x5, x6, x7, x8, x9, x10⟩ := (HT.out.below (Nat.le_refl _) HB.out).cells hx
      have hsz := HF.out.2 _ (List.mem_of_getElem? hx)
      clear hx
      generalize l[k] = t at x0 x1 x2 x3 x4 x5 x6 x7 x8 x9 x10 HXK hsz
      obtain ⟨n, tT, tD, tC, tA, tS, tc, tM, tK, tO, tP⟩ := t
      simp only at x0 x1 x2 x3 x4 x5 x6 x7 x8 x9 x10 hsz
      have HLN := Lib.hid (Lies.made wr 32 #[.string n, .int .i64 tT, .int .i64 tD, .int .i64 tC, .int .i64 tA, .int .i64 tS, .int .i64 tc, .int .i64 tM, .int .i64 tK, .int .i64 tO, .int .i64 tP])
      have HBN := Lib.hid (below_new wr (.cells #[.string n, .int .i64 tT, .int .i64 tD, .int .i64 tC, .int .i64 tA, .int .i64 tS, .int .i64 tc, .int .i64 tM, .int .i64 tK, .int .i64 tO, .int .i64 tP] 32))
      have KC := Lib.hid (clone n (wr.alloc (.cells #[.string n, .int .i64 tT, .int .i64 tD, .int .i64 tC, .int .i64 tA, .int .i64 tS, .int .i64 tc, .int .i64 tM, .int .i64 tK, .int .i64 tO, .int .i64 tP] 32)) (by omega))
      have hsw := HTR.out.lt
      go_wp2_with (fail)
      with_reducible refine KC.out.mono ?_
      rintro e w1 ⟨rfl, hb1⟩
      have H1 := Lib.hid hb1
      have HL1 := Lib.hid (HLN.out.below hb1 HLN.out.lt)
      have HB1 := Lib.hid (HBN.out.trans (hb1.mono HBN.out.size))
      clear hb1 x0 x1 x2 x3 x4 x5 x6 x7 x8 x9 x10
      obtain ⟨g, hg⟩ : ∃ g, g = wr.heap.size := ⟨_, rfl⟩
      rw [← hg] at HL1 ⊢
      have hgg : w.heap.size + 1 + 1 < g := by omega
      have HG := Lib.hid hg
      clear hg
      have z0 : w1.cell? ⟨g, 0, none⟩ = some (.string n) := HL1.out.cell 0
      have z1 : w1.cell? ⟨g, 1, none⟩ = some (.int .i64 tT) := HL1.out.cell 1
      have z2 : w1.cell? ⟨g, 2, none⟩ = some (.int .i64 tD) := HL1.out.cell 2
      have z3 : w1.cell? ⟨g, 3, none⟩ = some (.int .i64 tC) := HL1.out.cell 3
      have z4 : w1.cell? ⟨g, 4, none⟩ = some (.int .i64 tA) := HL1.out.cell 4
      have z5 : w1.cell? ⟨g, 5, none⟩ = some (.int .i64 tS) := HL1.out.cell 5
      have z6 : w1.cell? ⟨g, 6, none⟩ = some (.int .i64 tc) := HL1.out.cell 6
      have z7 : w1.cell? ⟨g, 7, none⟩ = some (.int .i64 tM) := HL1.out.cell 7
      have z8 : w1.cell? ⟨g, 8, none⟩ = some (.int .i64 tK) := HL1.out.cell 8
      have z9 : w1.cell? ⟨g, 9, none⟩ = some (.int .i64 tO) := HL1.out.cell 9
      have z10 : w1.cell? ⟨g, 10, none⟩ = some (.int .i64 tP) := HL1.out.cell 10
      have f0 := HL1.out.thawed 0
      have HT2 := Lib.hid ((HTR.out.below HB1.out hsw).there (a := ⟨g, 0, none⟩) (by simp; omega) (.string n))
      have HX2 := Lib.hid ((HX.out.below HB1.out HX.out.lt).there (a := ⟨g, 0, none⟩) (by simp; omega) (.string n))
      have HR2 := Lib.hid ((HR.out.below HB1.out HR.out.lt).there (a := ⟨g, 0, none⟩) (by simp; omega) (.string n))
      have HB2 := Lib.hid ((HB.out.trans (HB1.out.mono HB.out.size)).setCell (p := ⟨g, 0, none⟩) (by simp; omega) (.string n))
      have HL2 : Hid (Lies (w1.setCell ⟨g, 0, none⟩ (.string n)) g 32 #[.string n, .int .i64 tT, .int .i64 tD, .int .i64 tC, .int .i64 tA, .int .i64 tS, .int .i64 tc, .int .i64 tM, .int .i64 tK, .int .i64 tO, .int .i64 tP]) := HL1.out.here 0 _
      go_upto_region 6 with fail
      generalize w1.setCell ⟨g, 0, none⟩ (.string n) = X at HT2 HX2 HR2 HB2 HL2 ⊢
      clear z0 z1 z2 z3 z4 z5 z6 z7 z8 z9 z10 f0
      have z0 : X.cell? ⟨g, 0, none⟩ = some (.string n) := HL2.out.cell 0
      have z1 : X.cell? ⟨g, 1, none⟩ = some (.int .i64 tT) := HL2.out.cell 1
      have z2 : X.cell? ⟨g, 2, none⟩ = some (.int .i64 tD) := HL2.out.cell 2
      have z3 : X.cell? ⟨g, 3, none⟩ = some (.int .i64 tC) := HL2.out.cell 3
      have z4 : X.cell? ⟨g, 4, none⟩ = some (.int .i64 tA) := HL2.out.cell 4
      have z5 : X.cell? ⟨g, 5, none⟩ = some (.int .i64 tS) := HL2.out.cell 5
      have z6 : X.cell? ⟨g, 6, none⟩ = some (.int .i64 tc) := HL2.out.cell 6
      have z7 : X.cell? ⟨g, 7, none⟩ = some (.int .i64 tM) := HL2.out.cell 7
      have z8 : X.cell? ⟨g, 8, none⟩ = some (.int .i64 tK) := HL2.out.cell 8
      have z9 : X.cell? ⟨g, 9, none⟩ = some (.int .i64 tO) := HL2.out.cell 9
      have z10 : X.cell? ⟨g, 10, none⟩ = some (.int .i64 tP) := HL2.out.cell 10
      have HTH := Lib.hid (HT2.out.room hlt)
      go_wp2_with ((with_reducible refine store_task ?_ (.tmp 25) (.tmp 24) ?_ (w.heap.size + 1 + 1) k ⟨n, tT, tD, tC, tA, tS, tc, tM, tK, tO, tP⟩ ?_ ?_ HTH.out ?_); rfl; rfl; rfl; rfl)
      have HT3 : Hid (TRow (X.setCells (w.heap.size + 1 + 1) (k * 11) (cellsK ⟨n, tT, tD, tC, tA, tS, tc, tM, tK, tO, tP⟩)) (w.heap.size + 1 + 1) l.length (l.take (k + 1))) := by
        have hlk : (l.take k).length = k := by rw [List.length_take]; omega
        have := HT2.out.put ⟨n, tT, tD, tC, tA, tS, tc, tM, tK, tO, tP⟩ (by omega)
        rw [hlk, ← take_next HXK.out] at this
        exact this
      have HX3 := Lib.hid (lies_other (g := w.heap.size + 1 + 1) (by omega) (cellsK ⟨n, tT, tD, tC, tA, tS, tc, tM, tK, tO, tP⟩) (k * 11) _ HX2.out)
      have HR3 := Lib.hid (lies_other (g := w.heap.size + 1 + 1) (by omega) (cellsK ⟨n, tT, tD, tC, tA, tS, tc, tM, tK, tO, tP⟩) (k * 11) _ HR2.out)
      have HB3 := Lib.hid (below_setCells (g := w.heap.size + 1 + 1) (by omega) (cellsK ⟨n, tT, tD, tC, tA, tS, tc, tM, tK, tO, tP⟩) (k * 11) _ HB2.out)
      go_roundw
      case rel => exact ⟨k + 1, by omega, by go_num, HB3.out, HX3.out, HR3.out, HT3.out⟩
      case measure => simp [intOf]; omega
    · have t1 : decide ((k : Int) < (l.length : Int)) = false := by simp; omega
      have t1' : decide (k < l.length) = false := by simp; omega
      have HT3 : Hid (TRow wr (w.heap.size + 1 + 1) l.length l) := by have := HTR.out; rw [List.take_of_length_le (by omega)] at this; exact this
      have y0 : wr.cell? ⟨w.heap.size, 0, none⟩ = some (.int .i64 b) := HX.out.cell 0
      have r0 : wr.cell? ⟨w.heap.size + 1, 0, none⟩ = some (.int .i64 0) := HR.out.cell 0
      have r1 : wr.cell? ⟨w.heap.size + 1, 1, none⟩ = some (.slice none 0 0) := HR.out.cell 1
      have f0 := HR.out.thawed 0
      have f1 := HR.out.thawed 1
      have HR4 : Hid (Lies ((wr.setCell ⟨w.heap.size + 1, 0, none⟩ (.int .i64 b)).setCell ⟨w.heap.size + 1, 1, none⟩ (.slice (some ⟨w.heap.size + 1 + 1, 0, none⟩) l.length l.length)) (w.heap.size + 1) 24 #[.int .i64 b, .slice (some ⟨w.heap.size + 1 + 1, 0, none⟩) l.length l.length]) := (HR.out.here 0 _).here 1 _
      have HT4 := Lib.hid ((HT3.out.there (a := ⟨w.heap.size + 1, 0, none⟩) (by simp) (.int .i64 b)).there (a := ⟨w.heap.size + 1, 1, none⟩) (by simp) (.slice (some ⟨w.heap.size + 1 + 1, 0, none⟩) l.length l.length))
      have HB4 := Lib.hid ((HB.out.setCell (p := ⟨w.heap.size + 1, 0, none⟩) (by simp) (.int .i64 b)).setCell (p := ⟨w.heap.size + 1, 1, none⟩) (by simp) (.slice (some ⟨w.heap.size + 1 + 1, 0, none⟩) l.length l.length))
      go_wp2
      (try simp only [Exit.inBlock, Exit.then])
      refine bodyPost_ret (results_set rfl _ _ (w.heap.size + 1) _ rfl HR4.out rfl) rfl ?_
      exact ⟨_, rfl, HB4.out, by omega, HT4.out⟩
end Go.Proofs.Ytkldpbehjbecnaa
