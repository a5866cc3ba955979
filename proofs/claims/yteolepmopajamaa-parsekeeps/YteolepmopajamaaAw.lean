/- The program is awake: answers that the document fixes. -/
import Derived.Test.YteolepmopajamaaSe
import Derived.Test.YteolepmopajamaaLAw
namespace Go.Proofs.Yteolepmopajamaa
open Go.RowKit Lx Kx

def txt1 : List UInt8 := [98, 117, 114, 115, 116, 32, 50, 10, 116, 97, 115, 107, 32, 97, 32, 57, 32, 56, 32, 51, 32, 114, 101, 116, 114, 121, 32, 48, 32, 50, 32, 49, 32, 49, 32, 50, 32, 53]
def txt2 : List UInt8 := [98, 117, 114, 115, 116, 32, 49]
def txt3 : List UInt8 := [98, 117, 114, 115, 116, 32, 97]
def tA : Tk := ⟨⟨#[97]⟩, 9, 8, 3, 0, 2, 1, 1, 2, 1, 5⟩
set_option maxRecDepth 100000 in
theorem set1 : setA txt1 = ((2, [tA]), 0, 0, 0) := by kernel_rfl
theorem set2 : setA txt2 = ((0, []), 1, 1, 8) := by kernel_rfl
theorem set3 : setA txt3 = ((0, []), 5, 1, 7) := by kernel_rfl
/-- A literal, converted and read. -/
theorem lit_set (l : List UInt8) (w : World) (hl : l.length ≤ 100000) : Calls Try.prog 10 #[.slice (some ⟨w.heap.size, 0, none⟩) l.length l.length] (w.alloc (litO l)) (Parsed (setA l) (w.alloc (litO l))) :=
  set l _ _ hl (bytes_lit w l)

def Gave (B E L C : Int) (n : Nat) (l : List Tk) (w : World) (e : Ending) (w' : World) : Prop :=
  ∃ A c, e = .returned (.tuple #[.agg #[.int .i64 B, .slice A n c], .agg #[.int .i64 E, .int .i64 L, .int .i64 C]]) ∧ Tasks w' A c l ∧ Below w.heap.size w w'
theorem gave1 (w : World) : Calls Try.prog 10 #[.slice (some ⟨w.heap.size, 0, none⟩) 38 38] (w.alloc (litO txt1)) (Gave 2 0 0 0 1 [tA] w) := by
  have := lit_set txt1 w (by decide)
  rw [set1] at this
  exact this.mono fun e w' ⟨A, c, he, h1, h2, h3⟩ => ⟨A, c, he, h1, (below_new w (litO txt1)).trans (h3.mono (below_new w (litO txt1)).size)⟩
theorem gave2 (w : World) : Calls Try.prog 10 #[.slice (some ⟨w.heap.size, 0, none⟩) 7 7] (w.alloc (litO txt2)) (Gave 0 1 1 8 0 [] w) := by
  have := lit_set txt2 w (by decide)
  rw [set2] at this
  exact this.mono fun e w' ⟨A, c, he, h1, h2, h3⟩ => ⟨A, c, he, h1, (below_new w (litO txt2)).trans (h3.mono (below_new w (litO txt2)).size)⟩
theorem gave3 (w : World) : Calls Try.prog 10 #[.slice (some ⟨w.heap.size, 0, none⟩) 7 7] (w.alloc (litO txt3)) (Gave 0 5 1 7 0 [] w) := by
  have := lit_set txt3 w (by decide)
  rw [set3] at this
  exact this.mono fun e w' ⟨A, c, he, h1, h2, h3⟩ => ⟨A, c, he, h1, (below_new w (litO txt3)).trans (h3.mono (below_new w (litO txt3)).size)⟩

set_option maxRecDepth 100000 in
set_option maxHeartbeats 8000000 in
theorem awake (w : World) : Calls Try.prog 9 #[] w (Woke w) := by
  have hc1 : (convert 22 22 (.slice (some ⟨w.heap.size, 0, none⟩) 38 38)).run Try.prog (w.alloc (.cells #[.int .u8 98, .int .u8 117, .int .u8 114, .int .u8 115, .int .u8 116, .int .u8 32, .int .u8 50, .int .u8 10, .int .u8 116, .int .u8 97, .int .u8 115, .int .u8 107, .int .u8 32, .int .u8 97, .int .u8 32, .int .u8 57, .int .u8 32, .int .u8 56, .int .u8 32, .int .u8 51, .int .u8 32, .int .u8 114, .int .u8 101, .int .u8 116, .int .u8 114, .int .u8 121, .int .u8 32, .int .u8 48, .int .u8 32, .int .u8 50, .int .u8 32, .int .u8 49, .int .u8 32, .int .u8 49, .int .u8 32, .int .u8 50, .int .u8 32, .int .u8 53] 5)) = .ok (.slice (some ⟨w.heap.size, 0, none⟩) 38 38) (w.alloc (litO txt1)) := conv_lit w _ 38 38
  have K1 := Lib.hid (gave1 w)
  go_enter Try.func9, Try.ntmps9
  go_wp2_with (fail)
  with_reducible refine K1.out.mono ?_
  rintro e w1 ⟨A, c, rfl, hta, hb1⟩
  have HB1 := Lib.hid hb1
  have HT1 := Lib.hid hta
  clear hta hb1 hc1
  go_upto_region 2 with fail
  generalize hV : (w1.alloc (.cells #[.int .i64 2, .slice A 1 c] 26)).alloc (.cells #[.int .i64 0, .int .i64 0, .int .i64 0] 29) = V
  have HBV : Hid (Below w1.heap.size w1 V) := by rw [← hV]; exact (below_new _ _).alloc (by simp) _
  have HS1 : Hid (Lies V w1.heap.size 26 #[.int .i64 2, .slice A 1 c]) := by rw [← hV]; exact (Lies.made _ _ _).alloc _
  have HE1 := Lib.hid (show Lies V (w1.heap.size + 1) 29 #[.int .i64 0, .int .i64 0, .int .i64 0] by
    rw [← hV]
    have := Lies.made (w1.alloc (.cells #[.int .i64 2, .slice A 1 c] 26)) 29 #[.int .i64 0, .int .i64 0, .int .i64 0]
    simpa using this)
  clear hV
  have hc2 : (convert 22 22 (.slice (some ⟨V.heap.size, 0, none⟩) 7 7)).run Try.prog (V.alloc (.cells #[.int .u8 98, .int .u8 117, .int .u8 114, .int .u8 115, .int .u8 116, .int .u8 32, .int .u8 49] 5)) = .ok (.slice (some ⟨V.heap.size, 0, none⟩) 7 7) (V.alloc (litO txt2)) := conv_lit V _ 7 7
  have K2 := Lib.hid (gave2 V)
  go_wp2_with (fail)
  with_reducible refine K2.out.mono ?_
  rintro e w2 ⟨A2, c2, rfl, _, hb2⟩
  have HB2 := Lib.hid hb2
  clear hb2 hc2
  go_upto_region 3 with fail
  generalize hV : (w2.alloc (.cells #[.int .i64 0, .slice A2 0 c2] 26)).alloc (.cells #[.int .i64 1, .int .i64 1, .int .i64 8] 29) = V'
  have HBV' : Hid (Below w2.heap.size w2 V') := by rw [← hV]; exact (below_new _ _).alloc (by simp) _
  have HE2 := Lib.hid (show Lies V' (w2.heap.size + 1) 29 #[.int .i64 1, .int .i64 1, .int .i64 8] by
    rw [← hV]
    have := Lies.made (w2.alloc (.cells #[.int .i64 0, .slice A2 0 c2] 26)) 29 #[.int .i64 1, .int .i64 1, .int .i64 8]
    simpa using this)
  clear hV
  have hc3 : (convert 22 22 (.slice (some ⟨V'.heap.size, 0, none⟩) 7 7)).run Try.prog (V'.alloc (.cells #[.int .u8 98, .int .u8 117, .int .u8 114, .int .u8 115, .int .u8 116, .int .u8 32, .int .u8 97] 5)) = .ok (.slice (some ⟨V'.heap.size, 0, none⟩) 7 7) (V'.alloc (litO txt3)) := conv_lit V' _ 7 7
  have K3 := Lib.hid (gave3 V')
  go_wp2_with (fail)
  with_reducible refine K3.out.mono ?_
  rintro e w3 ⟨A3, c3, rfl, _, hb3⟩
  have HB3 := Lib.hid hb3
  clear hb3 hc3
  go_upto_region 5 with fail
  generalize hV : ((w3.alloc (.cells #[.int .i64 0, .slice A3 0 c3] 26)).alloc (.cells #[.int .i64 5, .int .i64 1, .int .i64 7] 29)).alloc (.cells #[.string ⟨#[97]⟩, .int .i64 9, .int .i64 8, .int .i64 3, .int .i64 0, .int .i64 2, .int .i64 1, .int .i64 1, .int .i64 2, .int .i64 1, .int .i64 5] 40) = Z
  have HBZ : Hid (Below w3.heap.size w3 Z) := by rw [← hV]; exact ((below_new _ _).alloc (by simp) _).alloc (by simp; omega) _
  have HE3 := Lib.hid (show Lies Z (w3.heap.size + 1) 29 #[.int .i64 5, .int .i64 1, .int .i64 7] by
    rw [← hV]
    have := (Lies.made (w3.alloc (.cells #[.int .i64 0, .slice A3 0 c3] 26)) 29 #[.int .i64 5, .int .i64 1, .int .i64 7]).alloc (.cells #[.string ⟨#[97]⟩, .int .i64 9, .int .i64 8, .int .i64 3, .int .i64 0, .int .i64 2, .int .i64 1, .int .i64 1, .int .i64 2, .int .i64 1, .int .i64 5] 40)
    simpa using this)
  have HW := Lib.hid (show Lies Z (w3.heap.size + 1 + 1) 40 #[.string ⟨#[97]⟩, .int .i64 9, .int .i64 8, .int .i64 3, .int .i64 0, .int .i64 2, .int .i64 1, .int .i64 1, .int .i64 2, .int .i64 1, .int .i64 5] by
    rw [← hV]
    have := Lies.made ((w3.alloc (.cells #[.int .i64 0, .slice A3 0 c3] 26)).alloc (.cells #[.int .i64 5, .int .i64 1, .int .i64 7] 29)) 40 #[.string ⟨#[97]⟩, .int .i64 9, .int .i64 8, .int .i64 3, .int .i64 0, .int .i64 2, .int .i64 1, .int .i64 1, .int .i64 2, .int .i64 1, .int .i64 5]
    simpa using this)
  clear hV
  have HV'Z := Lib.hid (HB3.out.trans (HBZ.out.mono HB3.out.size))
  have H2Z := Lib.hid (HBV'.out.trans (HV'Z.out.mono HBV'.out.size))
  have HVZ := Lib.hid (HB2.out.trans (H2Z.out.mono HB2.out.size))
  have H1Z := Lib.hid (HBV.out.trans (HVZ.out.mono HBV.out.size))
  have HWZ := Lib.hid (HB1.out.trans (H1Z.out.mono HB1.out.size))
  have HS1Z := Lib.hid (HS1.out.below HVZ.out HS1.out.lt)
  have HE1Z := Lib.hid (HE1.out.below HVZ.out HE1.out.lt)
  have HE2Z := Lib.hid (HE2.out.below HV'Z.out HE2.out.lt)
  obtain ⟨b, off, rfl, _, u0, u1, u2, u3, u4, u5, u6, u7, u8, u9, u10⟩ := (HT1.out.below (Nat.le_refl _) H1Z.out).cells (i := 0) (t := tA) rfl
  simp only [Nat.zero_mul, Nat.add_zero, tA] at u0 u1 u2 u3 u4 u5 u6 u7 u8 u9 u10
  have hcp := HT1.out.le
  simp only [List.length_cons, List.length_nil] at hcp
  have a0 : Z.cell? ⟨w1.heap.size, 0, none⟩ = some (.int .i64 2) := (HS1Z.out.cell 0).trans rfl
  have a1 : Z.cell? ⟨w1.heap.size, 1, none⟩ = some (.slice (some ⟨b, off, none⟩) 1 c) := (HS1Z.out.cell 1).trans rfl
  have b0 : Z.cell? ⟨w1.heap.size + 1, 0, none⟩ = some (.int .i64 0) := (HE1Z.out.cell 0).trans rfl
  have b1 : Z.cell? ⟨w1.heap.size + 1, 1, none⟩ = some (.int .i64 0) := (HE1Z.out.cell 1).trans rfl
  have b2 : Z.cell? ⟨w1.heap.size + 1, 2, none⟩ = some (.int .i64 0) := (HE1Z.out.cell 2).trans rfl
  have d0 : Z.cell? ⟨w2.heap.size + 1, 0, none⟩ = some (.int .i64 1) := (HE2Z.out.cell 0).trans rfl
  have d1 : Z.cell? ⟨w2.heap.size + 1, 1, none⟩ = some (.int .i64 1) := (HE2Z.out.cell 1).trans rfl
  have d2 : Z.cell? ⟨w2.heap.size + 1, 2, none⟩ = some (.int .i64 8) := (HE2Z.out.cell 2).trans rfl
  have e0 : Z.cell? ⟨w3.heap.size + 1, 0, none⟩ = some (.int .i64 5) := (HE3.out.cell 0).trans rfl
  have e1 : Z.cell? ⟨w3.heap.size + 1, 1, none⟩ = some (.int .i64 1) := (HE3.out.cell 1).trans rfl
  have e2 : Z.cell? ⟨w3.heap.size + 1, 2, none⟩ = some (.int .i64 7) := (HE3.out.cell 2).trans rfl
  have v0 : Z.cell? ⟨w3.heap.size + 1 + 1, 0, none⟩ = some (.string ⟨#[97]⟩) := (HW.out.cell 0).trans rfl
  have v1 : Z.cell? ⟨w3.heap.size + 1 + 1, 1, none⟩ = some (.int .i64 9) := (HW.out.cell 1).trans rfl
  have v2 : Z.cell? ⟨w3.heap.size + 1 + 1, 2, none⟩ = some (.int .i64 8) := (HW.out.cell 2).trans rfl
  have v3 : Z.cell? ⟨w3.heap.size + 1 + 1, 3, none⟩ = some (.int .i64 3) := (HW.out.cell 3).trans rfl
  have v4 : Z.cell? ⟨w3.heap.size + 1 + 1, 4, none⟩ = some (.int .i64 0) := (HW.out.cell 4).trans rfl
  have v5 : Z.cell? ⟨w3.heap.size + 1 + 1, 5, none⟩ = some (.int .i64 2) := (HW.out.cell 5).trans rfl
  have v6 : Z.cell? ⟨w3.heap.size + 1 + 1, 6, none⟩ = some (.int .i64 1) := (HW.out.cell 6).trans rfl
  have v7 : Z.cell? ⟨w3.heap.size + 1 + 1, 7, none⟩ = some (.int .i64 1) := (HW.out.cell 7).trans rfl
  have v8 : Z.cell? ⟨w3.heap.size + 1 + 1, 8, none⟩ = some (.int .i64 2) := (HW.out.cell 8).trans rfl
  have v9 : Z.cell? ⟨w3.heap.size + 1 + 1, 9, none⟩ = some (.int .i64 1) := (HW.out.cell 9).trans rfl
  have v10 : Z.cell? ⟨w3.heap.size + 1 + 1, 10, none⟩ = some (.int .i64 5) := (HW.out.cell 10).trans rfl
  clear HB1 HT1 HBV HS1 HE1 HB2 HBV' HE2 HB3 HBZ K1 K2 K3 HS1Z HE1Z HE2Z HE3 HW HV'Z H2Z HVZ H1Z
  have M1 := Lib.hid (fun w => mode [98, 108, 111, 99, 107] w)
  have M2 := Lib.hid (fun w => mode [] w)
  have hm1 : modeF [98, 108, 111, 99, 107] = 2 := by decide
  have hm2 : modeF [] = 0 := by decide
  rw [hm1] at M1
  rw [hm2] at M2
  clear hm1 hm2
  go_quiet (first | exact (M1.out _).mono fun _ _ h => ⟨h.1, _, h.2.symm⟩ | exact (M2.out _).mono fun _ _ h => ⟨h.1, _, h.2.symm⟩)
  go_wp2
  go_ret
  exact ⟨rfl, below_drewN HWZ.out _⟩
end Go.Proofs.Yteolepmopajamaa
