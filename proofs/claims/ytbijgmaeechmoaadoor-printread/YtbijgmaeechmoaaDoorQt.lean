/- The statements' own line of a task. -/
import Derived.Test.YtbijgmaeechmoaaDoorQn
import Derived.Lib.QuietBelow
namespace Go.Proofs.YtbijgmaeechmoaaDoor
open Go.RowKit Kx
set_option maxRecDepth 100000

theorem itoa_len {n : Int} (h : Wide n) : (Lib.itoa n).length ≤ 21 := Lib.itoa_length_le n h.1 h.2

set_option maxHeartbeats 4000000 in
theorem refTask (t : Tk) (w : World) (hr : Room t) : Calls Tryd.prog 11 #[aggK t] w (Makes (.string ⟨(lineW t).toArray⟩) w) := by
  obtain ⟨n, tT, tD, tC, tA, tS, tc, tM, tK, tO, tP⟩ := t
  simp only [aggK]
  obtain ⟨g, hg⟩ : ∃ g, g = w.heap.size := ⟨_, rfl⟩
  have HG := Lib.hid hg
  obtain ⟨V, hV⟩ : ∃ V, V = w.alloc (.cells #[.string n, .int .i64 tT, .int .i64 tD, .int .i64 tC, .int .i64 tA, .int .i64 tS, .int .i64 tc, .int .i64 tM, .int .i64 tK, .int .i64 tO, .int .i64 tP] 26) := ⟨_, rfl⟩
  have HV := Lib.hid hV
  have HBV := Lib.hid (show Below g w V by rw [hV, hg]; exact below_new _ _)
  have HL := Lib.hid (show Lies V g 26 #[.string n, .int .i64 tT, .int .i64 tD, .int .i64 tC, .int .i64 tA, .int .i64 tS, .int .i64 tc, .int .i64 tM, .int .i64 tK, .int .i64 tO, .int .i64 tP] by rw [hV, hg]; exact Lies.made _ _ _)
  have hgV : g ≤ V.heap.size := Nat.le_of_lt HL.out.lt
  have hnm : n.size ≤ 1000 := hr.name
  have HE := Lib.hid (show lineW ⟨n, tT, tD, tC, tA, tS, tc, tM, tK, tO, tP⟩ = [116, 97, 115, 107, 32] ++ n.data.toList ++ [32] ++ Lib.itoa tT ++ [32] ++ Lib.itoa tD ++ [32] ++ Lib.itoa tC ++ [32] ++ modeW tO ++ [32] ++ Lib.itoa tA ++ [32] ++ Lib.itoa tS ++ [32] ++ Lib.itoa tc ++ [32] ++ Lib.itoa tM ++ [32] ++ Lib.itoa tK ++ [32] ++ Lib.itoa tP by simp [lineW, sTask, numsW])
  generalize lineW ⟨n, tT, tD, tC, tA, tS, tc, tM, tK, tO, tP⟩ = L at HE ⊢
  have K1 := Lib.hid (number tT hr.T)
  have K2 := Lib.hid (number tD hr.D)
  have K3 := Lib.hid (number tC hr.C)
  have K4 := Lib.hid (number tA hr.A)
  have K5 := Lib.hid (number tS hr.Seg)
  have K6 := Lib.hid (number tc hr.Cost)
  have K7 := Lib.hid (number tM hr.M)
  have K8 := Lib.hid (number tK hr.K)
  have K9 := Lib.hid (refMode tO)
  have K10 := Lib.hid (number tP hr.Prio)
  have l1 := itoa_len hr.T
  have l2 := itoa_len hr.D
  have l3 := itoa_len hr.C
  have l4 := itoa_len hr.A
  have l5 := itoa_len hr.Seg
  have l6 := itoa_len hr.Cost
  have l7 := itoa_len hr.M
  have l8 := itoa_len hr.K
  have l9 := modeW_len tO
  have l10 := itoa_len hr.Prio
  simp only at l1 l2 l3 l4 l5 l6 l7 l8 l10
  clear hr hg hV
  generalize Lib.itoa tT = X1 at HE K1 l1
  generalize Lib.itoa tD = X2 at HE K2 l2
  generalize Lib.itoa tC = X3 at HE K3 l3
  generalize Lib.itoa tA = X4 at HE K4 l4
  generalize Lib.itoa tS = X5 at HE K5 l5
  generalize Lib.itoa tc = X6 at HE K6 l6
  generalize Lib.itoa tM = X7 at HE K7 l7
  generalize Lib.itoa tK = X8 at HE K8 l8
  generalize modeW tO = X9 at HE K9 l9
  generalize Lib.itoa tP = X10 at HE K10 l10
  have x0 : V.cell? ⟨g, 0, none⟩ = some (.string n) := HL.out.cell 0
  have x1 : V.cell? ⟨g, 1, none⟩ = some (.int .i64 tT) := HL.out.cell 1
  have x2 : V.cell? ⟨g, 2, none⟩ = some (.int .i64 tD) := HL.out.cell 2
  have x3 : V.cell? ⟨g, 3, none⟩ = some (.int .i64 tC) := HL.out.cell 3
  have x9 : V.cell? ⟨g, 9, none⟩ = some (.int .i64 tO) := HL.out.cell 9
  have k0 := cell_regrown x0
  have k1 := cell_regrown x1
  have k2 := cell_regrown x2
  have k3 := cell_regrown x3
  have k9 := cell_regrown x9
  have c1 := fun d os => Calls.regrown_of (w := V) (d := d) (os := os) (v := .string ⟨X1.toArray⟩) (K1.out _)
  have c2 := fun d os => Calls.regrown_of (w := V) (d := d) (os := os) (v := .string ⟨X2.toArray⟩) (K2.out _)
  have c3 := fun d os => Calls.regrown_of (w := V) (d := d) (os := os) (v := .string ⟨X3.toArray⟩) (K3.out _)
  have c9 := fun d os => Calls.regrown_of (w := V) (d := d) (os := os) (v := .string ⟨X9.toArray⟩) (K9.out _)
  go_enter Tryd.func11, Tryd.ntmps11
  go_upto_region 1 with fail
  rw [← HV.out]
  try rw [← HG.out]
  refine wp_region_quiet_below (by kernel_rfl) (by kernel_rfl) ?_
  repeat (go_big_quiet_step (with_reducible first | exact c1 _ _ | exact c2 _ _ | exact c3 _ _ | exact c9 _ _))
  refine wpQuiet_nil ?_
  intro U hw'
  obtain ⟨⟨dq, osq⟩, hw''⟩ := hw'
  have HB1 := Lib.hid (show Below g w U by rw [hw'']; exact HBV.out.trans ((below_regrown V dq osq).mono hgV))
  have HL1 := Lib.hid (show Lies U g 26 #[.string n, .int .i64 tT, .int .i64 tD, .int .i64 tC, .int .i64 tA, .int .i64 tS, .int .i64 tc, .int .i64 tM, .int .i64 tK, .int .i64 tO, .int .i64 tP] by rw [hw'']; exact HL.out.below (below_regrown V dq osq) HL.out.lt)
  clear hw''
  obtain ⟨S, hS⟩ : ∃ S : ByteArray, S = ⟨#[116, 97, 115, 107, 32]⟩ ++ n ++ ⟨#[32]⟩ ++ ⟨X1.toArray⟩ ++ ⟨#[32]⟩ ++ ⟨X2.toArray⟩ ++ ⟨#[32]⟩ ++ ⟨X3.toArray⟩ ++ ⟨#[32]⟩ ++ ⟨X9.toArray⟩ := ⟨_, rfl⟩
  rw [← hS]
  have hSl : S.data.toList = [116, 97, 115, 107, 32] ++ n.data.toList ++ [32] ++ X1 ++ [32] ++ X2 ++ [32] ++ X3 ++ [32] ++ X9 := by rw [hS]; simp only [Joins.data_append]
  have hSs : S.size ≤ 1100 := by
    rw [← name_len S, hSl]
    simp only [List.length_append, List.length_cons, List.length_nil, name_len]
    omega
  have HSL := Lib.hid hSl
  clear hS hSl k0 k1 k2 k3 k9 c1 c2 c3 c9 x0 x1 x2 x3 x9 K1 K2 K3 K9 l1 l2 l3 l9 HL HBV hnm
  have hgU : g ≤ U.heap.size := Nat.le_of_lt HL1.out.lt
  have x4 : U.cell? ⟨g, 4, none⟩ = some (.int .i64 tA) := HL1.out.cell 4
  have x5 : U.cell? ⟨g, 5, none⟩ = some (.int .i64 tS) := HL1.out.cell 5
  have x6 : U.cell? ⟨g, 6, none⟩ = some (.int .i64 tc) := HL1.out.cell 6
  have x7 : U.cell? ⟨g, 7, none⟩ = some (.int .i64 tM) := HL1.out.cell 7
  have x8 : U.cell? ⟨g, 8, none⟩ = some (.int .i64 tK) := HL1.out.cell 8
  have x10 : U.cell? ⟨g, 10, none⟩ = some (.int .i64 tP) := HL1.out.cell 10
  have k4 := cell_regrown x4
  have k5 := cell_regrown x5
  have k6 := cell_regrown x6
  have k7 := cell_regrown x7
  have k8 := cell_regrown x8
  have k10 := cell_regrown x10
  have c4 := fun d os => Calls.regrown_of (w := U) (d := d) (os := os) (v := .string ⟨X4.toArray⟩) (K4.out _)
  have c5 := fun d os => Calls.regrown_of (w := U) (d := d) (os := os) (v := .string ⟨X5.toArray⟩) (K5.out _)
  have c6 := fun d os => Calls.regrown_of (w := U) (d := d) (os := os) (v := .string ⟨X6.toArray⟩) (K6.out _)
  have c7 := fun d os => Calls.regrown_of (w := U) (d := d) (os := os) (v := .string ⟨X7.toArray⟩) (K7.out _)
  have c8 := fun d os => Calls.regrown_of (w := U) (d := d) (os := os) (v := .string ⟨X8.toArray⟩) (K8.out _)
  have c10 := fun d os => Calls.regrown_of (w := U) (d := d) (os := os) (v := .string ⟨X10.toArray⟩) (K10.out _)
  clear K4 K5 K6 K7 K8 K10
  go_upto_region 2 with fail
  refine wp_region_quiet_below (by kernel_rfl) (by kernel_rfl) ?_
  repeat (go_big_quiet_step (with_reducible first | exact c4 _ _ | exact c5 _ _ | exact c6 _ _ | exact c7 _ _ | exact c8 _ _ | exact c10 _ _))
  refine wpQuiet_nil ?_
  intro _ hw'
  obtain ⟨⟨dq, osq⟩, hw''⟩ := hw'
  subst hw''
  go_wp2
  go_ret
  refine ⟨?_, ?_⟩
  · refine congrArg (fun x => Ending.returned (Value.string x)) (text_eq ?_)
    rw [HE.out]
    simp only [Joins.data_append, HSL.out]
  · have := HB1.out.trans ((below_regrown U dq osq).mono hgU)
    rw [HG.out] at this
    exact this
end Go.Proofs.YtbijgmaeechmoaaDoor
