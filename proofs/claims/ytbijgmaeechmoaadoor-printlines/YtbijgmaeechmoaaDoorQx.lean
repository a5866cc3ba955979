/- The statements' own digits. The statements' own line of a task. The statements' own text of a set. -/
import Derived.Test.YtbijgmaeechmoaaDoorPx
import Derived.Test.YtbijgmaeechmoaaDoorLBa
import Derived.Lib.SmallJoins
import Derived.Lib.QuietBelow
namespace Go.Proofs.YtbijgmaeechmoaaDoor
open Go.RowKit Kx Lx
set_option maxRecDepth 100000

set_option maxHeartbeats 1000000 in
theorem digits1 (n : Nat) (hn : n < 10) (w : World) : Calls Tryd.prog 35 #[.int .u64 (n : Int)] w (Makes (.string ⟨(Lib.decDigits n).toArray⟩) w) := by
  have t1 : decide ((n : Int) < 10) = true := by simp; omega
  have hC := (bytes_one w (UInt8.ofNat (48 + n)) (z := 48 + (n : Int)) (by rw [dig_toNat hn]; simp)).whole 1
  rw [dec_small hn]
  generalize [UInt8.ofNat (48 + n)].toArray = S at hC ⊢
  simp only [List.length_cons, List.length_nil, Nat.zero_add] at hC
  go_enter Tryd.func35, Tryd.ntmps35
  go_wp2
  go_ret
  exact ⟨rfl, below_new _ _⟩
theorem text_eq {a b : ByteArray} (h : a.data.toList = b.data.toList) : a = b := by
  cases a; cases b
  simp only [ByteArray.mk.injEq]
  exact Array.toList_inj.1 h
theorem text_append (a b : List UInt8) : (⟨a.toArray⟩ : ByteArray) ++ (⟨b.toArray⟩ : ByteArray) = ⟨(a ++ b).toArray⟩ :=
  text_eq (by rw [Joins.data_append])

theorem dec_len : ∀ (k n : Nat), n < 10 ^ (k + 1) → (Lib.decDigits n).length ≤ k + 1
  | 0, n, h => by rw [dec_small (by simpa using h)]; simp
  | k + 1, n, h => by
    by_cases h10 : n < 10
    · rw [dec_small h10]; simp
    · rw [dec_big h10, List.length_append]
      have := dec_len k (n / 10) (by rw [Nat.pow_succ] at h; omega)
      simp; omega
theorem dec_len20 {n : Nat} (h : n < 18446744073709551616) : (Lib.decDigits n).length ≤ 20 := dec_len 19 n (Nat.lt_of_lt_of_le h (by decide))

set_option maxHeartbeats 1000000 in
theorem digits_ (n : Nat) : n < 18446744073709551616 → ∀ w, Calls Tryd.prog 35 #[.int .u64 (n : Int)] w (Makes (.string ⟨(Lib.decDigits n).toArray⟩) w) := by
  induction n using Nat.strongRecOn with
  | _ n ih =>
    intro hn w
    by_cases h10 : n < 10
    · exact digits1 n h10 w
    · have t1 : decide ((n : Int) < 10) = false := by simp; omega
      have k1 := ih (n / 10) (by omega) (by omega)
      have k2 := fun w => digits1 (n % 10) (by omega) w
      rw [show (((n / 10 : Nat)) : Int) = (n : Int) / 10 by omega] at k1
      rw [show (((n % 10 : Nat)) : Int) = (n : Int) % 10 by omega] at k2
      have HD := Lib.hid (show Lib.decDigits n = Lib.decDigits (n / 10) ++ Lib.decDigits (n % 10) by rw [dec_big h10, dec_small (u := n % 10) (by omega)])
      have K1 := Lib.hid k1
      have K2 := Lib.hid k2
      have l1 : (Lib.decDigits (n / 10)).length ≤ 20 := dec_len20 (by omega)
      have l2 : (Lib.decDigits (n % 10)).length ≤ 20 := dec_len20 (by omega)
      clear ih k1 k2
      generalize Lib.decDigits n = D at HD ⊢
      generalize Lib.decDigits (n / 10) = E at HD K1 l1
      generalize Lib.decDigits (n % 10) = F at HD K2 l2
      go_enter Tryd.func35, Tryd.ntmps35
      go_wp2_with (fail)
      with_reducible refine (K1.out _).mono ?_
      rintro e w1 ⟨rfl, hb1⟩
      have H1 := Lib.hid hb1
      clear hb1
      go_wp2_with (fail)
      with_reducible refine (K2.out _).mono ?_
      rintro e w2 ⟨rfl, hb2⟩
      have H2 := Lib.hid (H1.out.trans (hb2.mono H1.out.size))
      clear hb2
      go_wp2
      go_ret
      refine ⟨?_, H2.out⟩
      rw [HD.out, ← text_append]
      rfl
set_option maxHeartbeats 1000000 in
/-- The statements' own number. -/
theorem number (n : Int) (hn : Wide n) (w : World) : Calls Tryd.prog 24 #[.int .i64 n] w (Makes (.string ⟨(Lib.itoa n).toArray⟩) w) := by
  obtain ⟨h0, h1⟩ := hn
  by_cases hneg : n < 0
  · have t1 : decide (n < 0) = true := decide_eq_true hneg
    have k := digits_ n.natAbs (by omega)
    rw [show ((n.natAbs : Nat) : Int) = -(n + 1) + 1 by omega] at k
    have K := Lib.hid k
    have HD := Lib.hid (show Lib.itoa n = [45] ++ Lib.decDigits n.natAbs from if_pos hneg)
    clear k
    have l1 : (Lib.decDigits n.natAbs).length ≤ 20 := dec_len20 (by omega)
    generalize Lib.itoa n = D at HD ⊢
    generalize Lib.decDigits n.natAbs = E at HD K l1
    go_enter Tryd.func24, Tryd.ntmps24
    go_wp2_with (fail)
    with_reducible refine (K.out _).mono ?_
    rintro e w1 ⟨rfl, hb1⟩
    have H1 := Lib.hid hb1
    clear hb1
    go_wp2
    go_ret
    refine ⟨?_, H1.out⟩
    rw [HD.out, ← text_append]
    rfl
  · have t1 : decide (n < 0) = false := decide_eq_false hneg
    have k := digits_ n.toNat (by omega)
    rw [show ((n.toNat : Nat) : Int) = n by omega] at k
    have K := Lib.hid k
    have HD := Lib.hid (show Lib.itoa n = Lib.decDigits n.toNat from if_neg hneg)
    clear k
    generalize Lib.itoa n = D at HD ⊢
    generalize Lib.decDigits n.toNat = E at HD K
    go_enter Tryd.func24, Tryd.ntmps24
    go_wp2_with (fail)
    with_reducible refine (K.out _).mono ?_
    rintro e w1 ⟨rfl, hb1⟩
    have H1 := Lib.hid hb1
    clear hb1
    go_wp2
    go_ret
    exact ⟨by rw [HD.out]; rfl, H1.out⟩
set_option maxHeartbeats 1000000 in
/-- The statements' own word of a mode. -/
theorem refMode (m : Int) (w : World) : Calls Tryd.prog 13 #[.int .i64 m] w (Makes (.string ⟨(modeW m).toArray⟩) w) := by
  have HB := Lib.hid (below_new w (.cells #[.string ⟨#[110, 111, 110, 101]⟩, .string ⟨#[114, 101, 116, 114, 121]⟩, .string ⟨#[98, 108, 111, 99, 107]⟩, .string ⟨#[98, 97, 99, 107, 117, 112]⟩] 9))
  by_cases h0 : m < 0
  · have e0 : decide (m < 0) = true := decide_eq_true h0
    have HW := Lib.hid (show modeW m = [110, 111, 110, 101] by unfold modeW; rw [if_neg (by omega), if_neg (by omega), if_neg (by omega)])
    generalize modeW m = M at HW ⊢
    go_enter Tryd.func13, Tryd.ntmps13
    go_wp2
    go_ret
    exact ⟨by rw [HW.out]; rfl, HB.out⟩
  · have e0 : decide (m < 0) = false := decide_eq_false h0
    by_cases h3 : 3 < m
    · have e3 : decide (3 < m) = true := decide_eq_true h3
      have HW := Lib.hid (show modeW m = [110, 111, 110, 101] by unfold modeW; rw [if_neg (by omega), if_neg (by omega), if_neg (by omega)])
      generalize modeW m = M at HW ⊢
      go_enter Tryd.func13, Tryd.ntmps13
      go_wp2
      go_ret
      exact ⟨by rw [HW.out]; rfl, HB.out⟩
    · have hm : m = 0 ∨ m = 1 ∨ m = 2 ∨ m = 3 := by omega
      clear e0 h0 h3
      rcases hm with rfl | rfl | rfl | rfl
      all_goals
        go_enter Tryd.func13, Tryd.ntmps13
        go_wp2
        go_ret
        exact ⟨rfl, HB.out⟩
end Go.Proofs.YtbijgmaeechmoaaDoor
namespace Go.Proofs.YtbijgmaeechmoaaDoor
open Go.RowKit Kx
set_option maxRecDepth 100000

theorem itoa_len {n : Int} (h : Wide n) : (Lib.itoa n).length ≤ 21 := Lib.itoa_length_le n h.1 h.2

set_option maxHeartbeats 4000000 in
theorem refTask (t : Tk) (w : World) (hr : Room t) : Calls Tryd.prog 11 #[aggK t] w (Makes (.string ⟨(lineW t).toArray⟩) w) := by
  obtain ⟨n, tT, tD, tC, tA, tS, tc, tM, tK, tO, tP⟩ := t
  simp only [aggK]
  obtain ⟨g, hg⟩ : ∃ g, g = w.heap.size := ⟨_, rfl⟩
  have HG := Lib.hid hg
  obtain ⟨V, hV⟩ : ∃ V, V = w.alloc (.cells #[.string n, .int .i64 tT, .int .i64 tD, .int .i64 tC, .int .i64 tA, .int .i64 tS, .int .i64 tc, .int .i64 tM, .int .i64 tK, .int .i64 tO, .int .i64 tP] 26) := ⟨_, rfl⟩
  have HV := Lib.hid hV
  have HBV := Lib.hid (show Below g w V by rw [hV, hg]; exact below_new _ _)
  have HL := Lib.hid (show Lies V g 26 #[.string n, .int .i64 tT, .int .i64 tD, .int .i64 tC, .int .i64 tA, .int .i64 tS, .int .i64 tc, .int .i64 tM, .int .i64 tK, .int .i64 tO, .int .i64 tP] by rw [hV, hg]; exact Lies.made _ _ _)
  have hgV : g ≤ V.heap.size := Nat.le_of_lt HL.out.lt
  have hnm : n.size ≤ 1000 := hr.name
  have HE := Lib.hid (show lineW ⟨n, tT, tD, tC, tA, tS, tc, tM, tK, tO, tP⟩ = [116, 97, 115, 107, 32] ++ n.data.toList ++ [32] ++ Lib.itoa tT ++ [32] ++ Lib.itoa tD ++ [32] ++ Lib.itoa tC ++ [32] ++ modeW tO ++ [32] ++ Lib.itoa tA ++ [32] ++ Lib.itoa tS ++ [32] ++ Lib.itoa tc ++ [32] ++ Lib.itoa tM ++ [32] ++ Lib.itoa tK ++ [32] ++ Lib.itoa tP by simp [lineW, sTask, numsW])
  generalize lineW ⟨n, tT, tD, tC, tA, tS, tc, tM, tK, tO, tP⟩ = L at HE ⊢
  have K1 := Lib.hid (number tT hr.T)
  have K2 := Lib.hid (number tD hr.D)
  have K3 := Lib.hid (number tC hr.C)
  have K4 := Lib.hid (number tA hr.A)
  have K5 := Lib.hid (number tS hr.Seg)
  have K6 := Lib.hid (number tc hr.Cost)
  have K7 := Lib.hid (number tM hr.M)
  have K8 := Lib.hid (number tK hr.K)
  have K9 := Lib.hid (refMode tO)
  have K10 := Lib.hid (number tP hr.Prio)
  have l1 := itoa_len hr.T
  have l2 := itoa_len hr.D
  have l3 := itoa_len hr.C
  have l4 := itoa_len hr.A
  have l5 := itoa_len hr.Seg
  have l6 := itoa_len hr.Cost
  have l7 := itoa_len hr.M
  have l8 := itoa_len hr.K
  have l9 := modeW_len tO
  have l10 := itoa_len hr.Prio
  simp only at l1 l2 l3 l4 l5 l6 l7 l8 l10
  clear hr hg hV
  generalize Lib.itoa tT = X1 at HE K1 l1
  generalize Lib.itoa tD = X2 at HE K2 l2
  generalize Lib.itoa tC = X3 at HE K3 l3
  generalize Lib.itoa tA = X4 at HE K4 l4
  generalize Lib.itoa tS = X5 at HE K5 l5
  generalize Lib.itoa tc = X6 at HE K6 l6
  generalize Lib.itoa tM = X7 at HE K7 l7
  generalize Lib.itoa tK = X8 at HE K8 l8
  generalize modeW tO = X9 at HE K9 l9
  generalize Lib.itoa tP = X10 at HE K10 l10
  have x0 : V.cell? ⟨g, 0, none⟩ = some (.string n) := HL.out.cell 0
  have x1 : V.cell? ⟨g, 1, none⟩ = some (.int .i64 tT) := HL.out.cell 1
  have x2 : V.cell? ⟨g, 2, none⟩ = some (.int .i64 tD) := HL.out.cell 2
  have x3 : V.cell? ⟨g, 3, none⟩ = some (.int .i64 tC) := HL.out.cell 3
  have x9 : V.cell? ⟨g, 9, none⟩ = some (.int .i64 tO) := HL.out.cell 9
  have k0 := cell_regrown x0
  have k1 := cell_regrown x1
  have k2 := cell_regrown x2
  have k3 := cell_regrown x3
  have k9 := cell_regrown x9
  have c1 := fun d os => Calls.regrown_of (w := V) (d := d) (os := os) (v := .string ⟨X1.toArray⟩) (K1.out _)
  have c2 := fun d os => Calls.regrown_of (w := V) (d := d) (os := os) (v := .string ⟨X2.toArray⟩) (K2.out _)
  have c3 := fun d os => Calls.regrown_of (w := V) (d := d) (os := os) (v := .string ⟨X3.toArray⟩) (K3.out _)
  have c9 := fun d os => Calls.regrown_of (w := V) (d := d) (os := os) (v := .string ⟨X9.toArray⟩) (K9.out _)
  go_enter Tryd.func11, Tryd.ntmps11
  go_upto_region 1 with fail
  rw [← HV.out]
  try rw [← HG.out]
  refine wp_region_quiet_below (by kernel_rfl) (by kernel_rfl) ?_
  repeat (go_big_quiet_step (with_reducible first | exact c1 _ _ | exact c2 _ _ | exact c3 _ _ | exact c9 _ _))
  refine wpQuiet_nil ?_
  intro U hw'
  obtain ⟨⟨dq, osq⟩, hw''⟩ := hw'
  have HB1 := Lib.hid (show Below g w U by rw [hw'']; exact HBV.out.trans ((below_regrown V dq osq).mono hgV))
  have HL1 := Lib.hid (show Lies U g 26 #[.string n, .int .i64 tT, .int .i64 tD, .int .i64 tC, .int .i64 tA, .int .i64 tS, .int .i64 tc, .int .i64 tM, .int .i64 tK, .int .i64 tO, .int .i64 tP] by rw [hw'']; exact HL.out.below (below_regrown V dq osq) HL.out.lt)
  clear hw''
  obtain ⟨S, hS⟩ : ∃ S : ByteArray, S = ⟨#[116, 97, 115, 107, 32]⟩ ++ n ++ ⟨#[32]⟩ ++ ⟨X1.toArray⟩ ++ ⟨#[32]⟩ ++ ⟨X2.toArray⟩ ++ ⟨#[32]⟩ ++ ⟨X3.toArray⟩ ++ ⟨#[32]⟩ ++ ⟨X9.toArray⟩ := ⟨_, rfl⟩
  rw [← hS]
  have hSl : S.data.toList = [116, 97, 115, 107, 32] ++ n.data.toList ++ [32] ++ X1 ++ [32] ++ X2 ++ [32] ++ X3 ++ [32] ++ X9 := by rw [hS]; simp only [Joins.data_append]
  have hSs : S.size ≤ 1100 := by
    rw [← name_len S, hSl]
    simp only [List.length_append, List.length_cons, List.length_nil, name_len]
    omega
  have HSL := Lib.hid hSl
  clear hS hSl k0 k1 k2 k3 k9 c1 c2 c3 c9 x0 x1 x2 x3 x9 K1 K2 K3 K9 l1 l2 l3 l9 HL HBV hnm
  have hgU : g ≤ U.heap.size := Nat.le_of_lt HL1.out.lt
  have x4 : U.cell? ⟨g, 4, none⟩ = some (.int .i64 tA) := HL1.out.cell 4
  have x5 : U.cell? ⟨g, 5, none⟩ = some (.int .i64 tS) := HL1.out.cell 5
  have x6 : U.cell? ⟨g, 6, none⟩ = some (.int .i64 tc) := HL1.out.cell 6
  have x7 : U.cell? ⟨g, 7, none⟩ = some (.int .i64 tM) := HL1.out.cell 7
  have x8 : U.cell? ⟨g, 8, none⟩ = some (.int .i64 tK) := HL1.out.cell 8
  have x10 : U.cell? ⟨g, 10, none⟩ = some (.int .i64 tP) := HL1.out.cell 10
  have k4 := cell_regrown x4
  have k5 := cell_regrown x5
  have k6 := cell_regrown x6
  have k7 := cell_regrown x7
  have k8 := cell_regrown x8
  have k10 := cell_regrown x10
  have c4 := fun d os => Calls.regrown_of (w := U) (d := d) (os := os) (v := .string ⟨X4.toArray⟩) (K4.out _)
  have c5 := fun d os => Calls.regrown_of (w := U) (d := d) (os := os) (v := .string ⟨X5.toArray⟩) (K5.out _)
  have c6 := fun d os => Calls.regrown_of (w := U) (d := d) (os := os) (v := .string ⟨X6.toArray⟩) (K6.out _)
  have c7 := fun d os => Calls.regrown_of (w := U) (d := d) (os := os) (v := .string ⟨X7.toArray⟩) (K7.out _)
  have c8 := fun d os => Calls.regrown_of (w := U) (d := d) (os := os) (v := .string ⟨X8.toArray⟩) (K8.out _)
  have c10 := fun d os => Calls.regrown_of (w := U) (d := d) (os := os) (v := .string ⟨X10.toArray⟩) (K10.out _)
  clear K4 K5 K6 K7 K8 K10
  go_upto_region 2 with fail
  refine wp_region_quiet_below (by kernel_rfl) (by kernel_rfl) ?_
  repeat (go_big_quiet_step (with_reducible first | exact c4 _ _ | exact c5 _ _ | exact c6 _ _ | exact c7 _ _ | exact c8 _ _ | exact c10 _ _))
  refine wpQuiet_nil ?_
  intro _ hw'
  obtain ⟨⟨dq, osq⟩, hw''⟩ := hw'
  subst hw''
  go_wp2
  go_ret
  refine ⟨?_, ?_⟩
  · refine congrArg (fun x => Ending.returned (Value.string x)) (text_eq ?_)
    rw [HE.out]
    simp only [Joins.data_append, HSL.out]
  · have := HB1.out.trans ((below_regrown U dq osq).mono hgU)
    rw [HG.out] at this
    exact this
end Go.Proofs.YtbijgmaeechmoaaDoor
namespace Go.Proofs.YtbijgmaeechmoaaDoor
open Go.RowKit Kx
set_option maxRecDepth 100000

def OutRel (b : Int) (l : List Tk) (V : World) (o i : Value) (W : World) : Prop :=
  ∃ (k : Nat) (S : ByteArray), k ≤ l.length ∧ i = .int .i64 (k : Int) ∧ o = .string S ∧ S.data.toList = preW b ++ linesW (l.take k) ∧ Below V.heap.size V W

set_option maxHeartbeats 4000000 in
theorem refSet (b : Int) (l : List Tk) (a : Option Addr) (cap : Nat) {w : World} (hw : (whyF b l).1 = 0) (ht : Tasks w a cap l) :
    Calls Tryd.prog 15 #[.agg #[.int .i64 b, .slice a l.length cap]] w (Makes (.string ⟨(textW b l).toArray⟩) w) := by
  obtain ⟨g, hg⟩ : ∃ g, g = w.heap.size := ⟨_, rfl⟩
  have HG := Lib.hid hg
  obtain ⟨V, hV⟩ : ∃ V, V = w.alloc (.cells #[.int .i64 b, .slice a l.length cap] 24) := ⟨_, rfl⟩
  have HV := Lib.hid hV
  have HBV := Lib.hid (show Below g w V by rw [hV, hg]; exact below_new _ _)
  have HL := Lib.hid (show Lies V g 24 #[.int .i64 b, .slice a l.length cap] by rw [hV, hg]; exact Lies.made _ _ _)
  have hgV : g < V.heap.size := HL.out.lt
  have HTV := Lib.hid (ht.below (B := g) (by omega) HBV.out)
  have h16 : l.length ≤ 16 := ((right_iff b l).1 hw).2.1.2
  have hWb : Wide b := by have := ((right_iff b l).1 hw).1; exact ⟨by omega, by omega⟩
  have HF := Lib.hid (fines hw)
  have K0 := Lib.hid (number b hWb V)
  have l0 := itoa_len hWb
  have HP := Lib.hid (show preW b = [98, 117, 114, 115, 116, 32] ++ Lib.itoa b ++ [10] by simp [preW, numsW])
  have hpl : (preW b).length ≤ 28 := by rw [HP.out]; simp; omega
  have HX := Lib.hid (textW_pre b l)
  have x0 : V.cell? ⟨g, 0, none⟩ = some (.int .i64 b) := HL.out.cell 0
  generalize textW b l = X at HX ⊢
  generalize Lib.itoa b = Y at K0 l0 HP
  clear hg hV ht hw hWb
  go_enter Tryd.func15, Tryd.ntmps15
  go_upto_region 1 with fail
  rw [← HV.out]
  try rw [← HG.out]
  go_wp2_with (fail)
  with_reducible refine K0.out.mono ?_
  rintro e w1 ⟨rfl, hb1⟩
  have HB1 := Lib.hid hb1
  clear hb1 K0 x0
  go_wp2
  obtain ⟨S0, hS0⟩ : ∃ S : ByteArray, S = ⟨#[98, 117, 114, 115, 116, 32]⟩ ++ ⟨Y.toArray⟩ ++ ⟨#[10]⟩ := ⟨_, rfl⟩
  try rw [← hS0]
  have HS0 := Lib.hid (show S0.data.toList = preW b ++ linesW (l.take 0) by rw [hS0, HP.out]; simp [linesW])
  go_loopw [3, 4] (fun o i W => OutRel b l V o i W) (fun _ i _ => l.length - (intOf i).toNat)
  case atStart => exact ⟨0, S0, by omega, rfl, by rw [hS0], HS0.out, HB1.out⟩
  case round =>
    obtain ⟨k, S, hk, rfl, rfl, hS, hbl⟩ := hrel
    have HS := Lib.hid hS
    have HB := Lib.hid hbl
    clear hS hbl hS0 HS0
    have y1 : wr.cell? ⟨g, 1, none⟩ = some (.slice a l.length cap) := (HL.out.below HB.out hgV).cell 1
    by_cases hlt : k < l.length
    · have t1 : decide ((k : Int) < (l.length : Int)) = true := by simp; omega
      have hx : l[k]? = some l[k] := List.getElem?_eq_getElem hlt
      have HTW := Lib.hid (HTV.out.below (Nat.le_refl _) HB.out)
      obtain ⟨bb, off, rfl, hbl, z0, z1, z2, z3, z4, z5, z6, z7, z8, z9, z10⟩ := HTW.out.cells hx
      have HE := Lib.hid (lines_next hlt)
      have hfi := HF.out _ (List.mem_of_getElem? hx)
      clear hx
      have hlen := linesW_len (l.take k) (fun u hu => HF.out u (List.mem_of_mem_take hu))
      rw [List.length_take, Nat.min_eq_left hk] at hlen
      have hSs : S.size ≤ 30000 := by rw [← name_len S, HS.out, List.length_append]; omega
      generalize l[k] = t at z0 z1 z2 z3 z4 z5 z6 z7 z8 z9 z10 HE hfi
      have hll := lineW_len hfi.room
      have K1 := Lib.hid (refTask t wr hfi.room)
      simp only [aggK] at K1
      generalize lineW t = Z at K1 HE hll
      clear hfi hlen
      go_wp2_with (fail)
      with_reducible refine K1.out.mono ?_
      rintro e w2 ⟨rfl, hb2⟩
      have HB2 := Lib.hid (HB.out.trans (hb2.mono HB.out.size))
      clear hb2 K1 z0 z1 z2 z3 z4 z5 z6 z7 z8 z9 z10
      go_wp2
      go_roundw
      case rel => exact ⟨k + 1, S ++ ⟨Z.toArray⟩ ++ ⟨#[10]⟩, by omega, by go_num, rfl, by rw [HE.out]; simp only [Joins.data_append, HS.out, List.append_assoc], HB2.out⟩
      case measure => simp [intOf]; omega
    · have t1 : decide ((k : Int) < (l.length : Int)) = false := by simp; omega
      have t1' : decide (k < l.length) = false := by simp; omega
      have HSL := Lib.hid (show S.data.toList = X by rw [HS.out, HX.out, List.take_of_length_le (by omega)])
      go_wp2
      go_ret
      refine ⟨?_, ?_⟩
      · exact congrArg (fun x => Ending.returned (Value.string x)) (text_eq HSL.out)
      · have := HBV.out.trans (HB.out.mono (Nat.le_of_lt hgV))
        rw [HG.out] at this
        exact this
end Go.Proofs.YtbijgmaeechmoaaDoor
