/- Why a set isn't right: the statements' own answer, where burst and count are right. -/
import Derived.Test.YtklnokhabomnfaaWy
import Derived.Deep.DeepCutAuto
namespace Go.Proofs.Ytklnokhabomnfaa
open Go.RowKit

def RefRel (b : Int) (l : List Tk) (a : Option Addr) (cap : Nat) (w : World) (i : Value) (W : World) : Prop :=
  ∃ k : Nat, k ≤ l.length ∧ i = .int .i64 (k : Int) ∧ Below w.heap.size w W ∧ Lies W w.heap.size 24 #[.int .i64 b, .slice a l.length cap] ∧ whyG [] l = whyG (l.take k) (l.drop k)
def nameB (l : List Tk) (t : Tk) (j : Nat) : Bool := bName (l.take j) t
def prioB (l : List Tk) (t : Tk) (j : Nat) : Bool := bPrio (l.take j) t
def TwoRel (l : List Tk) (t : Tk) (k : Nat) (w : World) (n p j : Value) (W : World) : Prop :=
  ∃ q m : Nat, q ≤ k ∧ n = .bool (nameB l t q) ∧ p = .bool (prioB l t q) ∧ j = .int .i64 (q : Int) ∧ W = w.drewN m
theorem nameB_step {l : List Tk} {t x : Tk} {q : Nat} (h : l[q]? = some x) : nameB l t (q + 1) = (nameB l t q || decide (x.name = t.name)) := by
  unfold nameB bName hasName
  rw [take_next h, List.any_append]
  simp [Bool.or_assoc]
theorem prioB_step {l : List Tk} {t x : Tk} {q : Nat} (h : l[q]? = some x) : prioB l t (q + 1) = (prioB l t q || decide (x.Prio = t.Prio)) := by
  unfold prioB bPrio hasPrio
  rw [take_next h, List.any_append]
  simp [Bool.or_assoc]
theorem nameB_zero (l : List Tk) (t : Tk) : nameB l t 0 = !nm t.name := by simp [nameB, bName, hasName]
theorem prioB_zero (l : List Tk) (t : Tk) : prioB l t 0 = !prioIn t := by simp [prioB, bPrio, hasPrio]
theorem prioB_high {l : List Tk} {t : Tk} (h : ¬ t.Prio < 0) : prioB l t 0 = decide (255 < t.Prio) := by
  rw [prioB_zero]
  unfold prioIn
  rw [show decide (0 ≤ t.Prio) = true by simp; omega, Bool.true_and]
  by_cases h2 : t.Prio ≤ 255
  · rw [decide_eq_true h2, decide_eq_false (by omega)]; rfl
  · rw [decide_eq_false h2, decide_eq_true (by omega)]; rfl
theorem mode_bad {t : Tk} (h : ¬ modeOk t) : bMode t = true := by simp [bMode, h]
theorem mode_fine {t : Tk} (h : modeOk t) : bMode t = false := by simp [bMode, h]
theorem times_bad {t : Tk} (h : ¬ timesOk t) : bTimes t = true := by simp [bTimes, h]
theorem times_fine {t : Tk} (h : timesOk t) : bTimes t = false := by simp [bTimes, h]
theorem firm_bad {t : Tk} (h : ¬ firmOk t) : bFirm t = true := by simp [bFirm, h]
theorem firm_fine {t : Tk} (h : firmOk t) : bFirm t = false := by simp [bFirm, h]
theorem val_bool {a b : Bool} (h : a = b) : Value.bool b = Value.bool a := by rw [h]

set_option maxRecDepth 100000 in
set_option maxHeartbeats 8000000 in
theorem refWhy_go (b : Int) (l : List Tk) (a : Option Addr) (cap : Nat) {w : World} (hb1 : 1 ≤ b) (hb2 : b ≤ 1000) (hl1 : 1 ≤ l.length) (hl2 : l.length ≤ 16) (ht : Tasks w a cap l) :
    Calls Try.prog 20 #[.agg #[.int .i64 b, .slice a l.length cap]] w (Whys (whyF b l) w) := by
  have d1 : decide (b < 1) = false := by simp; omega
  have d2 : decide (1000 < b) = false := by simp; omega
  have d3 : decide ((l.length : Int) < 1) = false := by simp; omega
  have d4 : decide ((16 : Int) < (l.length : Int)) = false := by simp; omega
  have HV := Lib.hid (whyF_go (b := b) (l := l) (by omega) (by omega))
  have HT := Lib.hid ht
  have hcap := ht.le
  clear ht
  go_enter Try.func20, Try.ntmps20
  go_wp2
  go_loopw [4] (fun i W => RefRel b l a cap w i W) (fun i _ => l.length - (intOf i).toNat)
  case atStart => exact ⟨0, Nat.zero_le _, rfl, below_new _ _, Lies.made _ _ _, rfl⟩
  case round =>
    obtain ⟨k, hk, rfl, hbel, hbox, hwhy⟩ := hrel
    have HB := Lib.hid hbel
    have HX1 := Lib.hid hbox
    have HY := Lib.hid hwhy
    have y1 : wr.cell? ⟨w.heap.size, 1, none⟩ = some (.slice a l.length cap) := hbox.cell 1
    have hsw : w.heap.size < wr.heap.size := hbox.lt
    clear hbel hbox hwhy
    by_cases hlt : k < l.length
    · have t1 : decide ((k : Int) < (l.length : Int)) = true := by simp; omega
      have hx : l[k]? = some l[k] := List.getElem?_eq_getElem hlt
      have HX := Lib.hid hx
      obtain ⟨bb, off, rfl, hbl, x0, x1, x2, x3, x4, x5, x6, x7, x8, x9, x10⟩ := (HT.out.below (Nat.le_refl _) HB.out).cells hx
      clear hx
      generalize l[k] = t at x0 x1 x2 x3 x4 x5 x6 x7 x8 x9 x10 HX
      have HN := Lib.hid (fun W => ref_named t.name W)
      obtain ⟨nb, hnb⟩ : ∃ nb, nb = nm t.name := ⟨_, rfl⟩
      rw [← hnb] at HN
      have HNB := Lib.hid hnb
      obtain ⟨V, hV⟩ : ∃ V, V = wr.alloc (.cells (boxK t) 39) := ⟨_, rfl⟩
      have HVE := Lib.hid hV
      obtain ⟨g, hg⟩ : ∃ g, g = wr.heap.size := ⟨_, rfl⟩
      have HVL : Hid (Lies V g 39 (boxK t)) := by rw [hV, hg]; exact Lies.made _ _ _
      have HVX : Hid (Lies V w.heap.size 24 #[.int .i64 b, .slice (some ⟨bb, off, none⟩) l.length cap]) := by rw [hV]; exact HX1.out.alloc _
      have HVB : Hid (Below w.heap.size w V) := by rw [hV]; exact HB.out.alloc HB.out.size _
      have HVT := Lib.hid (HT.out.below (Nat.le_refl _) HVB.out)
      have HG := Lib.hid hg
      clear hnb hV hg
      have HWE : Hid (wr.alloc (.cells #[.string t.name, .int .i64 t.T, .int .i64 t.D, .int .i64 t.C, .int .i64 t.A, .int .i64 t.Seg, .int .i64 t.Cost, .int .i64 t.M, .int .i64 t.K, .int .i64 t.Mode, .int .i64 t.Prio] 39) = V) := HVE.out.symm
      go_wp2_with (fail)
      with_reducible refine (HN.out _).mono ?_
      rintro e w' ⟨rfl, rfl⟩
      clear x0 x1 x2 x3 x4 x5 x6 x7 x8 x9 x10 y1
      rw [HWE.out, ← HG.out]
      have z0 : V.cell? ⟨g, 0, none⟩ = some (.string t.name) := HVL.out.cell 0
      have z1 : V.cell? ⟨g, 1, none⟩ = some (.int .i64 t.T) := HVL.out.cell 1
      have z2 : V.cell? ⟨g, 2, none⟩ = some (.int .i64 t.D) := HVL.out.cell 2
      have z3 : V.cell? ⟨g, 3, none⟩ = some (.int .i64 t.C) := HVL.out.cell 3
      have z4 : V.cell? ⟨g, 4, none⟩ = some (.int .i64 t.A) := HVL.out.cell 4
      have z5 : V.cell? ⟨g, 5, none⟩ = some (.int .i64 t.Seg) := HVL.out.cell 5
      have z6 : V.cell? ⟨g, 6, none⟩ = some (.int .i64 t.Cost) := HVL.out.cell 6
      have z7 : V.cell? ⟨g, 7, none⟩ = some (.int .i64 t.M) := HVL.out.cell 7
      have z8 : V.cell? ⟨g, 8, none⟩ = some (.int .i64 t.K) := HVL.out.cell 8
      have z9 : V.cell? ⟨g, 9, none⟩ = some (.int .i64 t.Mode) := HVL.out.cell 9
      have z10 : V.cell? ⟨g, 10, none⟩ = some (.int .i64 t.Prio) := HVL.out.cell 10
      have y1 : V.cell? ⟨w.heap.size, 1, none⟩ = some (.slice (some ⟨bb, off, none⟩) l.length cap) := HVX.out.cell 1
      go_upto_region 10 with fail
      go_cut [7] (fun s7 wx => s7 = .bool (prioB l t 0) ∧ V = wx)
      case first => as_aux_lemma =>
        by_cases hp1 : t.Prio < 0
        · have e1 : decide (t.Prio < 0) = true := decide_eq_true hp1
          have HP := Lib.hid (show prioB l t 0 = true by rw [prioB_zero]; simp [prioIn]; omega)
          go_wp2
          go_meet
          exact ⟨val_bool HP.out, rfl⟩
        · have e1 : decide (t.Prio < 0) = false := decide_eq_false hp1
          have HP := Lib.hid (prioB_high (l := l) hp1)
          go_wp2
          go_meet
          exact ⟨val_bool HP.out, rfl⟩
      case rest =>
        obtain ⟨rfl, rfl⟩ := hcut
        have HN0 := Lib.hid (show Value.bool (!nb) = Value.bool (nameB l t 0) by rw [nameB_zero, HNB.out])
        rw [HN0.out]
        go_wp2
        go_loopw [6, 7, 8] (fun n p j W => TwoRel l t k V n p j W) (fun _ _ j _ => k - (intOf j).toNat)
        case atStart => exact ⟨0, 0, by omega, rfl, rfl, rfl, rfl⟩
        case round =>
          obtain ⟨q, m, hq, rfl, rfl, rfl, rfl⟩ := hrel
          by_cases hqk : q < k
          · as_aux_lemma =>
            have t2 : decide ((q : Int) < (k : Int)) = true := by simp; omega
            have hx2 : l[q]? = some (l[q]'(by omega)) := List.getElem?_eq_getElem _
            have HX2 := Lib.hid hx2
            obtain ⟨b2, off2, e2, _, v0, _, _, _, _, _, _, _, _, _, v10⟩ := HVT.out.cells hx2
            cases e2
            clear hx2
            generalize (l[q]'(by omega)) = x at v0 v10 HX2
            have HSN := Lib.hid (nameB_step (t := t) HX2.out)
            have HSP := Lib.hid (prioB_step (t := t) HX2.out)
            have q1 : q < l.length := by omega
            go_upto_region 14 with fail
            go_cut [6] (fun s6 wx => s6 = .bool (nameB l t (q + 1)) ∧ ∃ m', wx = V.drewN m')
            case first => as_aux_lemma =>
              cases hn : nameB l t q with
              | true =>
                have HR : Hid (nameB l t (q + 1) = true) := by rw [HSN.out, hn]; rfl
                clear hn
                go_wp2
                go_quiet (fail)
                go_wp2
                go_meet
                first | exact ⟨val_bool HR.out, _, rfl⟩ | exact ⟨val_bool HR.out, _, World.drewN_drewN _ _ _⟩
              | false =>
                by_cases he : x.name = t.name
                · have HR : Hid (nameB l t (q + 1) = true) := by rw [HSN.out, hn, decide_eq_true he]; rfl
                  have e5 : (x.name.toList == t.name.toList) = true := text_eq he
                  clear hn he
                  go_wp2
                  go_quiet (fail)
                  go_wp2
                  go_meet
                  first | exact ⟨val_bool HR.out, _, rfl⟩ | exact ⟨val_bool HR.out, _, World.drewN_drewN _ _ _⟩
                · have HR : Hid (nameB l t (q + 1) = false) := by rw [HSN.out, hn, decide_eq_false he]; rfl
                  have e5 : (x.name.toList == t.name.toList) = false := text_ne he
                  clear hn he
                  go_wp2
                  go_quiet (fail)
                  go_wp2
                  go_meet
                  first | exact ⟨val_bool HR.out, _, rfl⟩ | exact ⟨val_bool HR.out, _, World.drewN_drewN _ _ _⟩
            case rest =>
              obtain ⟨rfl, m', rfl⟩ := hcut
              cases hn : prioB l t q with
              | true =>
                have HR : Hid (prioB l t (q + 1) = true) := by rw [HSP.out, hn]; rfl
                clear hn
                go_wp2
                go_quiet (fail)
                go_wp2
                go_roundw
                case rel => first | exact ⟨q + 1, _, by omega, rfl, val_bool HR.out, by go_num, rfl⟩ | exact ⟨q + 1, _, by omega, rfl, val_bool HR.out, by go_num, World.drewN_drewN _ _ _⟩
                case measure => simp [intOf]; omega
              | false =>
                by_cases he : x.Prio = t.Prio
                · have HR : Hid (prioB l t (q + 1) = true) := by rw [HSP.out, hn, decide_eq_true he]; rfl
                  have e5 : (x.Prio == t.Prio) = true := by simp [he]
                  clear hn he
                  go_wp2
                  go_quiet (fail)
                  go_wp2
                  go_roundw
                  case rel => first | exact ⟨q + 1, _, by omega, rfl, val_bool HR.out, by go_num, rfl⟩ | exact ⟨q + 1, _, by omega, rfl, val_bool HR.out, by go_num, World.drewN_drewN _ _ _⟩
                  case measure => simp [intOf]; omega
                · have HR : Hid (prioB l t (q + 1) = false) := by rw [HSP.out, hn, decide_eq_false he]; rfl
                  have e5 : (x.Prio == t.Prio) = false := by simp [he]
                  clear hn he
                  go_wp2
                  go_quiet (fail)
                  go_wp2
                  go_roundw
                  case rel => first | exact ⟨q + 1, _, by omega, rfl, val_bool HR.out, by go_num, rfl⟩ | exact ⟨q + 1, _, by omega, rfl, val_bool HR.out, by go_num, World.drewN_drewN _ _ _⟩
                  case measure => simp [intOf]; omega
          · have t2 : decide ((q : Int) < (k : Int)) = false := by simp; omega
            have t2' : decide (q < k) = false := by simp; omega
            obtain rfl : q = k := by omega
            go_upto_region 16 with fail
            go_cut [9] (fun s9 wx => s9 = .bool (bMode t) ∧ V.drewN m = wx)
            case first => as_aux_lemma =>
              by_cases h1 : t.Mode < 1
              · have e1 : decide (t.Mode < 1) = true := by simp; omega
                have HR := Lib.hid (mode_bad (t := t) (by unfold modeOk; omega))
                go_wp2
                go_meet
                exact ⟨val_bool HR.out, rfl⟩
              · have e1 : decide (t.Mode < 1) = false := by simp; omega
                by_cases h2 : 3 < t.Mode
                · have e2 : decide (3 < t.Mode) = true := by simp; omega
                  have HR := Lib.hid (mode_bad (t := t) (by unfold modeOk; omega))
                  go_wp2
                  go_meet
                  exact ⟨val_bool HR.out, rfl⟩
                · have e2 : decide (3 < t.Mode) = false := by simp; omega
                  by_cases h3 : t.Mode = 1
                  · have e3 : (t.Mode == 1) = true := by simp [h3]
                    have e4 : decide (1 < t.Mode) = false := by simp; omega
                    by_cases h4 : t.Seg < 1
                    · have e5 : decide (t.Seg < 1) = true := by simp; omega
                      have HR := Lib.hid (mode_bad (t := t) (by unfold modeOk; omega))
                      go_wp2
                      go_meet
                      exact ⟨val_bool HR.out, rfl⟩
                    · have e5 : decide (t.Seg < 1) = false := by simp; omega
                      by_cases h5 : t.C < t.Seg
                      · have e6 : decide (t.C < t.Seg) = true := by simp; omega
                        have HR := Lib.hid (mode_bad (t := t) (by unfold modeOk; omega))
                        go_wp2
                        go_meet
                        exact ⟨val_bool HR.out, rfl⟩
                      · have e6 : decide (t.C < t.Seg) = false := by simp; omega
                        by_cases h6 : t.A = 0
                        · have e7 : (t.A != 0) = false := by simp; omega
                          have HR := Lib.hid (mode_fine (t := t) (by unfold modeOk; omega))
                          go_wp2
                          go_meet
                          exact ⟨val_bool HR.out, rfl⟩
                        · have e7 : (t.A != 0) = true := by simp; omega
                          have HR := Lib.hid (mode_bad (t := t) (by unfold modeOk; omega))
                          go_wp2
                          go_meet
                          exact ⟨val_bool HR.out, rfl⟩
                  · have e3 : (t.Mode == 1) = false := by simp; omega
                    have e4 : decide (1 < t.Mode) = true := by simp; omega
                    by_cases h4 : t.A < 1
                    · have e5 : decide (t.A < 1) = true := by simp; omega
                      have HR := Lib.hid (mode_bad (t := t) (by unfold modeOk; omega))
                      go_wp2
                      go_meet
                      exact ⟨val_bool HR.out, rfl⟩
                    · have e5 : decide (t.A < 1) = false := by simp; omega
                      by_cases h5 : t.D < t.A
                      · have e6 : decide (t.D < t.A) = true := by simp; omega
                        have HR := Lib.hid (mode_bad (t := t) (by unfold modeOk; omega))
                        go_wp2
                        go_meet
                        exact ⟨val_bool HR.out, rfl⟩
                      · have e6 : decide (t.D < t.A) = false := by simp; omega
                        by_cases h6 : t.Seg = 0
                        · have e7 : (t.Seg != 0) = false := by simp; omega
                          have HR := Lib.hid (mode_fine (t := t) (by unfold modeOk; omega))
                          go_wp2
                          go_meet
                          exact ⟨val_bool HR.out, rfl⟩
                        · have e7 : (t.Seg != 0) = true := by simp; omega
                          have HR := Lib.hid (mode_bad (t := t) (by unfold modeOk; omega))
                          go_wp2
                          go_meet
                          exact ⟨val_bool HR.out, rfl⟩
            case rest =>
              obtain ⟨rfl, rfl⟩ := hcut
              cases hN : nameB l t q with
              | true =>
                have HNN := Lib.hid (show bName (l.take q) t = true from hN)
                clear hN
                go_wp2
                go_ret2
                exact whys (by rw [HV.out, HY.out, whyG_stop HX.out (by rw [bad1_name HNN.out]; decide), bad1_name HNN.out]) (below_drewN HVB.out m)
              | false =>
                have HNN := Lib.hid (show bName (l.take q) t = false from hN)
                clear hN
                go_upto_region 19 with fail
                go_cut [166] (fun s wx => s = .bool (bTimes t) ∧ V.drewN m = wx)
                case first => as_aux_lemma =>
                  by_cases h3 : t.C < 1
                  · have e1 : decide (t.C < 1) = true := by simp; omega
                    have HR := Lib.hid (times_bad (t := t) (by unfold timesOk; omega))
                    go_wp2
                    go_meet
                    exact ⟨val_bool HR.out, rfl⟩
                  · have e1 : decide (t.C < 1) = false := by simp; omega
                    by_cases h4 : t.D < t.C
                    · have e2 : decide (t.D < t.C) = true := by simp; omega
                      have HR := Lib.hid (times_bad (t := t) (by unfold timesOk; omega))
                      go_wp2
                      go_meet
                      exact ⟨val_bool HR.out, rfl⟩
                    · have e2 : decide (t.D < t.C) = false := by simp; omega
                      by_cases h5 : t.T < t.D
                      · have e3 : decide (t.T < t.D) = true := by simp; omega
                        have HR := Lib.hid (times_bad (t := t) (by unfold timesOk; omega))
                        go_wp2
                        go_meet
                        exact ⟨val_bool HR.out, rfl⟩
                      · have e3 : decide (t.T < t.D) = false := by simp; omega
                        by_cases h6 : 1048576 < t.T
                        · have e4 : decide (1048576 < t.T) = true := by simp; omega
                          have HR := Lib.hid (times_bad (t := t) (by unfold timesOk; omega))
                          go_wp2
                          go_meet
                          exact ⟨val_bool HR.out, rfl⟩
                        · have e4 : decide (1048576 < t.T) = false := by simp; omega
                          by_cases h7 : t.Cost < 0
                          · have e5 : decide (t.Cost < 0) = true := by simp; omega
                            have HR := Lib.hid (times_bad (t := t) (by unfold timesOk; omega))
                            go_wp2
                            go_meet
                            exact ⟨val_bool HR.out, rfl⟩
                          · have e5 : decide (t.Cost < 0) = false := by simp; omega
                            by_cases h8 : 1000 < t.Cost
                            · have e6 : decide (1000 < t.Cost) = true := by simp; omega
                              have HR := Lib.hid (times_bad (t := t) (by unfold timesOk; omega))
                              go_wp2
                              go_meet
                              exact ⟨val_bool HR.out, rfl⟩
                            · have e6 : decide (1000 < t.Cost) = false := by simp; omega
                              have HR := Lib.hid (times_fine (t := t) (by unfold timesOk; omega))
                              go_wp2
                              go_meet
                              exact ⟨val_bool HR.out, rfl⟩
                case rest =>
                  obtain ⟨rfl, rfl⟩ := hcut
                  cases hT : bTimes t with
                  | true =>
                    have HTT := Lib.hid hT
                    clear hT
                    go_wp2
                    go_ret2
                    exact whys (by rw [HV.out, HY.out, whyG_stop HX.out (by rw [bad1_times HNN.out HTT.out]; decide), bad1_times HNN.out HTT.out]) (below_drewN HVB.out m)
                  | false =>
                    have HTT := Lib.hid hT
                    clear hT
                    cases hM : bMode t with
                    | true =>
                      have HMM := Lib.hid hM
                      clear hM
                      go_wp2
                      go_ret2
                      exact whys (by rw [HV.out, HY.out, whyG_stop HX.out (by rw [bad1_mode HNN.out HTT.out HMM.out]; decide), bad1_mode HNN.out HTT.out HMM.out]) (below_drewN HVB.out m)
                    | false =>
                      have HMM := Lib.hid hM
                      clear hM
                      go_upto_region 23 with fail
                      go_cut [184] (fun s wx => s = .bool (bFirm t) ∧ V.drewN m = wx)
                      case first => as_aux_lemma =>
                        by_cases h6 : t.M < 1
                        · have e1 : decide (t.M < 1) = true := by simp; omega
                          have HR := Lib.hid (firm_bad (t := t) (by unfold firmOk; omega))
                          go_wp2
                          go_meet
                          exact ⟨val_bool HR.out, rfl⟩
                        · have e1 : decide (t.M < 1) = false := by simp; omega
                          by_cases h7 : t.K < t.M
                          · have e2 : decide (t.K < t.M) = true := by simp; omega
                            have HR := Lib.hid (firm_bad (t := t) (by unfold firmOk; omega))
                            go_wp2
                            go_meet
                            exact ⟨val_bool HR.out, rfl⟩
                          · have e2 : decide (t.K < t.M) = false := by simp; omega
                            by_cases h8 : 64 < t.K
                            · have e3 : decide (64 < t.K) = true := by simp; omega
                              have HR := Lib.hid (firm_bad (t := t) (by unfold firmOk; omega))
                              go_wp2
                              go_meet
                              exact ⟨val_bool HR.out, rfl⟩
                            · have e3 : decide (64 < t.K) = false := by simp; omega
                              have HR := Lib.hid (firm_fine (t := t) (by unfold firmOk; omega))
                              go_wp2
                              go_meet
                              exact ⟨val_bool HR.out, rfl⟩
                      case rest =>
                        obtain ⟨rfl, rfl⟩ := hcut
                        cases hF : bFirm t with
                        | true =>
                          have HFF := Lib.hid hF
                          clear hF
                          go_wp2
                          go_ret2
                          exact whys (by rw [HV.out, HY.out, whyG_stop HX.out (by rw [bad1_firm HNN.out HTT.out HMM.out HFF.out]; decide), bad1_firm HNN.out HTT.out HMM.out HFF.out]) (below_drewN HVB.out m)
                        | false =>
                          have HFF := Lib.hid hF
                          clear hF
                          cases hP : prioB l t q with
                          | true =>
                            have HPP := Lib.hid (show bPrio (l.take q) t = true from hP)
                            clear hP
                            go_wp2
                            go_ret2
                            exact whys (by rw [HV.out, HY.out, whyG_stop HX.out (by rw [bad1_prio HNN.out HTT.out HMM.out HFF.out HPP.out]; decide), bad1_prio HNN.out HTT.out HMM.out HFF.out HPP.out]) (below_drewN HVB.out m)
                          | false =>
                            have HPP := Lib.hid (show bPrio (l.take q) t = false from hP)
                            clear hP
                            go_wp2
                            go_roundw
                            case rel => exact ⟨q + 1, by omega, by go_num, below_drewN HVB.out m, HVX.out.drewN m, HY.out.trans (whyG_next HX.out (bad1_fine HNN.out HTT.out HMM.out HFF.out HPP.out))⟩
                            case measure => simp [intOf]; omega
    · have t1 : decide ((k : Int) < (l.length : Int)) = false := by simp; omega
      have t1' : decide (k < l.length) = false := by simp; omega
      have HE : Hid (whyG [] l = (0, -1)) := by rw [HY.out, List.drop_of_length_le (by omega)]; rfl
      go_wp2
      go_ret2
      exact whys (by rw [HV.out, HE.out]) HB.out
end Go.Proofs.Ytklnokhabomnfaa
