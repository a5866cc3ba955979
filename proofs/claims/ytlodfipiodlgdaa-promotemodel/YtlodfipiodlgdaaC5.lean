/- The walk of the statement on acts, one behind the other. -/
import Derived.Test.YtlodfipiodlgdaaMd
import Derived.Test.YtlodfipiodlgdaaOp
import Derived.BigRegion
import Derived.IntWalk
import Derived.Deep.CutBlock
namespace Go.Proofs.Ytlodfipiodlgdaa.Jb.Model
open Go.RowKit

set_option maxRecDepth 100000 in
set_option maxHeartbeats 1000000 in
theorem out (r : Int) (l : List Ac) (a : Option Addr) (cap : Nat) (w : World) (hm : l.length ≤ maxLen) (hroom : r < 1 ∨ 1024 < r) : Calls Try.prog 3 #[.int .i64 r, .slice a l.length cap] w (Woke w) := by
  unfold maxLen at hm
  have HRM := Lib.hid hroom
  go_enter Try.func3, Try.ntmps3
  go_wp2_with (fail)
  refine (awake _).mono ?_
  rintro e w1 ⟨rfl, hb1⟩
  have B1 := Lib.hid hb1
  clear hb1
  by_cases h3 : 200 < l.length
  · have t1 : decide ((200 : Int) < (l.length : Int)) = true := by simp; omega
    go_wp2_with (fail)
    refine (awake _).mono ?_
    rintro e w2 ⟨rfl, hb2⟩
    go_wp2
    go_ret
    exact ⟨rfl, B1.out.trans (hb2.mono B1.out.size)⟩
  · have t1 : decide ((200 : Int) < (l.length : Int)) = false := by simp; omega
    rcases hroom with h | h
    · have t2 : decide (r < 1) = true := by simp; omega
      go_wp2_with (fail)
      with_reducible refine (new_no r _ HRM.out).mono ?_
      rintro e w' ⟨rfl, rfl⟩
      go_wp2
      go_ret
      exact ⟨rfl, B1.out⟩
    · have t2 : decide (r < 1) = false := by simp; omega
      have t3 : decide (1024 < r) = true := by simp; omega
      go_wp2_with (fail)
      with_reducible refine (new_no r _ HRM.out).mono ?_
      rintro e w' ⟨rfl, rfl⟩
      go_wp2
      go_ret
      exact ⟨rfl, B1.out⟩

set_option maxRecDepth 100000 in
set_option maxHeartbeats 40000000 in
theorem core (room : Nat) (l : List Ac) (a : Option Addr) (cap : Nat) (w : World) (hm : l.length ≤ maxLen) (hr : ActsIn w a cap l) (r1 : 1 ≤ room) (r2 : room ≤ 1024) : Calls Try.prog 3 #[.int .i64 (room : Int), .slice a l.length cap] w (Woke w) := by
  unfold maxLen at hm
  have HR := Lib.hid hr
  clear hr
  have t2 : decide ((room : Int) < 1) = false := by simp; omega
  have t3 : decide ((1024 : Int) < (room : Int)) = false := by simp; omega
  have KN := Lib.hid (fun W (hb : Below w.heap.size w W) => has_new (w0 := w) room hb r1 r2)
  go_enter Try.func3, Try.ntmps3
  go_wp2_with (fail)
  refine (awake _).mono ?_
  rintro e w1 ⟨rfl, hb1⟩
  have B1 := Lib.hid hb1
  clear hb1
  by_cases h3 : 200 < l.length
  · have t1 : decide ((200 : Int) < (l.length : Int)) = true := by simp; omega
    go_wp2_with (fail)
    refine (awake _).mono ?_
    rintro e w2 ⟨rfl, hb2⟩
    go_wp2
    go_ret
    exact ⟨rfl, B1.out.trans (hb2.mono B1.out.size)⟩
  · have t1 : decide ((200 : Int) < (l.length : Int)) = false := by simp; omega
    go_wp2_with (fail)
    with_reducible refine (KN.out _ B1.out).mono ?_
    rintro e w2 ⟨p, rfl, -, h2, -⟩
    have H2 : Hid (St w (fun k => k = p) p room 0 0 0 none [] [] w2) := ⟨h2, rfl, keys_none _ _ _, fun x hx => (by cases hx), .inl ⟨rfl, rfl⟩, by omega⟩
    clear h2 KN
    go_wp2
    clear t1 t2 t3
    go_loopw [7, 8, 9] (fun s t i W => ModelRel w p room l.length s t i W) (fun _ _ i _ => l.length - (intOf i).toNat)
    case atStart => exact ⟨0, _, _, 0, 0, 0, none, [], by omega, by omega, rfl, rfl, rfl, rfl, H2.out⟩
    case round =>
      obtain ⟨k, X, S, now, n, c, A, M, hk, hnk, rfl, rfl, rfl, rfl, hst⟩ := hrel
      have H3 := Lib.hid hst
      clear hst H2
      by_cases hlt : k < l.length
      · have t4 : decide ((k : Int) < (l.length : Int)) = true := by simp; omega
        have hx : l[k]? = some l[k] := List.getElem?_eq_getElem hlt
        obtain ⟨b, off, rfl, hbl, x0, x1, x2, x3, x4⟩ := (HR.out.below (Nat.le_refl _) H3.out.has.below).cells hx
        obtain ⟨-, -, -, ⟨s30, s31⟩, ⟨s40, s41⟩⟩ := HR.out.small _ (List.mem_of_getElem? hx)
        clear hx
        generalize l[k] = x at x0 x1 x2 x3 x4 s30 s31 s40 s41
        obtain ⟨y0, y1, y2, y3, y4⟩ := x
        simp only at x0 x1 x2 x3 x4 s30 s31 s40 s41
        have i1 : (0 : Int) ≤ (k : Int) := by omega
        obtain ⟨V, hV⟩ : ∃ V, V = X.alloc (.cells #[.int .i64 y0, .int .i64 y1, .int .i64 y2, .int .i64 y3, .int .i64 y4] 30) := ⟨_, rfl⟩
        have HL : Hid (Lies V X.heap.size 30 #[.int .i64 y0, .int .i64 y1, .int .i64 y2, .int .i64 y3, .int .i64 y4]) := by rw [hV]; exact Lies.made _ _ _
        have H4 : Hid (St w S p room now n c A M M V) := by rw [hV]; exact H3.out.more (below_new _ _)
        have HVE := Lib.hid hV
        have HGS := Lib.hid (show ∀ q, S q → q < X.heap.size from fun q hq => (H3.out.has.inS q hq).2)
        clear hV
        go_upto_region 14 with fail
        rw [← HVE.out]
        clear x0 x1 x2 x3 x4 HVE H3
        generalize X.heap.size = ab at HL HGS ⊢
        have hal := HL.out.lt
        have z1 : V.cell? ⟨ab, 1, none⟩ = some (.int .i64 y1) := HL.out.cell 1
        have HLN := Lib.hid H4.out.len
        go_wp2
        go_loopw [11, 12] (fun kv j W => FndRel M y1 V n kv j W) (fun _ j _ => n - (intOf j).toNat)
        case atStart => exact ⟨0, 0, -1, by omega, rfl, rfl, rfl, Fnd.none _ _⟩
        case round =>
          obtain ⟨q, d, kk, hq, rfl, rfl, rfl, hfnd⟩ := hrel
          have HF := Lib.hid hfnd
          clear hfnd
          by_cases hqn : q < n
          · have t5 : decide ((q : Int) < (n : Int)) = true := by simp; omega
            have hx : M[q]? = some (M[q]'(by rw [HLN.out]; exact hqn)) := List.getElem?_eq_getElem _
            obtain ⟨b2, off2, rfl, hb2, u0, u1⟩ := H4.out.keys.cells hx
            have HX := Lib.hid hx
            clear hx u1
            generalize M[q]'(by rw [HLN.out]; exact hqn) = x at u0 HX
            obtain ⟨v0, v1⟩ := x
            simp only at u0
            have i2 : (0 : Int) ≤ (q : Int) := by omega
            by_cases hid : v1 = y1
            · have t6 : (v1 == y1) = true := by simp [hid]
              have HF2 := Lib.hid (Fnd.hit HX.out (show idK (v0, v1) = y1 from hid))
              clear hid
              go_wp2
              go_quiet (fail)
              go_wp2
              go_roundw
              case rel => first | exact ⟨q + 1, _, _, by omega, by go_num, rfl, rfl, HF2.out⟩ | exact ⟨q + 1, _, _, by omega, by go_num, rfl, World.drewN_drewN _ _ _, HF2.out⟩
              case measure => simp [intOf]; omega
            · have t6 : (v1 == y1) = false := by simp [hid]
              have HF2 := Lib.hid (HF.out.miss HX.out (show idK (v0, v1) ≠ y1 from hid))
              clear hid
              go_wp2
              go_quiet (fail)
              go_wp2
              go_roundw
              case rel => first | exact ⟨q + 1, _, _, by omega, by go_num, rfl, rfl, HF2.out⟩ | exact ⟨q + 1, _, _, by omega, by go_num, rfl, World.drewN_drewN _ _ _, HF2.out⟩
              case measure => simp [intOf]; omega
          · have t5 : decide ((q : Int) < (n : Int)) = false := by simp; omega
            have t5' : decide (q < n) = false := by simp; omega
            obtain rfl : q = n := by omega
            have H5 := Lib.hid (H4.out.drewN d)
            have HL5 := Lib.hid (HL.out.drewN d)
            clear z1 H4 HL hal
            generalize V.drewN d = Y at H5 HL5 ⊢
            have hal := HL5.out.lt
            have z0 : Y.cell? ⟨ab, 0, none⟩ = some (.int .i64 y0) := HL5.out.cell 0
            have z1 : Y.cell? ⟨ab, 1, none⟩ = some (.int .i64 y1) := HL5.out.cell 1
            have z2 : Y.cell? ⟨ab, 2, none⟩ = some (.int .i64 y2) := HL5.out.cell 2
            have z3 : Y.cell? ⟨ab, 3, none⟩ = some (.int .i64 y3) := HL5.out.cell 3
            have z4 : Y.cell? ⟨ab, 4, none⟩ = some (.int .i64 y4) := HL5.out.cell 4
            have HID := Lib.hid (show kk = -1 → y1 ∉ M.map idK from fun hk1 => by
              rcases HF.out with ⟨q', x, h1, _⟩ | ⟨_, h2⟩
              · omega
              · refine ids_none.1 (fun x hx => ?_)
                obtain ⟨i, hi⟩ := List.getElem?_of_mem hx
                exact h2 i x (by have := (List.getElem?_eq_some_iff.1 hi).1; rw [HLN.out] at this; exact this) hi)
            go_upto_if 79 with fail
            go_cut [7, 8] (fun s t wx => Cut w p room k s t wx)
            case first =>
              by_cases hd0 : y0 = 0
              · as_aux_lemma =>
                  have t7 : (y0 == 0) = true := by simp [hd0]
                  clear hd0
                  have KP := has_wait y1 y2 y3 y4 s31 H5.out.has
                  obtain ⟨T, hT⟩ : ∃ T, waitT now room M y1 y2 y3 y4 = T := ⟨_, rfl⟩
                  obtain ⟨E, hE⟩ : ∃ E, waitE now room M y1 y2 y3 y4 = E := ⟨_, rfl⟩
                  obtain ⟨M2, hM2⟩ : ∃ M2, waitM now room M y1 y2 y3 y4 = M2 := ⟨_, rfl⟩
                  rw [hT, hE, hM2] at KP
                  have HTT := Lib.hid hT
                  have HTE := Lib.hid hE
                  have HTM := Lib.hid hM2
                  have HKP := Lib.hid KP
                  have hcs := okT_cases (now := now) (y2 := y2) ⟨s30, s31⟩ ⟨s40, s41⟩
                  clear hT hE hM2 KP s30 s31 s40 s41
                  go_wp2_with (fail)
                  with_reducible refine HKP.out.mono ?_
                  intro e w4 hthen
                  obtain ⟨S6, h6, -, ht6⟩ := H5.out.acts hthen
                  obtain ⟨rfl, -, -⟩ := hthen
                  have H6 := Lib.hid h6
                  have HL6 := Lib.hid (HL5.out.turns ht6 (fun hs => by have := HGS.out ab hs; omega))
                  clear h6 ht6 z0 z1 z2 z3 z4 HKP HL5
                  have hal6 := HL6.out.lt
                  have v1 : w4.cell? ⟨ab, 1, none⟩ = some (.int .i64 y1) := HL6.out.cell 1
                  have v2 : w4.cell? ⟨ab, 2, none⟩ = some (.int .i64 y2) := HL6.out.cell 2
                  have v3 : w4.cell? ⟨ab, 3, none⟩ = some (.int .i64 y3) := HL6.out.cell 3
                  have v4 : w4.cell? ⟨ab, 4, none⟩ = some (.int .i64 y4) := HL6.out.cell 4
                  rcases hcs with ⟨hno, g1⟩ | ⟨hno, g1, g2⟩ | ⟨hno, g1, g2, g3⟩ | ⟨hno, g1, g2, g3, g4⟩ | ⟨g1, g2, g3, g4, e, f, w1, w2, hcs⟩
                  iterate 4
                    next =>
                      as_aux_lemma =>
                        obtain ⟨e1, e2, e3⟩ := wait_no1 (y1 := y1) (room := room) (M := M) hno
                        obtain rfl : T = 0 := HTT.out.symm.trans e1
                        obtain rfl : E = 1 := HTE.out.symm.trans e2
                        have e4 := HTM.out.symm.trans e3
                        rw [e4] at H6
                        clear e1 e2 e3 e4 HTT HTE HTM hno
                        go_wp2
                        go_meet
                        exact ⟨S6, now, q, c, A, M, rfl, rfl, by omega, H6.out⟩
                  next =>
                    rcases hcs with ⟨hno, g5⟩ | ⟨g5, s, t, w3, w5, hts, hcs⟩
                    · as_aux_lemma =>
                        obtain ⟨e1, e2, e3⟩ := wait_no1 (y1 := y1) (room := room) (M := M) hno
                        obtain rfl : T = 0 := HTT.out.symm.trans e1
                        obtain rfl : E = 1 := HTE.out.symm.trans e2
                        have e4 := HTM.out.symm.trans e3
                        rw [e4] at H6
                        clear e1 e2 e3 e4 HTT HTE HTM hno
                        go_wp2
                        go_meet
                        exact ⟨S6, now, q, c, A, M, rfl, rfl, by omega, H6.out⟩
                    · have HTS := Lib.hid hts.out
                      clear hts
                      rcases hcs with ⟨hno, g6⟩ | ⟨hok, g6⟩
                      · as_aux_lemma =>
                          obtain ⟨e1, e2, e3⟩ := wait_no1 (y1 := y1) (room := room) (M := M) hno
                          obtain rfl : T = 0 := HTT.out.symm.trans e1
                          obtain rfl : E = 1 := HTE.out.symm.trans e2
                          have e4 := HTM.out.symm.trans e3
                          rw [e4] at H6
                          clear e1 e2 e3 e4 HTT HTE HTM hno
                          go_wp2
                          go_meet
                          exact ⟨S6, now, q, c, A, M, rfl, rfl, by omega, H6.out⟩
                      · as_aux_lemma =>
                          have HOK := Lib.hid hok
                          clear hok
                          go_upto_if 135 with fail
                          clear w1 w2 g1 g2 g3 g4 g5 g6
                          go_cut [7, 15, 16] (fun sm wa wh wx => CutW w S6 p room now k E T M2 sm wa wh wx)
                          case first => as_aux_lemma =>
                            rcases HF.out with ⟨q', x, h1, h2, h3', h4'⟩ | ⟨h1, h2⟩
                            · have hin : y1 ∈ M.map idK := List.mem_map.2 ⟨x, List.mem_of_getElem? h3', h4'⟩
                              subst h1
                              have t11 : decide ((0 : Int) ≤ (q' : Int)) = true := by simp
                              as_aux_lemma =>
                                obtain ⟨e1, e2, e3⟩ := wait_no7 (room := room) HOK.out hin
                                have HE0 : Hid (E = 7) := HTE.out.symm.trans e2
                                have HT0 : Hid (T = 0) := HTT.out.symm.trans e1
                                have HM0 : Hid (M2 = M) := HTM.out.symm.trans e3
                                clear e1 e2 e3 HTT HTE HTM hin h2 h3' h4'
                                go_wp2
                                go_meet
                                exact ⟨q, c, A, rfl, by rw [HE0.out], by rw [HT0.out], by omega, by have h := H6.out; rw [HM0.out] at h ⊢; exact h⟩
                            · have hni := HID.out h1
                              subst h1
                              clear h2
                              by_cases hfull : q = room
                              · have t12 : ((q : Int) == (room : Int)) = true := by simp [hfull]
                                have HML := Lib.hid (show M.length = room by rw [HLN.out]; exact hfull)
                                as_aux_lemma =>
                                  obtain ⟨e1, e2, e3⟩ := wait_no3 HOK.out hni HML.out
                                  have HE0 : Hid (E = 3) := HTE.out.symm.trans e2
                                  have HT0 : Hid (T = 0) := HTT.out.symm.trans e1
                                  have HM0 : Hid (M2 = M) := HTM.out.symm.trans e3
                                  clear e1 e2 e3 HTT HTE HTM hni hfull
                                  go_wp2
                                  go_meet
                                  exact ⟨q, c, A, rfl, by rw [HE0.out], by rw [HT0.out], by omega, by have h := H6.out; rw [HM0.out] at h ⊢; exact h⟩
                              · have t12 : ((q : Int) == (room : Int)) = false := by rw [beq_eq_false_iff_ne]; omega
                                obtain ⟨e1, e2, e3⟩ := wait_yes HOK.out hni (show M.length ≠ room by rw [HLN.out]; exact hfull)
                                rw [← HTS.out] at e1 e3
                                obtain rfl : T = t := HTT.out.symm.trans e1
                                have HE0 : Hid (E = 0) := HTE.out.symm.trans e2
                                have HM2 : Hid (M2 = putK M (T, y1)) := HTM.out.symm.trans e3
                                have HPL : Hid ((putK M (T, y1)).length = q + 1) := by rw [length_put, HLN.out]; exact Lib.hid rfl
                                have hn2 : q ≤ 200 := by omega
                                have hcc := H6.out.keys.le
                                rw [HLN.out] at hcc
                                have hcb := H6.out.cb
                                have HPLA := Lib.hid H6.out.plain
                                have HK6 := Lib.hid H6.out.keys
                                have HPU : Hid (∀ j, j ≤ q → (∀ i x, i < j → M[i]? = some x → lt x (T, y1) = true) → (∀ x, M[j]? = some x → lt x (T, y1) = false) → M.take j ++ [(T, y1)] ++ M.drop j = putK M (T, y1)) := fun j h1 h2 h3 => by
                                  rw [putK, pos_eq (by rw [HLN.out]; exact h1) h2 h3]; simp
                                clear e1 e2 e3 HTT HTE HTM HTS hni hfull HF HID H5
                                go_upto_block 4 with fail
                                clear t12
                                go_cut [17] (fun i wx => CutJ M (T, y1) q w4 i wx)
                                case first => as_aux_lemma =>
                                  clear v2 v3 v4 w3 w5
                                  go_wp2_with fail
                                  go_loopw [17] (fun i W => AtRel M (T, y1) q w4 i W) (fun i _ => q - (intOf i).toNat)
                                  case atStart => exact ⟨0, 0, by omega, rfl, rfl, fun i x hi => by omega⟩
                                  case round =>
                                    obtain ⟨j, d6, hj, rfl, rfl, hall⟩ := hrel
                                    have HA := Lib.hid hall
                                    clear hall
                                    by_cases hjn : j < q
                                    · have t1 : decide ((j : Int) < (q : Int)) = true := by simp; omega
                                      have hx : M[j]? = some (M[j]'(by rw [HLN.out]; exact hjn)) := List.getElem?_eq_getElem _
                                      obtain ⟨b3, off3, rfl, hb3, x0, x1⟩ := HK6.out.cells hx
                                      have HX := Lib.hid hx
                                      clear hx
                                      generalize M[j]'(by rw [HLN.out]; exact hjn) = x at x0 x1 HX
                                      obtain ⟨m0, m1⟩ := x
                                      simp only at x0 x1
                                      have i2 : (0 : Int) ≤ (j : Int) := by omega
                                      by_cases hgo : lt (m0, m1) (T, y1) = true
                                      · have HA1 : Hid (∀ i x, i < j + 1 → M[i]? = some x → lt x (T, y1) = true) := fun i x hi hx => by
                                          by_cases e : i = j
                                          · subst e
                                            rw [HX.out] at hx
                                            cases hx
                                            exact hgo
                                          · exact HA.out i x (by omega) hx
                                        have hgo2 : decide (m0 < T) = true ∨ (decide (m0 < T) = false ∧ (m0 == T) = true ∧ decide (m1 < y1) = true) := by
                                          rcases (lt_is m0 m1 T y1).1 hgo with h' | ⟨h1, h2⟩
                                          · exact .inl (decide_eq_true h')
                                          · exact .inr ⟨decide_eq_false (by omega), by rw [beq_iff_eq]; exact h1, decide_eq_true h2⟩
                                        clear hgo
                                        rcases hgo2 with t2 | ⟨t2, t3, t4'⟩
                                        all_goals
                                          go_wp2
                                          go_quiet (fail)
                                          go_wp2
                                          go_roundw
                                          case rel => first | exact ⟨j + 1, _, by omega, by go_num, rfl, HA1.out⟩ | exact ⟨j + 1, _, by omega, by go_num, World.drewN_drewN _ _ _, HA1.out⟩
                                          case measure => simp [intOf]; omega
                                      · have hno : lt (m0, m1) (T, y1) = false := by simpa using hgo
                                        have HPUT := Lib.hid (HPU.out j (by omega) HA.out (fun x hx => by rw [HX.out] at hx; cases hx; exact hno))
                                        have hgo2 : (decide (m0 < T) = false ∧ (m0 == T) = false) ∨ (decide (m0 < T) = false ∧ (m0 == T) = true ∧ decide (m1 < y1) = false) := by
                                          have h3 : ¬ (m0 < T ∨ m0 = T ∧ m1 < y1) := fun h' => hgo ((lt_is m0 m1 T y1).2 h')
                                          by_cases he : m0 = T
                                          · exact .inr ⟨decide_eq_false (by omega), by rw [beq_iff_eq]; exact he, decide_eq_false (by omega)⟩
                                          · exact .inl ⟨decide_eq_false (by omega), by rw [beq_eq_false_iff_ne]; exact he⟩
                                        clear hgo hno
                                        rcases hgo2 with ⟨t2, t3⟩ | ⟨t2, t3, t4'⟩
                                        all_goals
                                          go_wp2
                                          go_quiet (fail)
                                          go_wp2
                                          go_meet
                                          first | exact ⟨j, _, by omega, rfl, rfl, HPUT.out⟩ | exact ⟨j, _, by omega, rfl, World.drewN_drewN _ _ _, HPUT.out⟩
                                    · have t1 : decide ((j : Int) < (q : Int)) = false := by simp; omega
                                      have t1' : decide (j < q) = false := by simp; omega
                                      obtain rfl : j = q := by omega
                                      have HPUT := Lib.hid (HPU.out j (by omega) HA.out (fun x hx => by
                                        have := (List.getElem?_eq_some_iff.1 hx).1
                                        rw [HLN.out] at this
                                        omega))
                                      go_wp2
                                      go_quiet (fail)
                                      go_wp2
                                      go_meet
                                      first | exact ⟨j, _, by omega, rfl, rfl, HPUT.out⟩ | exact ⟨j, _, by omega, rfl, World.drewN_drewN _ _ _, HPUT.out⟩
                                case rest =>
                                  obtain ⟨j, d6, hj, rfl, rfl, hput⟩ := hcut
                                  have HPUT := Lib.hid hput
                                  clear hput v1 v2 v3 v4 w3 w5
                                  have i2 : (0 : Int) ≤ (j : Int) := by omega
                                  have HSZ := Lib.hid (H6.out.drewN d6)
                                  have HLZ := Lib.hid (HL6.out.drewN d6)
                                  generalize w4.drewN d6 = Z at HSZ HLZ ⊢
                                  have HKX := Lib.hid HSZ.out.keys
                                  have hsx : ab < Z.heap.size := HLZ.out.lt
                                  have KP : Hid (∀ w', Below Z.heap.size Z w' → w'.cell? ⟨ab, 1, none⟩ = some (.int .i64 y1)) := fun w' hw' => (HLZ.out.below hw' HLZ.out.lt).cell 1
                                  have z1' : Z.cell? ⟨ab, 1, none⟩ = some (.int .i64 y1) := HLZ.out.cell 1
                                  rcases HPLA.out with ⟨rfl, rfl⟩ | ⟨b3, off3, rfl⟩
                                  · obtain rfl : q = 0 := by omega
                                    obtain rfl : j = 0 := by omega
                                    as_aux_lemma =>
                                      obtain ⟨ZT, hZT⟩ : ∃ ZT, ZT = M.take 0 := ⟨_, rfl⟩
                                      obtain ⟨ZD, hZD⟩ : ∃ ZD, ZD = M.drop 0 := ⟨_, rfl⟩
                                      have HZT := Lib.hid (show ZT.length = 0 by rw [hZT, List.length_take, HLN.out] <;> omega)
                                      have HZD := Lib.hid (show ZD.length = 0 by rw [hZD, List.length_drop, HLN.out] <;> omega)
                                      have RT : Hid (Keys Z none 0 ZT) := by rw [hZT]; exact HKX.out.take 0
                                      have RD : Hid (Keys Z none 0 ZD) := by rw [hZD]; exact (by rw [List.drop_eq_nil_of_le (by rw [HLN.out]; omega)]; exact keys_none _ _ _)
                                      have HIN : Hid (ZT ++ [(T, y1)] ++ ZD = putK M (T, y1)) := by rw [hZT, hZD]; exact HPUT.out
                                      clear hZT hZD HPUT
                                      go_wp2
                                      go_region_held3 (fun w' => w'.cell? ⟨ab, 1, none⟩ = some (.int .i64 y1)) (first | (with_reducible exact KP.out _ (below_d1 _ _)) | (with_reducible exact KP.out _ (below_d2 _ _ _)) | (with_reducible exact KP.out _ hp2.bel) | (with_reducible exact KP.out _ (hp2.grows.alloc _).bel) | (with_reducible exact KP.out _ hp3.bel) | (with_reducible exact KP.out _ hp4.bel) | go_keep)
                                        (first
                                          | (refine step_append_old (by rfl) (.tmp 184) (.tmp 187) (by rfl) Z _ 0 0 0 0 0 [] ZT none (by rfl) (by rfl) (by first | (with_reducible exact GrowsQ.drew (grows_n0 _)) | (with_reducible exact GrowsQ.drew ((grows_n0 _).alloc _)) | (with_reducible exact GrowsQ.drew (grows_n1 _ _))) HZT.out RT.out (by omega) (by omega) ?_; intro A2 c2 w6 hp2)
                                          | (refine step_append_keys (by rfl) (.tmp 188) (.tmp 193) (by rfl) Z A2 0 1 1 c2 (0 + 1) ([] ++ ZT) [(T, y1)] _ (by rfl) (by rfl) (by first | (with_reducible exact hp2.grows) | (with_reducible exact hp2.grows.alloc _)) rfl (by first | (with_reducible exact keys_2 T y1 (lies_m0 _ 32 #[.int .i64 y1, .int .i64 T])) | ((with_reducible refine keys_2 T y1 (hp2.keep _ _ _ (lies_drew ((lies_m0 _ 32 #[.int .i64 y1, .int .i64 T]).alloc _)) ?_)); exact block_ne (by omega)) | ((with_reducible refine keys_2 T y1 (hp2.keep _ _ _ (lies_drew (lies_m1 _ _ 32 #[.int .i64 y1, .int .i64 T])) ?_)); exact block_ne (by omega))) (by omega) (by omega) ?_; intro A3 c3 w7 hp3)
                                          | (refine step_append_old (by rfl) (.tmp 194) (.tmp 197) (by rfl) Z A3 (0 + 1) 0 0 c3 (0 + 1) ([] ++ ZT ++ [(T, y1)]) ZD none (by rfl) (by rfl) hp3.grows HZD.out RD.out (by omega) (by omega) ?_; intro A4 c4 w8 hp4))
                                      all_goals
                                        have HG4 := Lib.hid hp4.grows
                                        have e4 := HIN.out
                                        rw [List.nil_append, e4] at HG4
                                        clear hp2 hp3 hp4 e4
                                        have H9 := Lib.hid (HSZ.out.row HG4.out HPL.out)
                                        go_wp2
                                        go_meet
                                        exact ⟨0 + 1, c4, A4, rfl, by rw [HE0.out], rfl, by omega, by have h := H9.out; rw [← HM2.out] at h; exact h⟩
                                  · by_cases hcj : c = j
                                    · subst hcj
                                      obtain rfl : q = c := by omega
                                      as_aux_lemma =>
                                        obtain ⟨ZT, hZT⟩ : ∃ ZT, ZT = M.take q := ⟨_, rfl⟩
                                        obtain ⟨ZD, hZD⟩ : ∃ ZD, ZD = M.drop q := ⟨_, rfl⟩
                                        have HZT := Lib.hid (show ZT.length = q by rw [hZT, List.length_take, HLN.out] <;> omega)
                                        have HZD := Lib.hid (show ZD.length = 0 by rw [hZD, List.length_drop, HLN.out] <;> omega)
                                        have RT : Hid (Keys Z (some ⟨b3, off3, none⟩) q ZT) := by rw [hZT]; exact HKX.out.take q
                                        have RD : Hid (Keys Z (some ⟨b3, off3, none⟩) 0 ZD) := by rw [hZD]; exact (by rw [List.drop_eq_nil_of_le (by rw [HLN.out]; omega)]; exact keys_none _ _ _)
                                        have HIN : Hid (ZT ++ [(T, y1)] ++ ZD = putK M (T, y1)) := by rw [hZT, hZD]; exact HPUT.out
                                        clear hZT hZD HPUT
                                        go_wp2
                                        go_region_held3 (fun w' => w'.cell? ⟨ab, 1, none⟩ = some (.int .i64 y1)) (first | (with_reducible exact KP.out _ (below_d1 _ _)) | (with_reducible exact KP.out _ (below_d2 _ _ _)) | (with_reducible exact KP.out _ hp2.bel) | (with_reducible exact KP.out _ (hp2.grows.alloc _).bel) | (with_reducible exact KP.out _ hp3.bel) | (with_reducible exact KP.out _ hp4.bel) | go_keep)
                                          (first
                                            | (refine step_append_old (by rfl) (.tmp 184) (.tmp 187) (by rfl) Z _ 0 q q 0 q [] ZT (some ⟨b3, off3, none⟩) (by rfl) (by rfl) (by first | (with_reducible exact GrowsQ.drew (grows_n0 _)) | (with_reducible exact GrowsQ.drew ((grows_n0 _).alloc _)) | (with_reducible exact GrowsQ.drew (grows_n1 _ _))) HZT.out RT.out (by omega) (by omega) ?_; intro A2 c2 w6 hp2)
                                            | (refine step_append_keys (by rfl) (.tmp 188) (.tmp 193) (by rfl) Z A2 q 1 1 c2 (q + 1) ([] ++ ZT) [(T, y1)] _ (by rfl) (by rfl) (by first | (with_reducible exact hp2.grows) | (with_reducible exact hp2.grows.alloc _)) rfl (by first | (with_reducible exact keys_2 T y1 (lies_m0 _ 32 #[.int .i64 y1, .int .i64 T])) | ((with_reducible refine keys_2 T y1 (hp2.keep _ _ _ (lies_drew ((lies_m0 _ 32 #[.int .i64 y1, .int .i64 T]).alloc _)) ?_)); exact block_ne (by omega)) | ((with_reducible refine keys_2 T y1 (hp2.keep _ _ _ (lies_drew (lies_m1 _ _ 32 #[.int .i64 y1, .int .i64 T])) ?_)); exact block_ne (by omega))) (by omega) (by omega) ?_; intro A3 c3 w7 hp3)
                                            | (refine step_append_old (by rfl) (.tmp 194) (.tmp 197) (by rfl) Z A3 (q + 1) 0 0 c3 (q + 1) ([] ++ ZT ++ [(T, y1)]) ZD (some ⟨b3, off3, none⟩) (by rfl) (by rfl) hp3.grows HZD.out RD.out (by omega) (by omega) ?_; intro A4 c4 w8 hp4))
                                        all_goals
                                          have HG4 := Lib.hid hp4.grows
                                          have e4 := HIN.out
                                          rw [List.nil_append, e4] at HG4
                                          clear hp2 hp3 hp4 e4
                                          have H9 := Lib.hid (HSZ.out.row HG4.out HPL.out)
                                          go_wp2
                                          go_meet
                                          exact ⟨q + 1, c4, A4, rfl, by rw [HE0.out], rfl, by omega, by have h := H9.out; rw [← HM2.out] at h; exact h⟩
                                    · have q1 : ¬ (c = j) := hcj
                                      have q2 : j ≤ c := by omega
                                      have q3 : j ≤ q := by omega
                                      as_aux_lemma =>
                                        obtain ⟨ZT, hZT⟩ : ∃ ZT, ZT = M.take j := ⟨_, rfl⟩
                                        obtain ⟨ZD, hZD⟩ : ∃ ZD, ZD = M.drop j := ⟨_, rfl⟩
                                        have HZT := Lib.hid (show ZT.length = j by rw [hZT, List.length_take, HLN.out] <;> omega)
                                        have HZD := Lib.hid (show ZD.length = q - j by rw [hZD, List.length_drop, HLN.out] <;> omega)
                                        have RT : Hid (Keys Z (some ⟨b3, off3, none⟩) c ZT) := by rw [hZT]; exact HKX.out.take j
                                        have RD : Hid (Keys Z (some ⟨b3, off3 + j * 2, none⟩) (c - j) ZD) := by rw [hZD]; exact HKX.out.drop j (c - j) (by rw [HLN.out]; omega)
                                        have HIN : Hid (ZT ++ [(T, y1)] ++ ZD = putK M (T, y1)) := by rw [hZT, hZD]; exact HPUT.out
                                        clear hZT hZD HPUT
                                        go_wp2
                                        go_region_held3 (fun w' => w'.cell? ⟨ab, 1, none⟩ = some (.int .i64 y1)) (first | (with_reducible exact KP.out _ (below_d1 _ _)) | (with_reducible exact KP.out _ (below_d2 _ _ _)) | (with_reducible exact KP.out _ hp2.bel) | (with_reducible exact KP.out _ (hp2.grows.alloc _).bel) | (with_reducible exact KP.out _ hp3.bel) | (with_reducible exact KP.out _ hp4.bel) | go_keep)
                                          (first
                                            | (refine step_append_old (by rfl) (.tmp 184) (.tmp 187) (by rfl) Z _ 0 j c 0 j [] ZT (some ⟨b3, off3, none⟩) (by rfl) (by rfl) (by first | (with_reducible exact GrowsQ.drew (grows_n0 _)) | (with_reducible exact GrowsQ.drew ((grows_n0 _).alloc _)) | (with_reducible exact GrowsQ.drew (grows_n1 _ _))) HZT.out RT.out (by omega) (by omega) ?_; intro A2 c2 w6 hp2)
                                            | (refine step_append_keys (by rfl) (.tmp 188) (.tmp 193) (by rfl) Z A2 j 1 1 c2 (j + 1) ([] ++ ZT) [(T, y1)] _ (by rfl) (by rfl) (by first | (with_reducible exact hp2.grows) | (with_reducible exact hp2.grows.alloc _)) rfl (by first | (with_reducible exact keys_2 T y1 (lies_m0 _ 32 #[.int .i64 y1, .int .i64 T])) | ((with_reducible refine keys_2 T y1 (hp2.keep _ _ _ (lies_drew ((lies_m0 _ 32 #[.int .i64 y1, .int .i64 T]).alloc _)) ?_)); exact block_ne (by omega)) | ((with_reducible refine keys_2 T y1 (hp2.keep _ _ _ (lies_drew (lies_m1 _ _ 32 #[.int .i64 y1, .int .i64 T])) ?_)); exact block_ne (by omega))) (by omega) (by omega) ?_; intro A3 c3 w7 hp3)
                                            | (refine step_append_old (by rfl) (.tmp 194) (.tmp 197) (by rfl) Z A3 (j + 1) (q - j) (c - j) c3 (q + 1) ([] ++ ZT ++ [(T, y1)]) ZD (some ⟨b3, off3 + j * 2, none⟩) (by rfl) (by rfl) hp3.grows HZD.out RD.out (by omega) (by omega) ?_; intro A4 c4 w8 hp4))
                                        all_goals
                                          have HG4 := Lib.hid hp4.grows
                                          have e4 := HIN.out
                                          rw [List.nil_append, e4] at HG4
                                          clear hp2 hp3 hp4 e4
                                          have H9 := Lib.hid (HSZ.out.row HG4.out HPL.out)
                                          go_wp2
                                          go_meet
                                          exact ⟨q + 1, c4, A4, rfl, by rw [HE0.out], rfl, by omega, by have h := H9.out; rw [← HM2.out] at h; exact h⟩
                          case rest => as_aux_lemma =>
                            obtain ⟨n6, c6, A6, rfl, rfl, rfl, hn6, hst6⟩ := hcut
                            have H9 := Lib.hid hst6
                            clear hst6 v1 v2 v3 v4
                            go_wp2
                            go_meet
                            exact ⟨S6, now, n6, c6, A6, M2, rfl, rfl, hn6, H9.out⟩
              · have t7 : (y0 == 0) = false := by simp [hd0]
                clear hd0
                by_cases hd1 : y0 = 1
                · as_aux_lemma =>
                    have t8 : (y0 == 1) = true := by simp [hd1]
                    clear hd1
                    have KP := has_drop y1 H5.out.has
                    rcases HF.out with ⟨q', x, h1, h2, h3', h4'⟩ | ⟨h1, h2⟩
                    · have hin : y1 ∈ M.map idK := List.mem_map.2 ⟨x, List.mem_of_getElem? h3', h4'⟩
                      have HWO := Lib.hid (wo_at H5.out.has.whl.good.ids h3' h4')
                      rw [decide_eq_true hin] at KP
                      have HKP := Lib.hid KP
                      subst h1
                      have t11 : decide ((0 : Int) ≤ (q' : Int)) = true := by simp
                      obtain ⟨b3, off3, rfl, -, -, -⟩ := H5.out.keys.cells h3'
                      have hcc := H5.out.keys.le
                      rw [HLN.out] at hcc
                      have hcb := H5.out.cb
                      clear hin h3' h4' KP
                      go_wp2_with (fail)
                      with_reducible refine HKP.out.mono ?_
                      intro e w4 hthen
                      obtain ⟨S6, h6, -, -⟩ := H5.out.acts hthen
                      obtain ⟨rfl, -, -⟩ := hthen
                      have H6 := Lib.hid h6
                      clear h6 z0 z1 z2 z3 z4 HKP
                      go_upto_region 41 with fail
                      obtain ⟨q1, hq1⟩ : ∃ q1, q1 = q' + 1 := ⟨_, rfl⟩
                      rw [← hq1] at HWO
                      obtain ⟨NN, hNN⟩ : ∃ NN, NN = q - 1 := ⟨_, rfl⟩
                      have hw : IntKind.i64.wrap ((q' : Int) + 1) = (q1 : Int) := by rw [IntWalk.i64_in _ ⟨by omega, by omega⟩]; omega
                      obtain ⟨ZT, hZT⟩ : ∃ ZT, ZT = M.take q' := ⟨_, rfl⟩
                      obtain ⟨ZD, hZD⟩ : ∃ ZD, ZD = M.drop q1 := ⟨_, rfl⟩
                      rw [← hZT, ← hZD] at HWO
                      have HZT := Lib.hid (show ZT.length = q' by rw [hZT, List.length_take, HLN.out] <;> omega)
                      have HZD := Lib.hid (show ZD.length = q - q1 by rw [hZD, List.length_drop, HLN.out])
                      have HWL := Lib.hid (show (wo M y1).length = NN by rw [HWO.out, List.length_append, HZT.out, HZD.out]; omega)
                      have RT : Hid (Keys w4 (some ⟨b3, off3, none⟩) c ZT) := by rw [hZT]; exact H6.out.keys.take q'
                      have q2 : q' ≤ c := by omega
                      have q3 : q' ≤ q := by omega
                      have q4 : q1 ≤ c := by omega
                      have q5 : q1 ≤ q := by omega
                      have p1 : (0 : Int) ≤ (q' : Int) := by omega
                      have p2 : (q' : Int) ≤ (c : Int) := by omega
                      have p3 : (0 : Int) ≤ (q1 : Int) := by omega
                      have p4 : (q1 : Int) ≤ (q : Int) := by omega
                      have p5 : (q : Int) ≤ (c : Int) := by omega
                      have hN2 : NN ≤ 2000 := by omega
                      have hq2 : q' ≤ 2000 := by omega
                      have hNk : NN ≤ k + 1 := by omega
                      by_cases hcq : c = q1
                      · have hqn : q = q1 := by omega
                        have RD : Hid (Keys w4 (some ⟨b3, off3, none⟩) 0 ZD) := by
                          rw [hZD, List.drop_eq_nil_of_le (by rw [HLN.out]; omega)]; exact keys_none _ _ _
                        have HZD0 := Lib.hid (show ZD.length = 0 by have := HZD.out; omega)
                        have HQ2 := Lib.hid (show q' + 0 = NN by omega)
                        subst hcq hqn
                        clear hZT hZD hq1 hNN HF HID h2 HZD
                        as_aux_lemma =>
                          go_wp2_with (fail)
                          go_region_held3 (fun _ => True) (exact trivial)
                            (first
                              | (refine step_append_old (by rfl) (.tmp 219) (.tmp 222) (by rfl) w4 _ 0 q' _ 0 q' [] ZT (some ⟨b3, off3, none⟩) (by rfl) (by rfl) (by with_reducible exact GrowsQ.drew (grows_n0 _)) HZT.out RT.out (by omega) hq2 ?_; intro A2 c2 w5 hp2)
                              | (refine step_append_old (by rfl) (.tmp 223) (.tmp 227) (by rfl) w4 A2 q' 0 0 c2 NN ([] ++ ZT) ZD (some ⟨b3, off3, none⟩) (by rfl) (by rfl) hp2.grows HZD0.out RD.out HQ2.out hN2 ?_; intro A3 c3 w6 hp3))
                          all_goals
                            have HG := Lib.hid hp3.grows
                            rw [List.nil_append, ← HWO.out] at HG
                            have H7 := Lib.hid (H6.out.row HG.out HWL.out)
                            clear hp2 hp3
                            go_wp2
                            go_meet
                            exact ⟨S6, now, NN, c3, A3, _, rfl, rfl, hNk, H7.out⟩
                      · have RD : Hid (Keys w4 (some ⟨b3, off3 + q1 * 2, none⟩) (c - q1) ZD) := by
                          rw [hZD]; exact H6.out.keys.drop q1 (c - q1) (by rw [HLN.out]; omega)
                        have HQ2 := Lib.hid (show q' + (q - q1) = NN by omega)
                        clear hZT hZD hq1 hNN HF HID h2
                        as_aux_lemma =>
                          go_wp2_with (fail)
                          go_region_held3 (fun _ => True) (exact trivial)
                            (first
                              | (refine step_append_old (by rfl) (.tmp 219) (.tmp 222) (by rfl) w4 _ 0 q' c 0 q' [] ZT (some ⟨b3, off3, none⟩) (by rfl) (by rfl) (by with_reducible exact GrowsQ.drew (grows_n0 _)) HZT.out RT.out (by omega) hq2 ?_; intro A2 c2 w5 hp2)
                              | (refine step_append_old (by rfl) (.tmp 223) (.tmp 227) (by rfl) w4 A2 q' (q - q1) (c - q1) c2 NN ([] ++ ZT) ZD (some ⟨b3, off3 + q1 * 2, none⟩) (by rfl) (by rfl) hp2.grows HZD.out RD.out HQ2.out hN2 ?_; intro A3 c3 w6 hp3))
                          all_goals
                            have HG := Lib.hid hp3.grows
                            rw [List.nil_append, ← HWO.out] at HG
                            have H7 := Lib.hid (H6.out.row HG.out HWL.out)
                            clear hp2 hp3
                            go_wp2
                            go_meet
                            exact ⟨S6, now, NN, c3, A3, _, rfl, rfl, hNk, H7.out⟩
                    · have hni := HID.out h1
                      rw [decide_eq_false hni, wo_none (ids_none.2 hni)] at KP
                      have HKP := Lib.hid KP
                      subst h1
                      clear h2 KP
                      as_aux_lemma =>
                        go_wp2_with (fail)
                        with_reducible refine HKP.out.mono ?_
                        intro e w4 hthen
                        obtain ⟨S6, h6, -, -⟩ := H5.out.acts hthen
                        obtain ⟨rfl, -, -⟩ := hthen
                        have H6 := Lib.hid h6
                        clear h6
                        go_wp2
                        go_meet
                        exact ⟨S6, now, q, c, A, M, rfl, rfl, by omega, H6.out⟩
                · as_aux_lemma =>
                    have t8 : (y0 == 1) = false := by simp [hd1]
                    clear hd1
                    by_cases harg : y2 < now ∨ 1099511627776 < y2
                    · have KP := Lib.hid (has_pro_no y2 harg H5.out.has)
                      have hth : decide (y2 < now) = true ∨ (decide (y2 < now) = false ∧ decide (1099511627776 < y2) = true) := by
                        by_cases h1 : y2 < now
                        · exact .inl (decide_eq_true h1)
                        · exact .inr ⟨decide_eq_false h1, decide_eq_true (by omega)⟩
                      clear harg HF HID
                      rcases hth with t9 | ⟨t9, t10⟩
                      all_goals
                        as_aux_lemma =>
                          go_wp2_with (fail)
                          with_reducible refine KP.out.mono ?_
                          rintro e w4 ⟨rfl, rfl⟩
                          go_wp2
                          go_roundw
                          case rel => exact ⟨k + 1, _, S, now, q, c, A, M, by omega, by omega, by go_num, rfl, rfl, rfl, H5.out⟩
                          case measure => simp [intOf]; omega
                    · have t9 : decide (y2 < now) = false := decide_eq_false (by omega)
                      have t10 : decide (1099511627776 < y2) = false := decide_eq_false (by omega)
                      have hy1 : now ≤ y2 := by omega
                      have hy2 : y2 ≤ 1099511627776 := by omega
                      clear harg HF HID
                      obtain ⟨r, hrr⟩ : ∃ r, r = (due M y2).length := ⟨_, rfl⟩
                      obtain ⟨hc1, hc2⟩ := due_cut (t := y2) H5.out.has.whl.good.srt
                      rw [← hrr] at hc1 hc2
                      have hrq : r ≤ q := by
                        have h' := (due_sub M y2).length_le
                        rw [HLN.out, ← hrr] at h'
                        exact h'
                      have HC1 := Lib.hid hc1
                      have HC2 := Lib.hid hc2
                      have KP := Lib.hid (has_pro r y2 hrr.symm hy1 hy2 H5.out.has)
                      clear hrr hc1 hc2
                      go_wp2_with (fail)
                      with_reducible refine KP.out.mono ?_
                      rintro e w4 ⟨A4, c4, rfl, h4, ht4, hc4, hk4, -, -⟩
                      have HKX := Lib.hid hk4
                      have HL6 := Lib.hid (HL5.out.turns ht4 (fun hs => by have := HGS.out ab hs; omega))
                      have H6 := Lib.hid (H5.out.adv (h4.eq HC2.out) ht4)
                      clear h4 ht4 hk4 z0 z1 z2 z3 z4 HL5 KP
                      have hcc := H6.out.keys.le
                      rw [HLN.out] at hcc
                      have hcb := H6.out.cb
                      have HK6 := Lib.hid H6.out.keys
                      have hal6 := HL6.out.lt
                      have v2 : w4.cell? ⟨ab, 2, none⟩ = some (.int .i64 y2) := HL6.out.cell 2
                      go_wp2
                      clear v2
                      go_loopw [20] (fun v W => CntRel r w4 v W) (fun v _ => r + 1 - (intOf v).toNat)
                      case atStart => exact ⟨0, 0, by omega, rfl, rfl⟩
                      case round =>
                        obtain ⟨j, d, hj, rfl, rfl⟩ := hrel
                        have i2 : (0 : Int) ≤ (j : Int) := by omega
                        by_cases hjr : j < r
                        · have t12 : decide ((j : Int) < (q : Int)) = true := by simp; omega
                          have t14 : decide ((r : Int) ≤ (j : Int)) = false := by simp; omega
                          have hx : M[j]? = some (M[j]'(by rw [HLN.out]; omega)) := List.getElem?_eq_getElem _
                          have hxd : (due M y2)[j]? = some (M[j]'(by rw [HLN.out]; omega)) := by
                            rw [HC1.out, List.getElem?_take, if_pos hjr]; exact hx
                          have hle : (M[j]'(by rw [HLN.out]; omega)).1 ≤ y2 := (due_mem.1 (List.mem_of_getElem? hxd)).2
                          obtain ⟨b3, off3, rfl, hb3, v0, v1⟩ := HK6.out.cells hx
                          obtain ⟨b4, off4, rfl, hb4, u0⟩ := HKX.out.at_ (nums_at hxd)
                          clear hx hxd
                          generalize M[j]'(by rw [HLN.out]; omega) = x at v0 v1 u0 hle
                          obtain ⟨m0, m1⟩ := x
                          simp only [idK] at v0 v1 u0 hle
                          have t13 : decide (m0 ≤ y2) = true := decide_eq_true hle
                          have hjq : j < q := by omega
                          clear hle
                          as_aux_lemma =>
                            go_wp2
                            go_quiet (fail)
                            go_wp2
                            go_roundw
                            case rel => first | exact ⟨j + 1, _, by omega, by go_num, rfl⟩ | exact ⟨j + 1, _, by omega, by go_num, World.drewN_drewN _ _ _⟩
                            case measure => simp [intOf]; omega
                        · obtain rfl : j = r := by omega
                          have HS7 := Lib.hid (H6.out.drewN d)
                          have hstop : (decide ((j : Int) < (q : Int)) = false ∧ decide (j < q) = false) ∨ (decide ((j : Int) < (q : Int)) = true ∧ ∃ b3 off3 z0, A = some ⟨b3, off3, none⟩ ∧ b3 < w4.heap.size ∧ w4.cell? ⟨b3, off3 + j * 2 + 1, none⟩ = some (.int .i64 z0) ∧ decide (z0 ≤ y2) = false) := by
                            by_cases hjq : j < q
                            · have hx : M[j]? = some (M[j]'(by rw [HLN.out]; omega)) := List.getElem?_eq_getElem _
                              have hgt : y2 < (M[j]'(by rw [HLN.out]; omega)).1 := by
                                have hm : (M[j]'(by rw [HLN.out]; omega)) ∈ stay M y2 := by
                                  rw [HC2.out]
                                  exact List.mem_of_getElem? (i := 0) (by rw [List.getElem?_drop, Nat.add_zero]; exact hx)
                                exact (stay_mem.1 hm).2
                              obtain ⟨b3, off3, e3, hb3, -, v0⟩ := HK6.out.cells hx
                              exact .inr ⟨decide_eq_true (by omega), b3, off3, _, e3, hb3, v0, decide_eq_false (by omega)⟩
                            · exact .inl ⟨decide_eq_false (by omega), decide_eq_false hjq⟩
                          have q2 : j ≤ c := by omega
                          have HST : Hid (∀ A' c', ((c = j ∧ A' = A ∧ c' = 0) ∨ (c ≠ j ∧ c' = c - j ∧ ∃ b off, A = some ⟨b, off, none⟩ ∧ A' = some ⟨b, off + j * 2, none⟩)) → St w S p room y2 (q - j) c' A' (M.drop j) (M.drop j) (w4.drewN d)) := fun A' c' hA' => by
                            exact HS7.out.cut hrq hA'
                          rcases hstop with ⟨t12, t12'⟩ | ⟨t12, b3, off3, z0, rfl, hb3, v0, t13⟩
                          · by_cases hcj : c = j
                            · subst hcj
                              obtain rfl : q = c := by have := of_decide_eq_false t12'; omega
                              have HS8 := Lib.hid (HST.out A 0 (.inl (by simp)))
                              rw [Nat.sub_self] at HS8
                              as_aux_lemma =>
                                go_wp2
                                go_meet
                                exact ⟨S, y2, 0, _, _, _, rfl, rfl, by omega, HS8.out⟩
                            · obtain ⟨b3, off3, rfl⟩ : ∃ b3 off3, A = some ⟨b3, off3, none⟩ := by
                                rcases H5.out.plain with ⟨_, h'⟩ | h'
                                · omega
                                · exact h'
                              have HS8 := Lib.hid (HST.out (some ⟨b3, off3 + j * 2, none⟩) (c - j) (.inr ⟨hcj, rfl, b3, off3, rfl, rfl⟩))
                              as_aux_lemma =>
                                go_wp2
                                go_meet
                                exact ⟨S, y2, q - j, _, _, _, rfl, rfl, by omega, HS8.out⟩
                          · have hjq : j < q := by simpa using t12
                            have hcj : ¬ c = j := by omega
                            have HS8 := Lib.hid (HST.out (some ⟨b3, off3 + j * 2, none⟩) (c - j) (.inr ⟨hcj, rfl, b3, off3, rfl, rfl⟩))
                            as_aux_lemma =>
                              go_wp2
                              go_meet
                              exact ⟨S, y2, q - j, _, _, _, rfl, rfl, by omega, HS8.out⟩
            case rest =>
              obtain ⟨S2, now2, n2, c2, A2, M2, rfl, rfl, hn2, hst⟩ := hcut
              have H6 := Lib.hid hst
              have KL := waiting hst.has.whl
              rw [hst.len] at KL
              have HKL := Lib.hid KL
              clear hst z0 z1 z2 z3 z4 HF HID H5 HL5 KL
              go_wp2_with (fail)
              with_reducible refine HKL.out.mono ?_
              rintro e w7 ⟨rfl, rfl⟩
              go_wp2
              go_roundw
              case rel => exact ⟨k + 1, _, S2, now2, n2, c2, A2, M2, by omega, by omega, by go_num, rfl, rfl, rfl, H6.out⟩
              case measure => simp [intOf]; omega
      · have t4 : decide ((k : Int) < (l.length : Int)) = false := by simp; omega
        have t4' : decide (k < l.length) = false := by simp; omega
        go_wp2
        go_ret
        exact ⟨rfl, H3.out.has.below⟩
end Go.Proofs.Ytlodfipiodlgdaa.Jb.Model
