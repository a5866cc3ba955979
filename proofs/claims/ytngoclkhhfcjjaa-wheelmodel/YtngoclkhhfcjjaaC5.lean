/- The walk of the statement on whatever acts, held against a list in order. -/
import Derived.Test.YtngoclkhhfcjjaaMo
import Derived.Test.YtngoclkhhfcjjaaOp
namespace Go.Proofs.Ytngoclkhhfcjjaa.Model
open Go.RowKit

set_option maxRecDepth 100000 in
set_option maxHeartbeats 1000000 in
theorem out (r : Int) (l : List (Int × Ky)) (a : Option Addr) (cap : Nat) (w : World) (hm : l.length ≤ maxLen) (hroom : r < 1 ∨ 1024 < r) : Calls Try.prog 3 #[.int .i64 r, .slice a l.length cap] w (Woke w) := by
  unfold maxLen at hm
  have HRM := Lib.hid hroom
  go_enter Try.func3, Try.ntmps3
  go_wp2_with (fail)
  refine (awake _).mono ?_
  rintro e w1 ⟨rfl, hb1⟩
  have B1 := Lib.hid hb1
  clear hb1
  by_cases h3 : 300 < l.length
  · have t1 : decide ((300 : Int) < (l.length : Int)) = true := by simp; omega
    go_wp2_with (fail)
    refine (awake _).mono ?_
    rintro e w2 ⟨rfl, hb2⟩
    go_wp2
    go_ret
    exact ⟨rfl, B1.out.trans (hb2.mono B1.out.size)⟩
  · have t1 : decide ((300 : Int) < (l.length : Int)) = false := by simp; omega
    rcases hroom with h | h
    · have t2 : decide (r < 1) = true := by simp; omega
      go_wp2_with (fail)
      with_reducible refine (new_no r _ HRM.out).mono ?_
      rintro e w' ⟨rfl, rfl⟩
      go_wp2
      go_ret
      exact ⟨rfl, B1.out⟩
    · have t2 : decide (r < 1) = false := by simp; omega
      have t3 : decide (1024 < r) = true := by simp; omega
      go_wp2_with (fail)
      with_reducible refine (new_no r _ HRM.out).mono ?_
      rintro e w' ⟨rfl, rfl⟩
      go_wp2
      go_ret
      exact ⟨rfl, B1.out⟩

set_option maxRecDepth 100000 in
set_option maxHeartbeats 16000000 in
theorem core (room : Nat) (l : List (Int × Ky)) (a : Option Addr) (cap : Nat) (w : World) (hm : l.length ≤ maxLen) (hr : ActsIn w a cap l) (r1 : 1 ≤ room) (r2 : room ≤ 1024) : Calls Try.prog 3 #[.int .i64 (room : Int), .slice a l.length cap] w (Woke w) := by
  unfold maxLen at hm
  have HR := Lib.hid hr
  clear hr
  have t2 : decide ((room : Int) < 1) = false := by simp; omega
  have t3 : decide ((1024 : Int) < (room : Int)) = false := by simp; omega
  have KN := Lib.hid (fun W (hb : Below w.heap.size w W) => has_new (w0 := w) room hb r1 r2)
  go_enter Try.func3, Try.ntmps3
  go_wp2_with (fail)
  refine (awake _).mono ?_
  rintro e w1 ⟨rfl, hb1⟩
  have B1 := Lib.hid hb1
  clear hb1
  by_cases h3 : 300 < l.length
  · have t1 : decide ((300 : Int) < (l.length : Int)) = true := by simp; omega
    go_wp2_with (fail)
    refine (awake _).mono ?_
    rintro e w2 ⟨rfl, hb2⟩
    go_wp2
    go_ret
    exact ⟨rfl, B1.out.trans (hb2.mono B1.out.size)⟩
  · have t1 : decide ((300 : Int) < (l.length : Int)) = false := by simp; omega
    go_wp2_with (fail)
    with_reducible refine (KN.out _ B1.out).mono ?_
    rintro e w2 ⟨rfl, h2, _⟩
    have H2 : Hid (St w (fun k => k = w1.heap.size) w1.heap.size room 0 0 0 none [] w2) := ⟨h2, rfl, keys_none _ _ _, fun x hx => (by cases hx), .inl ⟨rfl, rfl⟩, by omega⟩
    clear h2
    generalize w1.heap.size = p at H2 ⊢
    go_wp2
    clear t1 t2 t3
    go_loopw [7, 8, 9] (fun s t i W => ModelRel w p room l.length s t i W) (fun _ _ i _ => l.length - (intOf i).toNat)
    case atStart => exact ⟨0, _, _, 0, 0, 0, none, [], by omega, by omega, rfl, rfl, rfl, rfl, H2.out⟩
    case round =>
      obtain ⟨k, X, S, now, n, c, A, M, hk, hnk, rfl, rfl, rfl, rfl, hst⟩ := hrel
      have H3 := Lib.hid hst
      clear hst H2
      by_cases hlt : k < l.length
      · have t4 : decide ((k : Int) < (l.length : Int)) = true := by simp; omega
        have hx : l[k]? = some l[k] := List.getElem?_eq_getElem hlt
        obtain ⟨b, off, rfl, hbl, x0, x1, x2⟩ := (HR.out.below (Nat.le_refl _) H3.out.has.below).cells hx
        have HC : Hid (∀ W, Below w.heap.size w W → W.cell? ⟨b, off + k * 3, none⟩ = some (.int .i64 (l[k]).1)) := fun W hW => by
          obtain ⟨b', off', e', _, y0, _, _⟩ := (HR.out.below (Nat.le_refl _) hW).cells hx
          cases e'
          exact y0
        clear hx
        generalize l[k] = x at x0 x1 x2 HC
        obtain ⟨dd, y0, y1⟩ := x
        simp only at x0 x1 x2 HC
        have HL := Lib.hid (Lies.made X 30 #[.int .i64 y0, .int .i64 y1])
        have H4 := Lib.hid (H3.out.more (below_new X (.cells #[.int .i64 y0, .int .i64 y1] 30)))
        go_wp2
        clear x1 x2 x0
        obtain ⟨g, hg⟩ : ∃ g, g = X.heap.size := ⟨_, rfl⟩
        rw [← hg] at HL ⊢
        have HGS := Lib.hid (show ∀ q, S q → ¬ q = g from fun q hq e => by have := (H3.out.has.inS q hq).2; omega)
        have HGW := Lib.hid (show w.heap.size ≤ g from by rw [hg]; exact H3.out.has.below.size)
        clear hg H3
        generalize X.alloc (.cells #[.int .i64 y0, .int .i64 y1] 30) = V at HL H4 ⊢
        have hgl := HL.out.lt
        have z0 : V.cell? ⟨g, 0, none⟩ = some (.int .i64 y0) := HL.out.cell 0
        have z1 : V.cell? ⟨g, 1, none⟩ = some (.int .i64 y1) := HL.out.cell 1
        have HLN := Lib.hid H4.out.len
        go_loopw [11, 12] (fun kv j W => FndRel M y1 V n kv j W) (fun _ j _ => n - (intOf j).toNat)
        case atStart => exact ⟨0, 0, -1, by omega, rfl, rfl, rfl, Fnd.none _ _⟩
        case round =>
          obtain ⟨q, d, kk, hq, rfl, rfl, rfl, hfnd⟩ := hrel
          have HF := Lib.hid hfnd
          clear hfnd
          by_cases hqn : q < n
          · have t5 : decide ((q : Int) < (n : Int)) = true := by simp; omega
            have hx : M[q]? = some (M[q]'(by rw [HLN.out]; exact hqn)) := List.getElem?_eq_getElem _
            obtain ⟨b2, off2, rfl, hb2, u0, u1⟩ := H4.out.keys.cells hx
            have HX := Lib.hid hx
            clear hx
            generalize M[q]'(by rw [HLN.out]; exact hqn) = x at u0 u1 HX
            obtain ⟨v0, v1⟩ := x
            simp only at u0 u1
            have i1 : (0 : Int) ≤ (q : Int) := by omega
            by_cases hid : v1 = y1
            · have t6 : (v1 == y1) = true := by simp [hid]
              have HF2 := Lib.hid (Fnd.hit HX.out (show idK (v0, v1) = y1 from hid))
              clear hid
              go_wp2
              go_quiet (fail)
              go_wp2
              go_roundw
              case rel => first | exact ⟨q + 1, _, _, by omega, by go_num, rfl, rfl, HF2.out⟩ | exact ⟨q + 1, _, _, by omega, by go_num, rfl, World.drewN_drewN _ _ _, HF2.out⟩
              case measure => simp [intOf]; omega
            · have t6 : (v1 == y1) = false := by simp [hid]
              have HF2 := Lib.hid (HF.out.miss HX.out (show idK (v0, v1) ≠ y1 from hid))
              clear hid
              go_wp2
              go_quiet (fail)
              go_wp2
              go_roundw
              case rel => first | exact ⟨q + 1, _, _, by omega, by go_num, rfl, rfl, HF2.out⟩ | exact ⟨q + 1, _, _, by omega, by go_num, rfl, World.drewN_drewN _ _ _, HF2.out⟩
              case measure => simp [intOf]; omega
          · have t5 : decide ((q : Int) < (n : Int)) = false := by simp; omega
            have t5' : decide (q < n) = false := by simp; omega
            obtain rfl : q = n := by omega
            have H5 := Lib.hid (H4.out.drewN d)
            have HL5 := Lib.hid (HL.out.drewN d)
            clear z0 z1 H4 HL hgl
            generalize V.drewN d = Y at H5 HL5 ⊢
            have hgl := HL5.out.lt
            have z0 : Y.cell? ⟨g, 0, none⟩ = some (.int .i64 y0) := HL5.out.cell 0
            have z1 : Y.cell? ⟨g, 1, none⟩ = some (.int .i64 y1) := HL5.out.cell 1
            have xd : Y.cell? ⟨b, off + k * 3, none⟩ = some (.int .i64 dd) := HC.out Y H5.out.has.below
            have HID := Lib.hid (show kk = -1 → y1 ∉ M.map idK from fun hk1 => by
              rcases HF.out with ⟨q', x, h1, _⟩ | ⟨_, h2⟩
              · omega
              · refine ids_none.1 (fun x hx => ?_)
                obtain ⟨i, hi⟩ := List.getElem?_of_mem hx
                exact h2 i x (by have := (List.getElem?_eq_some_iff.1 hi).1; rw [HLN.out] at this; exact this) hi)
            go_upto_if 81 with fail
            go_cut [7, 8] (fun s t wx => Cut w p room k s t wx)
            case first =>
              by_cases hd0 : dd = 0
              · as_aux_lemma =>
                  have t7 : (dd == 0) = true := by simp [hd0]
                  clear hd0
                  by_cases harg : y0 < now ∨ 1099511627776 < y0
                  · have KP := Lib.hid (has_add_arg (y0, y1) harg H5.out.has)
                    simp only [aggQ] at KP
                    have hth : decide (y0 < now) = true ∨ (decide (y0 < now) = false ∧ decide (1099511627776 < y0) = true) := by
                      by_cases h1 : y0 < now
                      · exact .inl (decide_eq_true h1)
                      · exact .inr ⟨decide_eq_false h1, decide_eq_true (by omega)⟩
                    clear harg
                    rcases hth with t9 | ⟨t9, t10⟩
                    all_goals
                      go_wp2_with (fail)
                      with_reducible refine KP.out.mono ?_
                      intro e w4 hthen
                      obtain ⟨S6, h6⟩ := H5.out.same hthen
                      obtain ⟨rfl, -, -⟩ := hthen
                      have H6 := Lib.hid h6
                      clear h6
                      go_wp2
                      go_meet
                      exact ⟨S6, now, q, c, A, M, rfl, rfl, by omega, H6.out⟩
                  · have t9 : decide (y0 < now) = false := decide_eq_false (by omega)
                    have t10 : decide (1099511627776 < y0) = false := decide_eq_false (by omega)
                    have hy1 : now ≤ y0 := by omega
                    have hy2 : y0 ≤ 1099511627776 := by omega
                    clear harg
                    rcases HF.out with ⟨q', x, h1, h2, h3', h4'⟩ | ⟨h1, h2⟩
                    · have hin : idK (y0, y1) ∈ M.map idK := List.mem_map.2 ⟨x, List.mem_of_getElem? h3', h4'⟩
                      have KP := Lib.hid (has_add_twice (y0, y1) hy1 hy2 hin H5.out.has)
                      simp only [aggQ] at KP
                      subst h1
                      have t11 : decide ((0 : Int) ≤ (q' : Int)) = true := by simp
                      clear hin h2 h3' h4'
                      go_wp2_with (fail)
                      with_reducible refine KP.out.mono ?_
                      intro e w4 hthen
                      obtain ⟨S6, h6⟩ := H5.out.same hthen
                      obtain ⟨rfl, -, -⟩ := hthen
                      have H6 := Lib.hid h6
                      clear h6
                      go_wp2
                      go_meet
                      exact ⟨S6, now, q, c, A, M, rfl, rfl, by omega, H6.out⟩
                    · have hni := HID.out h1
                      subst h1
                      clear h2
                      by_cases hfull : q = room
                      · have KP := Lib.hid (has_add_full (y0, y1) hy1 hy2 hni (by rw [HLN.out]; exact hfull) H5.out.has)
                        simp only [aggQ] at KP
                        have t12 : ((q : Int) == (room : Int)) = true := by simp [hfull]
                        clear hfull
                        go_wp2_with (fail)
                        with_reducible refine KP.out.mono ?_
                        intro e w4 hthen
                        obtain ⟨S6, h6⟩ := H5.out.same hthen
                        obtain ⟨rfl, -, -⟩ := hthen
                        have H6 := Lib.hid h6
                        clear h6
                        go_wp2
                        go_meet
                        exact ⟨S6, now, q, c, A, M, rfl, rfl, by omega, H6.out⟩
                      · have t12 : ((q : Int) == (room : Int)) = false := by rw [beq_eq_false_iff_ne]; omega
                        have hqr : q < room := by have h' := H5.out.has.whl.len; rw [HLN.out] at h'; omega
                        have KR := refPut M (y0, y1) A c (by rw [HLN.out]; omega) H5.out.keys H5.out.plain H5.out.cb
                        rw [HLN.out] at KR
                        simp only [aggQ] at KR
                        have HKR := Lib.hid KR
                        clear KR hfull
                        go_wp2_with (fail)
                        with_reducible refine HKR.out.mono ?_
                        rintro e w4 ⟨A6, c6, rfl, hg6⟩
                        have HG6 := Lib.hid hg6
                        have HL6 := Lib.hid (HL5.out.below hg6.1 HL5.out.lt)
                        have KP := Lib.hid (has_add (y0, y1) hy1 hy2 hni (by rw [HLN.out]; exact hqr) (H5.out.has.more hg6.1))
                        simp only [aggQ] at KP
                        clear hg6
                        have hgl6 := HL6.out.lt
                        have u0 : w4.cell? ⟨g, 0, none⟩ = some (.int .i64 y0) := HL6.out.cell 0
                        have u1 : w4.cell? ⟨g, 1, none⟩ = some (.int .i64 y1) := HL6.out.cell 1
                        have HP := Lib.hid (show (putK M (y0, y1)).length = q + 1 by rw [length_put, HLN.out])
                        go_wp2_with (fail)
                        with_reducible refine KP.out.mono ?_
                        intro e w5 hthen
                        obtain ⟨S6, h6⟩ := St.anew H5.out.has HG6.out HP.out hthen
                        obtain ⟨rfl, -, -⟩ := hthen
                        have H6 := Lib.hid h6
                        clear h6
                        go_wp2
                        go_meet
                        exact ⟨S6, now, q + 1, c6, A6, _, rfl, rfl, by omega, H6.out⟩
              · have t7 : (dd == 0) = false := by simp [hd0]
                clear hd0
                by_cases hd1 : dd = 1
                · as_aux_lemma =>
                    have t8 : (dd == 1) = true := by simp [hd1]
                    clear hd1
                    rcases HF.out with ⟨q', x, h1, h2, h3', h4'⟩ | ⟨h1, h2⟩
                    · have hin : y1 ∈ M.map idK := List.mem_map.2 ⟨x, List.mem_of_getElem? h3', h4'⟩
                      have KP := Lib.hid (has_cancel y1 hin H5.out.has)
                      have HWO := Lib.hid (wo_at H5.out.has.whl.good.ids h3' h4')
                      subst h1
                      have t11 : decide ((0 : Int) ≤ (q' : Int)) = true := by simp
                      obtain ⟨b3, off3, rfl, -, -, -⟩ := H5.out.keys.cells h3'
                      have hcc := H5.out.keys.le
                      rw [HLN.out] at hcc
                      have hcb := H5.out.cb
                      clear hin h3' h4'
                      go_wp2_with (fail)
                      with_reducible refine KP.out.mono ?_
                      rintro e w4 ⟨rfl, ⟨S6, h6, -⟩, ht6⟩
                      have HK6 := Lib.hid (H5.out.keys.turns ht6 (fun x hx => (H5.out.far x hx).1))
                      have H6 := Lib.hid h6
                      clear h6 ht6 z0 z1 xd
                      obtain ⟨q1, hq1⟩ : ∃ q1, q1 = q' + 1 := ⟨_, rfl⟩
                      rw [← hq1] at HWO
                      obtain ⟨N, hN⟩ : ∃ N, N = q - 1 := ⟨_, rfl⟩
                      have hw : IntKind.i64.wrap ((q' : Int) + 1) = (q1 : Int) := by rw [IntWalk.i64_in _ ⟨by omega, by omega⟩]; omega
                      obtain ⟨ZT, hZT⟩ : ∃ ZT, ZT = M.take q' := ⟨_, rfl⟩
                      obtain ⟨ZD, hZD⟩ : ∃ ZD, ZD = M.drop q1 := ⟨_, rfl⟩
                      rw [← hZT, ← hZD] at HWO
                      have HZT := Lib.hid (show ZT.length = q' by rw [hZT, List.length_take, HLN.out] <;> omega)
                      have HZD := Lib.hid (show ZD.length = q - q1 by rw [hZD, List.length_drop, HLN.out])
                      have HWL := Lib.hid (show (wo M y1).length = N by rw [HWO.out, List.length_append, HZT.out, HZD.out]; omega)
                      have RT : Hid (Keys w4 (some ⟨b3, off3, none⟩) c ZT) := by rw [hZT]; exact HK6.out.take q'
                      have q2 : q' ≤ c := by omega
                      have q3 : q' ≤ q := by omega
                      have q4 : q1 ≤ c := by omega
                      have q5 : q1 ≤ q := by omega
                      have p1 : (0 : Int) ≤ (q' : Int) := by omega
                      have p2 : (q' : Int) ≤ (c : Int) := by omega
                      have p3 : (0 : Int) ≤ (q1 : Int) := by omega
                      have p4 : (q1 : Int) ≤ (q : Int) := by omega
                      have p5 : (q : Int) ≤ (c : Int) := by omega
                      have hN2 : N ≤ 2000 := by omega
                      have hq2 : q' ≤ 2000 := by omega
                      have hNk : N ≤ k + 1 := by omega
                      by_cases hcq : c = q1
                      · have hqn : q = q1 := by omega
                        have RD : Hid (Keys w4 (some ⟨b3, off3, none⟩) 0 ZD) := by
                          rw [hZD, List.drop_eq_nil_of_le (by rw [HLN.out]; omega)]; exact keys_none _ _ _
                        have HZD0 := Lib.hid (show ZD.length = 0 by have := HZD.out; omega)
                        have HQ2 := Lib.hid (show q' + 0 = N by omega)
                        subst hcq hqn
                        clear hZT hZD hq1 hN HF HID h2 HZD
                        go_wp2_with (fail)
                        go_region_held3 (fun _ => True) (exact trivial)
                          (first
                            | (refine step_append_old (by rfl) (.tmp 120) (.tmp 123) (by rfl) w4 _ 0 q' _ 0 q' [] ZT (some ⟨b3, off3, none⟩) (by rfl) (by rfl) (by with_reducible exact GrowsQ.drew (grows_n0 _)) HZT.out RT.out (by omega) hq2 ?_; intro A2 c2 w5 hp2)
                            | (refine step_append_old (by rfl) (.tmp 124) (.tmp 128) (by rfl) w4 A2 q' 0 0 c2 N ([] ++ ZT) ZD (some ⟨b3, off3, none⟩) (by rfl) (by rfl) hp2.grows HZD0.out RD.out HQ2.out hN2 ?_; intro A3 c3 w6 hp3))
                        all_goals
                          have HG := Lib.hid hp3.grows
                          rw [List.nil_append, ← HWO.out] at HG
                          have H7 := Lib.hid (St.then H6.out HG.out HWL.out)
                          clear hp2 hp3
                          go_wp2
                          go_meet
                          exact ⟨S6, now, N, c3, A3, _, rfl, rfl, hNk, H7.out⟩
                      · have RD : Hid (Keys w4 (some ⟨b3, off3 + q1 * 2, none⟩) (c - q1) ZD) := by
                          rw [hZD]; exact HK6.out.drop q1 (c - q1) (by rw [HLN.out]; omega)
                        have HQ2 := Lib.hid (show q' + (q - q1) = N by omega)
                        clear hZT hZD hq1 hN HF HID h2
                        go_wp2_with (fail)
                        go_region_held3 (fun _ => True) (exact trivial)
                          (first
                            | (refine step_append_old (by rfl) (.tmp 120) (.tmp 123) (by rfl) w4 _ 0 q' c 0 q' [] ZT (some ⟨b3, off3, none⟩) (by rfl) (by rfl) (by with_reducible exact GrowsQ.drew (grows_n0 _)) HZT.out RT.out (by omega) hq2 ?_; intro A2 c2 w5 hp2)
                            | (refine step_append_old (by rfl) (.tmp 124) (.tmp 128) (by rfl) w4 A2 q' (q - q1) (c - q1) c2 N ([] ++ ZT) ZD (some ⟨b3, off3 + q1 * 2, none⟩) (by rfl) (by rfl) hp2.grows HZD.out RD.out HQ2.out hN2 ?_; intro A3 c3 w6 hp3))
                        all_goals
                          have HG := Lib.hid hp3.grows
                          rw [List.nil_append, ← HWO.out] at HG
                          have H7 := Lib.hid (St.then H6.out HG.out HWL.out)
                          clear hp2 hp3
                          go_wp2
                          go_meet
                          exact ⟨S6, now, N, c3, A3, _, rfl, rfl, hNk, H7.out⟩
                    · have hni := HID.out h1
                      have KP := Lib.hid (has_cancel_no y1 hni H5.out.has)
                      subst h1
                      clear h2
                      go_wp2_with (fail)
                      with_reducible refine KP.out.mono ?_
                      intro e w4 hthen
                      obtain ⟨S6, h6⟩ := H5.out.same hthen
                      obtain ⟨rfl, -, -⟩ := hthen
                      have H6 := Lib.hid h6
                      clear h6
                      go_wp2
                      go_meet
                      exact ⟨S6, now, q, c, A, M, rfl, rfl, by omega, H6.out⟩
                · as_aux_lemma =>
                    have t8 : (dd == 1) = false := by simp [hd1]
                    clear hd1
                    by_cases harg : y0 < now ∨ 1099511627776 < y0
                    · have KP := Lib.hid (adv_no y0 H5.out.has.whl harg)
                      have hth : decide (y0 < now) = true ∨ (decide (y0 < now) = false ∧ decide (1099511627776 < y0) = true) := by
                        by_cases h1 : y0 < now
                        · exact .inl (decide_eq_true h1)
                        · exact .inr ⟨decide_eq_false h1, decide_eq_true (by omega)⟩
                      clear harg
                      rcases hth with t9 | ⟨t9, t10⟩
                      all_goals
                        go_wp2_with (fail)
                        with_reducible refine KP.out.mono ?_
                        rintro e w4 ⟨rfl, rfl⟩
                        go_wp2
                        go_meet
                        exact ⟨S, now, q, c, A, M, rfl, rfl, by omega, H5.out⟩
                    · have t9 : decide (y0 < now) = false := decide_eq_false (by omega)
                      have t10 : decide (1099511627776 < y0) = false := decide_eq_false (by omega)
                      have hy1 : now ≤ y0 := by omega
                      have hy2 : y0 ≤ 1099511627776 := by omega
                      clear harg
                      obtain ⟨r, hrr⟩ : ∃ r, r = (due M y0).length := ⟨_, rfl⟩
                      obtain ⟨hc1, hc2⟩ := due_cut (t := y0) H5.out.has.whl.good.srt
                      rw [← hrr] at hc1 hc2
                      have hrq : r ≤ q := by
                        have h' := (due_sub M y0).length_le
                        rw [HLN.out, ← hrr] at h'
                        exact h'
                      have HRR := Lib.hid hrr.symm
                      have HC1 := Lib.hid hc1
                      have HC2 := Lib.hid hc2
                      have KP := Lib.hid (has_adv r y0 hrr.symm hy1 hy2 H5.out.has)
                      have hcc := H5.out.keys.le
                      rw [HLN.out] at hcc
                      clear hrr hc1 hc2
                      go_wp2_with (fail)
                      with_reducible refine KP.out.mono ?_
                      rintro e w4 ⟨A4, c4, rfl, h4, ht4, hc4, hk4, -, -⟩
                      have HK6 := Lib.hid (H5.out.keys.turns ht4 (fun x hx => (H5.out.far x hx).1))
                      have HKX := Lib.hid hk4
                      have HL6 := Lib.hid (HL5.out.turns ht4 (fun hs => HGS.out g hs rfl))
                      have H6 := Lib.hid (h4.eq HC2.out)
                      have HT6 := Lib.hid ht4
                      clear h4 ht4 hk4 z0 z1 xd
                      have hgl6 := HL6.out.lt
                      have u0 : w4.cell? ⟨g, 0, none⟩ = some (.int .i64 y0) := HL6.out.cell 0
                      have u1 : w4.cell? ⟨g, 1, none⟩ = some (.int .i64 y1) := HL6.out.cell 1
                      go_wp2
                      go_loopw [16] (fun v W => CntRel r w4 v W) (fun v _ => r + 1 - (intOf v).toNat)
                      case atStart => exact ⟨0, 0, by omega, rfl, rfl⟩
                      case round =>
                        obtain ⟨j, d, hj, rfl, rfl⟩ := hrel
                        by_cases hjr : j < r
                        · have t12 : decide ((j : Int) < (q : Int)) = true := by simp; omega
                          have hx : M[j]? = some (M[j]'(by rw [HLN.out]; omega)) := List.getElem?_eq_getElem _
                          have hle : (M[j]'(by rw [HLN.out]; omega)).1 ≤ y0 := by
                            have hm : (M[j]'(by rw [HLN.out]; omega)) ∈ due M y0 := by
                              rw [HC1.out]
                              exact List.mem_of_getElem? (i := j) (by rw [List.getElem?_take, if_pos hjr]; exact hx)
                            exact (due_mem.1 hm).2
                          obtain ⟨b3, off3, rfl, hb3, v0, -⟩ := HK6.out.cells hx
                          clear hx
                          generalize M[j]'(by rw [HLN.out]; omega) = x at v0 hle
                          obtain ⟨z0, z1⟩ := x
                          simp only at v0 hle
                          have t13 : decide (z0 ≤ y0) = true := decide_eq_true hle
                          have hjq : j < q := by omega
                          have i1 : (0 : Int) ≤ (j : Int) := by omega
                          clear hle
                          go_wp2
                          go_quiet (fail)
                          go_wp2
                          go_roundw
                          case rel => first | exact ⟨j + 1, _, by omega, by go_num, rfl⟩ | exact ⟨j + 1, _, by omega, by go_num, World.drewN_drewN _ _ _⟩
                          case measure => simp [intOf]; omega
                        · obtain rfl : j = r := by omega
                          have SM : Hid (∀ d, Calls Try.prog 14 #[.slice A4 j c4, .slice A j c] (w4.drewN d) (Saw (.bool true) (w4.drewN d))) := fun d => by
                            have h := refSame (due M y0) A4 A c4 c (by rw [HRR.out]; omega) (HKX.out.drewN d) (by rw [HC1.out]; exact (HK6.out.take j).drewN d)
                            rw [HRR.out] at h
                            exact h
                          have HST : Hid (∀ d A' c', ((c = j ∧ A' = A ∧ c' = 0) ∨ (c ≠ j ∧ c' = c - j ∧ ∃ b off, A = some ⟨b, off, none⟩ ∧ A' = some ⟨b, off + j * 2, none⟩)) → St w S p room y0 (q - j) c' A' (M.drop j) (w4.drewN d)) := fun d A' c' hA' => H5.out.cut (H6.out.drewN d) (HT6.out.drewN d) hrq hA'
                          have hstop : (decide ((j : Int) < (q : Int)) = false ∧ decide (j < q) = false) ∨ (decide ((j : Int) < (q : Int)) = true ∧ ∃ b3 off3 z0, A = some ⟨b3, off3, none⟩ ∧ b3 < w4.heap.size ∧ w4.cell? ⟨b3, off3 + j * 2, none⟩ = some (.int .i64 z0) ∧ decide (z0 ≤ y0) = false) := by
                            by_cases hjq : j < q
                            · have hx : M[j]? = some (M[j]'(by rw [HLN.out]; omega)) := List.getElem?_eq_getElem _
                              have hgt : y0 < (M[j]'(by rw [HLN.out]; omega)).1 := by
                                have hm : (M[j]'(by rw [HLN.out]; omega)) ∈ stay M y0 := by
                                  rw [HC2.out]
                                  exact List.mem_of_getElem? (i := 0) (by rw [List.getElem?_drop, Nat.add_zero]; exact hx)
                                exact (stay_mem.1 hm).2
                              obtain ⟨b3, off3, e3, hb3, v0, -⟩ := HK6.out.cells hx
                              exact .inr ⟨decide_eq_true (by omega), b3, off3, _, e3, hb3, v0, decide_eq_false (by omega)⟩
                            · exact .inl ⟨decide_eq_false (by omega), decide_eq_false hjq⟩
                          have i1 : (0 : Int) ≤ (j : Int) := by omega
                          have q2 : j ≤ c := by omega
                          rcases hstop with ⟨t12, t12'⟩ | ⟨t12, b3, off3, z0, rfl, hb3, v0, t13⟩
                          · by_cases hcj : c = j
                            · subst hcj
                              go_wp2
                              go_quiet (fail)
                              rename_i nq
                              clear u0 u1
                              rw [show (w4.drewN d).drewN nq = w4.drewN (d + nq) from World.drewN_drewN _ _ _]
                              go_wp2_with (fail)
                              with_reducible refine (SM.out _).mono ?_
                              rintro e w8 ⟨rfl, f, hw8⟩
                              rw [World.drewN_drewN] at hw8
                              subst hw8
                              have HL8 := Lib.hid (HL6.out.drewN (d + nq + f))
                              have HS8 := Lib.hid (show St w S p room y0 0 0 A (M.drop c) (w4.drewN (d + nq + f)) from by have h := HST.out (d + nq + f) A 0 (.inl (by simp)); rw [show q - c = 0 by omega] at h; exact h)
                              generalize w4.drewN (d + nq + f) = Z at HL8 HS8 ⊢
                              have hgl8 := HL8.out.lt
                              have s0 : Z.cell? ⟨g, 0, none⟩ = some (.int .i64 y0) := HL8.out.cell 0
                              go_wp2
                              go_meet
                              exact ⟨S, y0, 0, _, _, _, rfl, rfl, by omega, HS8.out⟩
                            · obtain ⟨b3, off3, rfl⟩ : ∃ b3 off3, A = some ⟨b3, off3, none⟩ := by
                                rcases H5.out.plain with ⟨_, h'⟩ | h'
                                · omega
                                · exact h'
                              go_wp2
                              go_quiet (fail)
                              rename_i nq
                              clear u0 u1
                              rw [show (w4.drewN d).drewN nq = w4.drewN (d + nq) from World.drewN_drewN _ _ _]
                              go_wp2_with (fail)
                              with_reducible refine (SM.out _).mono ?_
                              rintro e w8 ⟨rfl, f, hw8⟩
                              rw [World.drewN_drewN] at hw8
                              subst hw8
                              have HL8 := Lib.hid (HL6.out.drewN (d + nq + f))
                              have HS8 := Lib.hid (HST.out (d + nq + f) (some ⟨b3, off3 + j * 2, none⟩) (c - j) (.inr ⟨hcj, rfl, b3, off3, rfl, rfl⟩))
                              generalize w4.drewN (d + nq + f) = Z at HL8 HS8 ⊢
                              have hgl8 := HL8.out.lt
                              have s0 : Z.cell? ⟨g, 0, none⟩ = some (.int .i64 y0) := HL8.out.cell 0
                              go_wp2
                              go_meet
                              exact ⟨S, y0, q - j, _, _, _, rfl, rfl, by omega, HS8.out⟩
                          · have hjq : j < q := by simpa using t12
                            have hcj : ¬ c = j := by omega
                            go_wp2
                            go_quiet (fail)
                            rename_i nq
                            clear u0 u1 v0
                            rw [show (w4.drewN d).drewN nq = w4.drewN (d + nq) from World.drewN_drewN _ _ _]
                            go_wp2_with (fail)
                            with_reducible refine (SM.out _).mono ?_
                            rintro e w8 ⟨rfl, f, hw8⟩
                            rw [World.drewN_drewN] at hw8
                            subst hw8
                            have HL8 := Lib.hid (HL6.out.drewN (d + nq + f))
                            have HS8 := Lib.hid (HST.out (d + nq + f) (some ⟨b3, off3 + j * 2, none⟩) (c - j) (.inr ⟨hcj, rfl, b3, off3, rfl, rfl⟩))
                            generalize w4.drewN (d + nq + f) = Z at HL8 HS8 ⊢
                            have hgl8 := HL8.out.lt
                            have s0 : Z.cell? ⟨g, 0, none⟩ = some (.int .i64 y0) := HL8.out.cell 0
                            go_wp2
                            go_meet
                            exact ⟨S, y0, q - j, _, _, _, rfl, rfl, by omega, HS8.out⟩
            case rest =>
              obtain ⟨S2, now2, n2, c2, A2, M2, rfl, rfl, hn2, hst⟩ := hcut
              have H6 := Lib.hid hst
              have KW := Lib.hid (nowOf hst.has.whl)
              clear hst z0 z1 xd HF HID H5 HL5
              cases M2 with
              | nil => as_aux_lemma =>
                obtain rfl : 0 = n2 := H6.out.len
                have KX := Lib.hid (show Calls Try.prog 15 #[.pointer (some ⟨p, 0, none⟩)] wc (Says (.tuple #[.int .i64 0, .bool false]) wc) from nextOf H6.out.has.whl)
                have KL := Lib.hid (show Calls Try.prog 17 #[.pointer (some ⟨p, 0, none⟩)] wc (Says (.int .i64 0) wc) from lenOf H6.out.has.whl)
                go_wp2_with (fail)
                with_reducible refine KX.out.mono ?_
                rintro e w7 ⟨rfl, rfl⟩
                go_wp2_with (fail)
                with_reducible refine KW.out.mono ?_
                rintro e w7 ⟨rfl, rfl⟩
                go_wp2_with (fail)
                with_reducible refine KL.out.mono ?_
                rintro e w7 ⟨rfl, rfl⟩
                go_wp2
                go_roundw
                case rel => exact ⟨k + 1, _, S2, now2, 0, c2, A2, [], by omega, by omega, by go_num, rfl, rfl, rfl, H6.out⟩
                case measure => simp [intOf]; omega
              | cons x M3 => as_aux_lemma =>
                have hlen : M3.length + 1 = n2 := H6.out.len
                have i0 : 0 < n2 := by omega
                have HLL := Lib.hid hlen
                obtain ⟨x0', x1'⟩ := x
                have KX : Hid (Calls Try.prog 15 #[.pointer (some ⟨p, 0, none⟩)] wc (Says (.tuple #[.int .i64 x0', .bool true]) wc)) := by
                  have h := nextOf H6.out.has.whl
                  rw [decide_eq_true (show 0 < ((x0', x1') :: M3).length by simp)] at h
                  exact h
                have KL : Hid (Calls Try.prog 17 #[.pointer (some ⟨p, 0, none⟩)] wc (Says (.int .i64 (n2 : Int)) wc)) := by
                  have h := lenOf H6.out.has.whl
                  rw [H6.out.len] at h
                  exact h
                obtain ⟨b5, off5, rfl, hb5, u0, -⟩ := H6.out.keys.cells (i := 0) (t := (x0', x1')) rfl
                rw [Nat.zero_mul, Nat.add_zero] at u0
                simp only at u0
                have t13 : decide ((0 : Int) < (n2 : Int)) = true := decide_eq_true (by omega)
                have t13' : decide (0 < n2) = true := decide_eq_true i0
                clear hlen
                go_wp2_with (fail)
                with_reducible refine KX.out.mono ?_
                rintro e w7 ⟨rfl, rfl⟩
                go_wp2_with (fail)
                with_reducible refine KW.out.mono ?_
                rintro e w7 ⟨rfl, rfl⟩
                go_wp2_with (fail)
                with_reducible refine KL.out.mono ?_
                rintro e w7 ⟨rfl, rfl⟩
                go_wp2
                go_roundw
                case rel => exact ⟨k + 1, _, S2, now2, n2, c2, _, _, by omega, by omega, by go_num, rfl, rfl, rfl, H6.out⟩
                case measure => simp [intOf]; omega
      · have t4 : decide ((k : Int) < (l.length : Int)) = false := by simp; omega
        have t4' : decide (k < l.length) = false := by simp; omega
        go_wp2
        go_ret
        exact ⟨rfl, H3.out.has.below⟩
end Go.Proofs.Ytngoclkhhfcjjaa.Model
