/- The walk of the statement on whatever acts, held against a list in order. -/
import Derived.Test.YtblecehmbmbjiaaMo
import Derived.Test.YtblecehmbmbjiaaOp
import Derived.StillTailTactics
namespace Go.Proofs.Ytblecehmbmbjiaa.Model
open Go.RowKit

set_option maxRecDepth 100000 in
set_option maxHeartbeats 1000000 in
theorem out (r : Int) (l : List (Int × Ky)) (a : Option Addr) (cap : Nat) (w : World) (hm : l.length ≤ maxLen) (hroom : r < 1 ∨ 1024 < r) : Calls Try.prog 3 #[.int .i64 r, .slice a l.length cap] w (Woke w) := by
  unfold maxLen at hm
  have HRM := Lib.hid hroom
  go_enter Try.func3, Try.ntmps3
  go_wp2_with (fail)
  refine (awake _).mono ?_
  rintro e w1 ⟨rfl, hb1⟩
  have B1 := Lib.hid hb1
  clear hb1
  by_cases h3 : 300 < l.length
  · have t1 : decide ((300 : Int) < (l.length : Int)) = true := by simp; omega
    go_wp2_with (fail)
    refine (awake _).mono ?_
    rintro e w2 ⟨rfl, hb2⟩
    go_wp2
    go_ret
    exact ⟨rfl, B1.out.trans (hb2.mono B1.out.size)⟩
  · have t1 : decide ((300 : Int) < (l.length : Int)) = false := by simp; omega
    rcases hroom with h | h
    · have t2 : decide (r < 1) = true := by simp; omega
      go_wp2_with (fail)
      with_reducible refine (new_no r _ HRM.out).mono ?_
      rintro e w' ⟨rfl, rfl⟩
      go_wp2
      go_ret
      exact ⟨rfl, B1.out⟩
    · have t2 : decide (r < 1) = false := by simp; omega
      have t3 : decide (1024 < r) = true := by simp; omega
      go_wp2_with (fail)
      with_reducible refine (new_no r _ HRM.out).mono ?_
      rintro e w' ⟨rfl, rfl⟩
      go_wp2
      go_ret
      exact ⟨rfl, B1.out⟩

set_option maxRecDepth 100000 in
set_option maxHeartbeats 16000000 in
theorem core (room : Nat) (l : List (Int × Ky)) (a : Option Addr) (cap : Nat) (w : World) (hm : l.length ≤ maxLen) (hr : ActsIn w a cap l) (r1 : 1 ≤ room) (r2 : room ≤ 1024) : Calls Try.prog 3 #[.int .i64 (room : Int), .slice a l.length cap] w (Woke w) := by
  unfold maxLen at hm
  have HR := Lib.hid hr
  clear hr
  have t2 : decide ((room : Int) < 1) = false := by simp; omega
  have t3 : decide ((1024 : Int) < (room : Int)) = false := by simp; omega
  have KN := Lib.hid (fun W (hb : Below w.heap.size w W) => has_new (w0 := w) room hb r1 r2)
  go_enter Try.func3, Try.ntmps3
  go_wp2_with (fail)
  refine (awake _).mono ?_
  rintro e w1 ⟨rfl, hb1⟩
  have B1 := Lib.hid hb1
  clear hb1
  by_cases h3 : 300 < l.length
  · have t1 : decide ((300 : Int) < (l.length : Int)) = true := by simp; omega
    go_wp2_with (fail)
    refine (awake _).mono ?_
    rintro e w2 ⟨rfl, hb2⟩
    go_wp2
    go_ret
    exact ⟨rfl, B1.out.trans (hb2.mono B1.out.size)⟩
  · have t1 : decide ((300 : Int) < (l.length : Int)) = false := by simp; omega
    go_wp2_with (fail)
    with_reducible refine (KN.out _ B1.out).mono ?_
    rintro e w2 ⟨rfl, h2, _⟩
    have H2 : Hid (St w w1.heap.size room 0 0 none [] w2) := ⟨h2, rfl, keys_none _ _ _, fun x hx => (by cases hx), .inl ⟨rfl, rfl⟩, by omega⟩
    clear h2
    generalize w1.heap.size = p at H2 ⊢
    go_wp2
    go_loopw [7, 8] (fun s i W => ModelRel w p room l.length s i W) (fun _ i _ => l.length - (intOf i).toNat)
    case atStart => exact ⟨0, 0, 0, none, [], by omega, by omega, rfl, rfl, H2.out⟩
    case round =>
      obtain ⟨k, n, c, A, M, hk, hnk, rfl, rfl, hh⟩ := hrel
      have H3 := Lib.hid hh
      clear hh H2
      by_cases hlt : k < l.length
      · have t4 : decide ((k : Int) < (l.length : Int)) = true := by simp; omega
        have hx : l[k]? = some l[k] := List.getElem?_eq_getElem hlt
        obtain ⟨b, off, rfl, hbl, _⟩ := HR.out.cells hx
        have CX : Hid (∀ W, Below w.heap.size w W → W.cell? ⟨b, off + k * 5, none⟩ = some (.int .i64 l[k].1) ∧ W.cell? ⟨b, off + k * 5 + 1, none⟩ = some (.int .i64 l[k].2.1) ∧ W.cell? ⟨b, off + k * 5 + 2, none⟩ = some (.int .i64 l[k].2.2.1) ∧ W.cell? ⟨b, off + k * 5 + 3, none⟩ = some (.int .i64 l[k].2.2.2.1) ∧ W.cell? ⟨b, off + k * 5 + 4, none⟩ = some (.int .i64 l[k].2.2.2.2)) := fun W hW => by
          obtain ⟨b', off', eb, _, h⟩ := (HR.out.below (Nat.le_refl _) hW).cells hx
          cases eb
          exact h
        clear hx
        generalize l[k] = x at CX
        obtain ⟨dd, y0, y1, y2, y3⟩ := x
        simp only at CX
        obtain ⟨x0, x1, x2, x3, x4⟩ := CX.out _ H3.out.has.below
        have KF : Hid (∃ v : Int, ((∃ (q : Nat) (bk : Ky), v = (q : Int) ∧ M[q]? = some bk ∧ idK bk = y3) ∨ (v = -1 ∧ y3 ∉ M.map idK)) ∧ Calls Try.prog 11 #[.slice A n c, .int .i64 y3] wr (Says (.int .i64 v) wr)) := by
          have hl := H3.out.len
          by_cases hid : y3 ∈ M.map idK
          · obtain ⟨bk, hb, e⟩ := List.mem_map.1 hid
            obtain ⟨q, hq⟩ := List.getElem?_of_mem hb
            have h := refFind_yes (by omega) H3.out.keys H3.out.has.heap.good hq e
            rw [hl] at h
            exact ⟨q, .inl ⟨q, bk, rfl, hq, e⟩, h⟩
          · have h := refFind_no (by omega) H3.out.keys hid
            rw [hl] at h
            exact ⟨-1, .inr ⟨rfl, hid⟩, h⟩
        obtain ⟨v, hv, hKF⟩ := KF.out
        have HV := Lib.hid hv
        have KF := Lib.hid hKF
        clear hv hKF
        go_wp2_with (fail)
        with_reducible refine KF.out.mono ?_
        rintro e w4 ⟨rfl, rfl⟩
        go_upto_if 65 with fail
        go_cut [7, 10, 11, 12] (fun s7 _ _ _ wx => Cut w p room k s7 wx)
        case first =>
          by_cases hd0 : dd = 0
          · as_aux_lemma =>
              have t5a : (dd == 0) = true := by simp [hd0]
              clear hd0
              rcases HV.out with ⟨q, bk, hvq, hq, hid⟩ | ⟨hvq, hid⟩
              · subst hvq
                have t5 : decide ((0 : Int) ≤ (q : Int)) = true := by simp
                have hin : idK (y0, y1, y2, y3) ∈ M.map idK := List.mem_map.2 ⟨bk, List.mem_of_getElem? hq, hid⟩
                have KP := Lib.hid (has_push_twice (y0, y1, y2, y3) hin H3.out.has)
                simp only [aggQ] at KP
                go_wp2_with (fail)
                with_reducible refine KP.out.mono ?_
                intro e w5 h5
                have H4 := Lib.hid (H3.out.same h5)
                obtain ⟨rfl, _, _⟩ := h5
                clear KP
                go_wp2
                go_meet
                exact ⟨n, c, A, M, rfl, by omega, H4.out⟩
              · subst hvq
                have t5 : decide ((0 : Int) ≤ (-1 : Int)) = false := by decide
                by_cases hf : n = room
                · subst hf
                  have t6 : ((n : Int) == (n : Int)) = true := by simp
                  have KP := Lib.hid (has_push_full (y0, y1, y2, y3) hid H3.out.len H3.out.has)
                  simp only [aggQ] at KP
                  go_wp2_with (fail)
                  with_reducible refine KP.out.mono ?_
                  intro e w5 h5
                  have H4 := Lib.hid (H3.out.same h5)
                  obtain ⟨rfl, _, _⟩ := h5
                  clear KP
                  go_wp2
                  go_meet
                  exact ⟨n, c, A, M, rfl, by omega, H4.out⟩
                · have t6 : ((n : Int) == (room : Int)) = false := by rw [beq_eq_false_iff_ne]; omega
                  have hnr : n < room := by
                    have h1 := H3.out.has.heap.len
                    have h2 := H3.out.len
                    omega
                  have KT := Lib.hid (refPut M (y0, y1, y2, y3) A c (by have := H3.out.len; omega) H3.out.keys H3.out.plain H3.out.cb)
                  have hlen := H3.out.len
                  rw [hlen] at KT
                  have HPL := Lib.hid (show (putK M (y0, y1, y2, y3)).length = n + 1 by rw [length_put, hlen])
                  clear hlen
                  simp only [aggQ] at KT
                  go_wp2_with (fail)
                  with_reducible refine KT.out.mono ?_
                  rintro e w5 ⟨A5, c5, rfl, hg5⟩
                  have HG5 := Lib.hid hg5
                  have H5 := Lib.hid (H3.out.has.more hg5.1)
                  clear hg5 x0 x1 x2 x3 x4 KT
                  obtain ⟨x0, x1, x2, x3, x4⟩ := CX.out _ H5.out.below
                  have KP := Lib.hid (has_push (y0, y1, y2, y3) hid (by rw [H3.out.len]; exact hnr) H5.out)
                  simp only [aggQ] at KP
                  go_wp2_with (fail)
                  with_reducible refine KP.out.mono ?_
                  intro e w6 h6
                  have H6 := Lib.hid (St.anew H3.out.has HG5.out HPL.out h6)
                  obtain ⟨rfl, _, _⟩ := h6
                  clear KP
                  go_wp2
                  go_meet
                  exact ⟨n + 1, c5, A5, _, rfl, by omega, H6.out⟩
          · by_cases hd1 : dd = 1
            · as_aux_lemma =>
                have t5a : (dd == 0) = false := by simp [hd1]
                have t5b : (dd == 1) = true := by simp [hd1]
                clear hd1 hd0
                cases M with
                | nil =>
                  have e0 : 0 = n := H3.out.len
                  subst e0
                  have KP := Lib.hid (has_pop_none H3.out.has)
                  simp only [aggQ] at KP
                  go_wp2_with (fail)
                  with_reducible refine KP.out.mono ?_
                  intro e w5 h5
                  have H4 := Lib.hid ((H3.out.same h5).more (below_new w5 (.cells #[.int .i64 0, .int .i64 0, .int .i64 0, .int .i64 0] 31)))
                  have HL4 := Lib.hid (Lies.made w5 31 #[.int .i64 0, .int .i64 0, .int .i64 0, .int .i64 0])
                  obtain ⟨rfl, _, _⟩ := h5
                  go_wp2
                  generalize w5.alloc (.cells #[.int .i64 0, .int .i64 0, .int .i64 0, .int .i64 0] 31) = Z at H4 HL4 ⊢
                  have v0 : Z.cell? ⟨w5.heap.size, 0, none⟩ = some (.int .i64 0) := HL4.out.cell 0
                  have v1 : Z.cell? ⟨w5.heap.size, 1, none⟩ = some (.int .i64 0) := HL4.out.cell 1
                  have v2 : Z.cell? ⟨w5.heap.size, 2, none⟩ = some (.int .i64 0) := HL4.out.cell 2
                  have v3 : Z.cell? ⟨w5.heap.size, 3, none⟩ = some (.int .i64 0) := HL4.out.cell 3
                  go_quiet (fail)
                  have H5 := Lib.hid (H4.out.drewN nq)
                  go_wp2
                  go_meet
                  exact ⟨0, c, A, [], rfl, by omega, H5.out⟩
                | cons x M =>
                  obtain ⟨z0, z1, z2, z3⟩ := x
                  have hn0 : 0 < n := by have := H3.out.len; simp at this; omega
                  have t6 : decide ((0 : Int) < (n : Int)) = true := by simp; omega
                  obtain ⟨b2, off2, rfl, _⟩ := H3.out.keys.cells (i := 0) rfl
                  have KP := Lib.hid (has_pop H3.out.has)
                  simp only [aggQ] at KP
                  go_wp2_with (fail)
                  with_reducible refine KP.out.mono ?_
                  intro e w5 h5
                  have H4 := Lib.hid (h5.2.1.more (below_new w5 (.cells #[.int .i64 z0, .int .i64 z1, .int .i64 z2, .int .i64 z3] 31)))
                  have HK4 := Lib.hid ((H3.out.keys.turns h5.2.2 H3.out.ne).below (Nat.le_refl _) (below_new w5 (.cells #[.int .i64 z0, .int .i64 z1, .int .i64 z2, .int .i64 z3] 31)))
                  have HL4 := Lib.hid (Lies.made w5 31 #[.int .i64 z0, .int .i64 z1, .int .i64 z2, .int .i64 z3])
                  obtain ⟨rfl, _, _⟩ := h5
                  go_wp2
                  generalize w5.alloc (.cells #[.int .i64 z0, .int .i64 z1, .int .i64 z2, .int .i64 z3] 31) = Z at H4 HK4 HL4 ⊢
                  have v0 : Z.cell? ⟨w5.heap.size, 0, none⟩ = some (.int .i64 z0) := HL4.out.cell 0
                  have v1 : Z.cell? ⟨w5.heap.size, 1, none⟩ = some (.int .i64 z1) := HL4.out.cell 1
                  have v2 : Z.cell? ⟨w5.heap.size, 2, none⟩ = some (.int .i64 z2) := HL4.out.cell 2
                  have v3 : Z.cell? ⟨w5.heap.size, 3, none⟩ = some (.int .i64 z3) := HL4.out.cell 3
                  obtain ⟨b3, off3, e3, hb3, g0, g1, g2, g3⟩ := HK4.out.cells (i := 0) rfl
                  cases e3
                  have f0 : Z.cell? ⟨b2, off2, none⟩ = some (.int .i64 z0) := g0
                  have f1 : Z.cell? ⟨b2, off2 + 1, none⟩ = some (.int .i64 z1) := g1
                  have f2 : Z.cell? ⟨b2, off2 + 2, none⟩ = some (.int .i64 z2) := g2
                  have f3 : Z.cell? ⟨b2, off2 + 3, none⟩ = some (.int .i64 z3) := g3
                  clear g0 g1 g2 g3
                  have hcn : n ≤ c := by have h1 := HK4.out.le; have h2 := H3.out.len; omega
                  have hML : M.length = n - 1 := by have := H3.out.len; simp at this; omega
                  have HML := Lib.hid hML
                  clear hML
                  go_quiet (fail)
                  by_cases hc1 : c = 1
                  · have hn1 : n = 1 := by omega
                    subst hc1 hn1
                    have H5 : Hid (St w p room 0 0 (some ⟨b2, off2, none⟩) M (Z.drewN nq)) := by
                      have e0 : M = [] := List.eq_nil_of_length_eq_zero (by rw [HML.out])
                      exact ⟨H4.out.drewN nq, HML.out, by rw [e0]; exact keys_none _ _ _, H3.out.ne, .inr ⟨b2, off2, rfl⟩, by omega⟩
                    go_wp2
                    go_meet
                    exact ⟨0, 0, some ⟨b2, off2, none⟩, M, rfl, by omega, H5.out⟩
                  · have q1 : 1 ≤ c := by omega
                    have q2 : 1 ≤ n := by omega
                    have H5 : Hid (St w p room (n - 1) (c - 1) (some ⟨b2, off2 + 4, none⟩) M (Z.drewN nq)) := by
                      have hcb := H3.out.cb
                      exact ⟨H4.out.drewN nq, HML.out, (HK4.out.drop 1 (c - 1) (by have := H3.out.len; omega)).drewN nq, fun x hx => by
                        cases hx
                        exact H3.out.ne ⟨b2, off2, none⟩ rfl, .inr ⟨b2, off2 + 4, rfl⟩, by omega⟩
                    go_wp2
                    go_meet
                    exact ⟨n - 1, c - 1, some ⟨b2, off2 + 4, none⟩, M, rfl, by omega, H5.out⟩
            · by_cases hd2 : dd = 2
              · as_aux_lemma =>
                  have t5a : (dd == 0) = false := by simp [hd2]
                  have t5b : (dd == 1) = false := by simp [hd2]
                  have t5c : (dd == 2) = true := by simp [hd2]
                  clear hd2 hd1 hd0
                  rcases HV.out with ⟨q, bk, hvq, hq, hid⟩ | ⟨hvq, hid⟩
                  · subst hvq
                    have t5 : decide ((0 : Int) ≤ (q : Int)) = true := by simp
                    have hqn : q < n := by have := (List.getElem?_eq_some_iff.1 hq).1; have := H3.out.len; omega
                    obtain ⟨b2, off2, rfl, _⟩ := H3.out.keys.cells hq
                    have HEL := Lib.hid (show (M.eraseIdx q).length = n - 1 by
                      have h1 : M.length = (M.eraseIdx q).length + 1 := (erase_perm hq).length_eq
                      have h2 := H3.out.len
                      omega)
                    have KP := Lib.hid (has_remove y3 hq hid H3.out.has)
                    clear hq hid
                    go_wp2_with (fail)
                    with_reducible refine KP.out.mono ?_
                    intro e w5 h5
                    have H4 := Lib.hid h5.2.1
                    have KW := Lib.hid (refWithout M n q b2 off2 c H3.out.len (by omega) hqn (H3.out.keys.turns h5.2.2 H3.out.ne) H3.out.cb)
                    obtain ⟨rfl, _, _⟩ := h5
                    clear KP
                    go_wp2_with (fail)
                    with_reducible refine KW.out.mono ?_
                    rintro e w6 ⟨A6, c6, rfl, hg6⟩
                    have H6 := Lib.hid (St.then H4.out hg6 HEL.out)
                    clear hg6
                    go_wp2
                    go_meet
                    exact ⟨n - 1, c6, A6, _, rfl, by omega, H6.out⟩
                  · subst hvq
                    have t5 : decide ((0 : Int) ≤ (-1 : Int)) = false := by decide
                    have KP := Lib.hid (has_remove_no y3 hid H3.out.has)
                    go_wp2_with (fail)
                    with_reducible refine KP.out.mono ?_
                    intro e w5 h5
                    have H4 := Lib.hid (H3.out.same h5)
                    obtain ⟨rfl, _, _⟩ := h5
                    clear KP
                    go_wp2
                    go_meet
                    exact ⟨n, c, A, M, rfl, by omega, H4.out⟩
              · as_aux_lemma =>
                  have t5a : (dd == 0) = false := by simp [hd0]
                  have t5b : (dd == 1) = false := by simp [hd1]
                  have t5c : (dd == 2) = false := by simp [hd2]
                  clear hd2 hd1 hd0
                  rcases HV.out with ⟨q, bk, hvq, hq, hid⟩ | ⟨hvq, hid⟩
                  · subst hvq
                    have t5 : decide ((0 : Int) ≤ (q : Int)) = true := by simp
                    have hqn : q < n := by have := (List.getElem?_eq_some_iff.1 hq).1; have := H3.out.len; omega
                    obtain ⟨b2, off2, rfl, _⟩ := H3.out.keys.cells hq
                    obtain ⟨n1, hn1⟩ : ∃ n1, n1 = n - 1 := ⟨_, rfl⟩
                    have HEL := Lib.hid (show (M.eraseIdx q).length = n1 by
                      have h1 : M.length = (M.eraseIdx q).length + 1 := (erase_perm hq).length_eq
                      have h2 := H3.out.len
                      omega)
                    have HPL := Lib.hid (show (putK (M.eraseIdx q) (y0, y1, y2, y3)).length = n1 + 1 by rw [length_put, HEL.out])
                    have hn2 : n1 + 1 ≤ k + 1 := by omega
                    have KP := Lib.hid (has_change (y0, y1, y2, y3) hq hid H3.out.has)
                    clear hq hid
                    simp only [aggQ] at KP
                    go_wp2_with (fail)
                    with_reducible refine KP.out.mono ?_
                    intro e w5 h5
                    have H4 := Lib.hid h5.2.1
                    have KW : Hid (∀ d, Calls Try.prog 16 #[.slice (some ⟨b2, off2, none⟩) n c, .int .i64 (q : Int)] (w5.drewN d) (Rows1 n1 (M.eraseIdx q) (w5.drewN d))) := fun d => by
                      rw [hn1]
                      exact refWithout M n q b2 off2 c H3.out.len (by omega) hqn ((H3.out.keys.turns h5.2.2 H3.out.ne).drewN d) H3.out.cb
                    obtain ⟨rfl, _, _⟩ := h5
                    have KU : Hid (∀ A6 c6 d w6, GrowsQ (w5.drewN d) A6 n1 c6 (M.eraseIdx q) w6 → Calls Try.prog 12 #[.slice A6 n1 c6, aggQ (y0, y1, y2, y3)] w6 (Rows1 (n1 + 1) (putK (M.eraseIdx q) (y0, y1, y2, y3)) w6)) := fun A6 c6 d w6 hg => by
                      have h := refPut (M.eraseIdx q) (y0, y1, y2, y3) A6 c6 (by rw [HEL.out]; omega) hg.keys hg.plain.1 hg.plain.2
                      rw [HEL.out] at h
                      exact h
                    simp only [aggQ] at KU
                    clear KP x0 x1 x2 x3 x4 hn1
                    obtain ⟨x0, x1, x2, x3, x4⟩ := CX.out _ H4.out.below
                    have hbw : b < w5.heap.size := Nat.lt_of_lt_of_le hbl H4.out.below.size
                    have KX : Hid (∀ w', Below w.heap.size w w' → w'.cell? ⟨b, off + k * 5 + 1, none⟩ = some (.int .i64 y0) ∧ w'.cell? ⟨b, off + k * 5 + 2, none⟩ = some (.int .i64 y1) ∧ w'.cell? ⟨b, off + k * 5 + 3, none⟩ = some (.int .i64 y2) ∧ w'.cell? ⟨b, off + k * 5 + 4, none⟩ = some (.int .i64 y3)) := fun w' hw' => (CX.out w' hw').2
                    have HB4 := Lib.hid H4.out.below
                    go_wp2
                    go_region_held3 (fun w' => w'.cell? ⟨b, off + k * 5 + 1, none⟩ = some (.int .i64 y0) ∧ w'.cell? ⟨b, off + k * 5 + 2, none⟩ = some (.int .i64 y1) ∧ w'.cell? ⟨b, off + k * 5 + 3, none⟩ = some (.int .i64 y2) ∧ w'.cell? ⟨b, off + k * 5 + 4, none⟩ = some (.int .i64 y3)) (first | exact KX.out _ HB7.out | exact KX.out _ HB6.out | go_keep)
                      (first
                        | (go_at_call 16; refine (KW.out 1).mono ?_; rintro e6 w6 ⟨A6, c6, rfl, hg6⟩; have HB6 := Lib.hid (HB4.out.trans (((below_drewN (Below.refl w5.heap.size w5) 1).trans hg6.1).mono HB4.out.size)); have HG6 := Lib.hid hg6; clear hg6)
                        | (go_at_call 12; refine (KU.out _ _ 1 _ HG6.out).mono ?_; rintro e7 w7 ⟨A7, c7, rfl, hg7⟩; have HB7 := Lib.hid (HB6.out.trans (hg7.1.mono HB6.out.size)); have HG7 := Lib.hid hg7; clear hg7))
                    have H7 := Lib.hid (St.then ((H4.out.drewN 1).more HG6.out.1) HG7.out HPL.out)
                    go_wp2
                    go_meet
                    exact ⟨n1 + 1, c7, A7, _, rfl, hn2, H7.out⟩
                  · subst hvq
                    have t5 : decide ((0 : Int) ≤ (-1 : Int)) = false := by decide
                    have KP := Lib.hid (has_change_no (y0, y1, y2, y3) hid H3.out.has)
                    simp only [aggQ] at KP
                    go_wp2_with (fail)
                    with_reducible refine KP.out.mono ?_
                    intro e w5 h5
                    have H4 := Lib.hid (H3.out.same h5)
                    obtain ⟨rfl, _, _⟩ := h5
                    clear KP
                    go_wp2
                    go_meet
                    exact ⟨n, c, A, M, rfl, by omega, H4.out⟩
        case rest =>
          obtain ⟨n2, c2, A2, M2, rfl, hn2, hst⟩ := hcut
          have H5 := Lib.hid hst
          clear hst x0 x1 x2 x3 x4 HV
          cases M2 with
          | nil => as_aux_lemma =>
            have e0 : 0 = n2 := H5.out.len
            subst e0
            have KP := Lib.hid (show Calls Try.prog 18 #[.pointer (some ⟨p, 0, none⟩)] wc (Then (.tuple #[.agg #[.int .i64 0, .int .i64 0, .int .i64 0, .int .i64 0], .bool false]) w p room [] wc) from has_peek H5.out.has)
            go_wp2_with (fail)
            with_reducible refine KP.out.mono ?_
            intro e w6 h6
            have H7 := Lib.hid ((H5.out.same h6).more (below_new w6 (.cells #[.int .i64 0, .int .i64 0, .int .i64 0, .int .i64 0] 31)))
            have HL7 := Lib.hid (Lies.made w6 31 #[.int .i64 0, .int .i64 0, .int .i64 0, .int .i64 0])
            obtain ⟨rfl, _, _⟩ := h6
            go_wp2
            generalize w6.alloc (.cells #[.int .i64 0, .int .i64 0, .int .i64 0, .int .i64 0] 31) = Z at H7 HL7 ⊢
            obtain ⟨Y, hY⟩ : ∃ Y, Y = Z.drew := ⟨_, rfl⟩
            have H8 : Hid (St w p room 0 c2 A2 [] Y) := by rw [hY]; exact H7.out.drewN 1
            have HL8 : Hid (Lies Y w6.heap.size 31 #[.int .i64 0, .int .i64 0, .int .i64 0, .int .i64 0]) := by rw [hY]; exact HL7.out.drewN 1
            have HYE := Lib.hid hY
            clear hY H7 HL7
            have KL : Hid (Calls Try.prog 19 #[.pointer (some ⟨p, 0, none⟩)] Y (Says (.int .i64 0) Y)) := by
              have h := lenOf H8.out.has.heap
              rw [H8.out.len] at h
              exact h
            have KS : Hid (Calls Try.prog 21 #[.pointer (some ⟨p, 0, none⟩)] Y (HasAll 0 w p room [] Y)) := has_sorted 0 H8.out.len H8.out.has
            refine wp_region_held_drew (S := fun _ => True) (by kernel_rfl) (trivial) (fun hHeld => ?_)
            rw [← HYE.out]
            refine wpAnyH_take (i := 0) (oi := ⟨some 174, .move (.tmp 5), _, _, _, none⟩) (v := ?_) rfl (by kernel_rfl) (by kernel_rfl) (by kernel_rfl) (fun _ _ _ h => h) (Or.inl ⟨by rfl, ?_⟩) hHeld ?_
            rotate_left
            · intro w hSw
              (try dsimp only at hSw)
              go_simp
              (try with_reducible rfl)
            (try simp only [Act.put, List.setIfInBounds_toArray, List.set_cons_zero, List.set_cons_succ])
            refine wpAnyH_take (i := 2) (oi := ⟨some 176, .move (.tmp 7), _, _, _, none⟩) (v := ?_) rfl (by kernel_rfl) (by kernel_rfl) (by kernel_rfl) (fun _ _ _ h => h) (Or.inl ⟨by rfl, ?_⟩) hHeld ?_
            rotate_left
            · intro w hSw
              (try dsimp only at hSw)
              go_simp
              (try with_reducible rfl)
            (try simp only [Act.put, List.setIfInBounds_toArray, List.set_cons_zero, List.set_cons_succ])
            refine wpAnyH_take (i := 3) (oi := ⟨some 177, .call { callee := .builtin .len, args := #[.tmp 176], argTypes := #[28] }, _, _, _, none⟩) (v := ?_) rfl (by kernel_rfl) (by kernel_rfl) (by kernel_rfl) (fun _ _ _ h => h) (Or.inl ⟨by rfl, ?_⟩) hHeld ?_
            rotate_left
            · intro w hSw
              (try dsimp only at hSw)
              go_simp
              (try with_reducible rfl)
            (try simp only [Act.put, List.setIfInBounds_toArray, List.set_cons_zero, List.set_cons_succ])
            refine wpAnyH_ready (rs := [1]) (by kernel_rfl) (by simp) ?_
            refine AllReadyH.cons (o := ⟨some 175, .call { callee := .value (.func 19), args := #[.tmp 174], argTypes := #[24] }, _, _, _, none⟩) rfl (fun K hK => ?_) ?_
            rotate_left
            · exact AllReadyH.nil
            go_simp
            go_at_call 19
            refine KL.out.mono ?_
            rintro e7 w7 ⟨rfl, rfl⟩
            (try go_simp)
            refine hK.out _ _ trivial (fun hHeld => ?_)
            clear hK K
            (try simp only [Act.put, List.setIfInBounds_toArray, List.set_cons_zero, List.set_cons_succ])
            refine wpAnyH_take (i := 4) (oi := ⟨some 178, .binOp .neq 3 (.tmp 175) (.tmp 177) 3, _, _, _, none⟩) (v := ?_) rfl (by kernel_rfl) (by kernel_rfl) (by kernel_rfl) (fun _ _ _ h => h) (Or.inl ⟨by rfl, ?_⟩) hHeld ?_
            rotate_left
            · intro w hSw
              (try dsimp only at hSw)
              go_simp
              (try with_reducible rfl)
            (try simp only [Act.put, List.setIfInBounds_toArray, List.set_cons_zero, List.set_cons_succ])
            refine wpAnyH_take (i := 5) (oi := ⟨some 179, .move (.tmp 178), _, _, _, none⟩) (v := ?_) rfl (by kernel_rfl) (by kernel_rfl) (by kernel_rfl) (fun _ _ _ h => h) (Or.inl ⟨by rfl, ?_⟩) hHeld ?_
            rotate_left
            · intro w hSw
              (try dsimp only at hSw)
              go_simp
              (try with_reducible rfl)
            (try simp only [Act.put, List.setIfInBounds_toArray, List.set_cons_zero, List.set_cons_succ])
            refine wpAnyH_take (i := 6) (oi := ⟨some 180, .move (.tmp 14), _, _, _, (some (5, false))⟩) (v := ?_) rfl (by kernel_rfl) (by kernel_rfl) (by kernel_rfl) (fun _ _ _ h => h) (Or.inl ⟨by rfl, ?_⟩) hHeld ?_
            rotate_left
            · intro w hSw
              (try dsimp only at hSw)
              go_simp
              (try with_reducible rfl)
            (try simp only [Act.put, List.setIfInBounds_toArray, List.set_cons_zero, List.set_cons_succ])
            refine wpAnyH_take (i := 7) (oi := ⟨some 181, .move (.tmp 7), _, _, _, (some (5, false))⟩) (v := ?_) rfl (by kernel_rfl) (by kernel_rfl) (by kernel_rfl) (fun _ _ _ h => h) (Or.inl ⟨by rfl, ?_⟩) hHeld ?_
            rotate_left
            · intro w hSw
              (try dsimp only at hSw)
              go_simp
              (try with_reducible rfl)
            (try simp only [Act.put, List.setIfInBounds_toArray, List.set_cons_zero, List.set_cons_succ])
            refine wpAnyH_take (i := 8) (oi := ⟨some 182, .call { callee := .builtin .len, args := #[.tmp 181], argTypes := #[28] }, _, _, _, (some (5, false))⟩) (v := ?_) rfl (by kernel_rfl) (by kernel_rfl) (by kernel_rfl) (fun _ _ _ h => h) (Or.inl ⟨by rfl, ?_⟩) hHeld ?_
            rotate_left
            · intro w hSw
              (try dsimp only at hSw)
              go_simp
              (try with_reducible rfl)
            (try simp only [Act.put, List.setIfInBounds_toArray, List.set_cons_zero, List.set_cons_succ])
            refine wpAnyH_take (i := 9) (oi := ⟨some 183, .binOp .gtr 3 (.tmp 182) (.const (.int .i64 0)) 3, _, _, _, (some (5, false))⟩) (v := ?_) rfl (by kernel_rfl) (by kernel_rfl) (by kernel_rfl) (fun _ _ _ h => h) (Or.inl ⟨by rfl, ?_⟩) hHeld ?_
            rotate_left
            · intro w hSw
              (try dsimp only at hSw)
              go_simp
              (try with_reducible rfl)
            (try simp only [Act.put, List.setIfInBounds_toArray, List.set_cons_zero, List.set_cons_succ])
            refine wpAnyH_take (i := 10) (oi := ⟨some 184, .binOp .neq 4 (.tmp 180) (.tmp 183) 4, _, _, _, (some (5, false))⟩) (v := ?_) rfl (by kernel_rfl) (by kernel_rfl) (by kernel_rfl) (fun _ _ _ h => h) (Or.inl ⟨by rfl, ?_⟩) hHeld ?_
            rotate_left
            · intro w hSw
              (try dsimp only at hSw)
              go_simp
              (try with_reducible rfl)
            (try simp only [Act.put, List.setIfInBounds_toArray, List.set_cons_zero, List.set_cons_succ])
            refine wpAnyH_take (i := 11) (oi := ⟨some 185, .pick (.tmp 179) (.const (.bool true)) (.tmp 184), _, _, _, none⟩) (v := ?_) rfl (by kernel_rfl) (by kernel_rfl) (by kernel_rfl) (fun _ _ _ h => h) (Or.inl ⟨by rfl, ?_⟩) hHeld ?_
            rotate_left
            · intro w hSw
              (try dsimp only at hSw)
              go_simp
              (try with_reducible rfl)
            (try simp only [Act.put, List.setIfInBounds_toArray, List.set_cons_zero, List.set_cons_succ])
            refine wpAnyH_take (i := 12) (oi := ⟨some 186, .move (.tmp 185), _, _, _, none⟩) (v := ?_) rfl (by kernel_rfl) (by kernel_rfl) (by kernel_rfl) (fun _ _ _ h => h) (Or.inl ⟨by rfl, ?_⟩) hHeld ?_
            rotate_left
            · intro w hSw
              (try dsimp only at hSw)
              go_simp
              (try with_reducible rfl)
            (try simp only [Act.put, List.setIfInBounds_toArray, List.set_cons_zero, List.set_cons_succ])
            refine wpAnyH_take (i := 13) (oi := ⟨some 187, .move (.tmp 14), _, _, _, (some (12, false))⟩) (v := ?_) rfl (by kernel_rfl) (by kernel_rfl) (by kernel_rfl) (fun _ _ _ h => h) (Or.inl ⟨by rfl, ?_⟩) hHeld ?_
            rotate_left
            · intro w hSw
              (try dsimp only at hSw)
              go_simp
              (try with_reducible rfl)
            (try simp only [Act.put, List.setIfInBounds_toArray, List.set_cons_zero, List.set_cons_succ])
            refine wpAnyH_take (i := 14) (oi := ⟨some 188, .move (.tmp 187), _, _, _, (some (12, false))⟩) (v := ?_) rfl (by kernel_rfl) (by kernel_rfl) (by kernel_rfl) (fun _ _ _ h => h) (Or.inl ⟨by rfl, ?_⟩) hHeld ?_
            rotate_left
            · intro w hSw
              (try dsimp only at hSw)
              go_simp
              (try with_reducible rfl)
            (try simp only [Act.put, List.setIfInBounds_toArray, List.set_cons_zero, List.set_cons_succ])
            refine wpAnyH_take (i := 15) (oi := ⟨some 189, .load 31 (.tmp 13), _, _, _, (some (14, true))⟩) (v := undef) rfl (by kernel_rfl) (by kernel_rfl) (by kernel_rfl) (fun _ _ _ h => h) (Or.inr ⟨by rfl, rfl⟩) hHeld ?_
            (try simp only [Act.put, List.setIfInBounds_toArray, List.set_cons_zero, List.set_cons_succ])
            refine wpAnyH_take (i := 16) (oi := ⟨some 190, .move (.tmp 7), _, _, _, (some (14, true))⟩) (v := undef) rfl (by kernel_rfl) (by kernel_rfl) (by kernel_rfl) (fun _ _ _ h => h) (Or.inr ⟨by rfl, rfl⟩) hHeld ?_
            (try simp only [Act.put, List.setIfInBounds_toArray, List.set_cons_zero, List.set_cons_succ])
            refine wpAnyH_take (i := 17) (oi := ⟨some 191, .indexAddr 28 (.tmp 190) (.const (.int .i64 0)), _, _, _, (some (14, true))⟩) (v := undef) rfl (by kernel_rfl) (by kernel_rfl) (by kernel_rfl) (fun _ _ _ h => h) (Or.inr ⟨by rfl, rfl⟩) hHeld ?_
            (try simp only [Act.put, List.setIfInBounds_toArray, List.set_cons_zero, List.set_cons_succ])
            refine wpAnyH_take (i := 18) (oi := ⟨some 192, .load 31 (.tmp 191), _, _, _, (some (14, true))⟩) (v := undef) rfl (by kernel_rfl) (by kernel_rfl) (by kernel_rfl) (fun _ _ _ h => h) (Or.inr ⟨by rfl, rfl⟩) hHeld ?_
            (try simp only [Act.put, List.setIfInBounds_toArray, List.set_cons_zero, List.set_cons_succ])
            refine wpAnyH_take (i := 19) (oi := ⟨some 193, .binOp .neq 31 (.tmp 189) (.tmp 192) 31, _, _, _, (some (14, true))⟩) (v := undef) rfl (by kernel_rfl) (by kernel_rfl) (by kernel_rfl) (fun _ _ _ h => h) (Or.inr ⟨by rfl, rfl⟩) hHeld ?_
            (try simp only [Act.put, List.setIfInBounds_toArray, List.set_cons_zero, List.set_cons_succ])
            refine wpAnyH_take (i := 20) (oi := ⟨some 194, .pick (.tmp 188) (.tmp 193) (.const (.bool false)), _, _, _, (some (12, false))⟩) (v := ?_) rfl (by kernel_rfl) (by kernel_rfl) (by kernel_rfl) (fun _ _ _ h => h) (Or.inl ⟨by rfl, ?_⟩) hHeld ?_
            rotate_left
            · intro w hSw
              (try dsimp only at hSw)
              go_simp
              (try with_reducible rfl)
            (try simp only [Act.put, List.setIfInBounds_toArray, List.set_cons_zero, List.set_cons_succ])
            refine wpAnyH_take (i := 21) (oi := ⟨some 195, .pick (.tmp 186) (.const (.bool true)) (.tmp 194), _, _, _, none⟩) (v := ?_) rfl (by kernel_rfl) (by kernel_rfl) (by kernel_rfl) (fun _ _ _ h => h) (Or.inl ⟨by rfl, ?_⟩) hHeld ?_
            rotate_left
            · intro w hSw
              (try dsimp only at hSw)
              go_simp
              (try with_reducible rfl)
            (try simp only [Act.put, List.setIfInBounds_toArray, List.set_cons_zero, List.set_cons_succ])
            refine wpAnyH_take (i := 22) (oi := ⟨some 196, .move (.tmp 195), _, _, _, none⟩) (v := ?_) rfl (by kernel_rfl) (by kernel_rfl) (by kernel_rfl) (fun _ _ _ h => h) (Or.inl ⟨by rfl, ?_⟩) hHeld ?_
            rotate_left
            · intro w hSw
              (try dsimp only at hSw)
              go_simp
              (try with_reducible rfl)
            (try simp only [Act.put, List.setIfInBounds_toArray, List.set_cons_zero, List.set_cons_succ])
            refine wpAnyH_take (i := 23) (oi := ⟨some 197, .move (.tmp 5), _, _, _, (some (22, false))⟩) (v := ?_) rfl (by kernel_rfl) (by kernel_rfl) (by kernel_rfl) (fun _ _ _ h => h) (Or.inl ⟨by rfl, ?_⟩) hHeld ?_
            rotate_left
            · intro w hSw
              (try dsimp only at hSw)
              go_simp
              (try with_reducible rfl)
            (try simp only [Act.put, List.setIfInBounds_toArray, List.set_cons_zero, List.set_cons_succ])
            refine wpAnyH_take (i := 25) (oi := ⟨some 199, .move (.tmp 7), _, _, _, (some (22, false))⟩) (v := ?_) rfl (by kernel_rfl) (by kernel_rfl) (by kernel_rfl) (fun _ _ _ h => h) (Or.inl ⟨by rfl, ?_⟩) hHeld ?_
            rotate_left
            · intro w hSw
              (try dsimp only at hSw)
              go_simp
              (try with_reducible rfl)
            (try simp only [Act.put, List.setIfInBounds_toArray, List.set_cons_zero, List.set_cons_succ])
            refine wpAnyH_ready (rs := [24]) (by kernel_rfl) (by simp) ?_
            refine AllReadyH.cons (o := ⟨some 198, .call { callee := .value (.func 21), args := #[.tmp 197], argTypes := #[24] }, _, _, _, (some (22, false))⟩) rfl (fun K hK => ?_) ?_
            rotate_left
            · exact AllReadyH.nil
            go_simp
            go_at_call 21
            refine KS.out.mono ?_
            rintro e8 w9 ⟨A9, c9, rfl, _, hb9, _, hk9, _⟩
            (try go_simp)
            have H9 := Lib.hid (H8.out.more hb9)
            have SM := Lib.hid (refSame [] A9 A2 c9 c2 (by have := H9.out.len; omega) hk9 H9.out.keys)
            have e9 := H9.out.len
            rw [e9] at SM
            clear hk9 e9
            refine hK.out _ _ trivial (fun hHeld => ?_)
            clear hK K
            (try simp only [Act.put, List.setIfInBounds_toArray, List.set_cons_zero, List.set_cons_succ])
            refine wpAnyH_ready (rs := [26]) (by kernel_rfl) (by simp) ?_
            refine AllReadyH.cons (o := ⟨some 200, .call { callee := .value (.func 20), args := #[.tmp 198, .tmp 199], argTypes := #[28, 28] }, _, _, _, (some (22, false))⟩) rfl (fun K hK => ?_) ?_
            rotate_left
            · exact AllReadyH.nil
            go_simp
            go_at_call 20
            refine SM.out.mono ?_
            rintro e10 w10 ⟨rfl, d10, rfl⟩
            (try go_simp)
            refine hK.out _ _ trivial (fun hHeld => ?_)
            clear hK K
            (try simp only [Act.put, List.setIfInBounds_toArray, List.set_cons_zero, List.set_cons_succ])
            refine wpAnyH_take (i := 27) (oi := ⟨some 201, .unOp .not 4 (.tmp 200), _, _, _, (some (22, false))⟩) (v := ?_) rfl (by kernel_rfl) (by kernel_rfl) (by kernel_rfl) (fun _ _ _ h => h) (Or.inl ⟨by rfl, ?_⟩) hHeld ?_
            rotate_left
            · intro w hSw
              (try dsimp only at hSw)
              go_simp
              (try with_reducible rfl)
            (try simp only [Act.put, List.setIfInBounds_toArray, List.set_cons_zero, List.set_cons_succ])
            refine wpAnyH_take (i := 28) (oi := ⟨some 202, .pick (.tmp 196) (.const (.bool true)) (.tmp 201), _, _, _, none⟩) (v := ?_) rfl (by kernel_rfl) (by kernel_rfl) (by kernel_rfl) (fun _ _ _ h => h) (Or.inl ⟨by rfl, ?_⟩) hHeld ?_
            rotate_left
            · intro w hSw
              (try dsimp only at hSw)
              go_simp
              (try with_reducible rfl)
            (try simp only [Act.put, List.setIfInBounds_toArray, List.set_cons_zero, List.set_cons_succ])
            refine wpAnyH_done (by kernel_rfl) ?_ _
            have H10 := Lib.hid (H9.out.drewN d10)
            clear hb9 hHeld
            go_wp2
            go_roundw
            case rel => exact ⟨k + 1, 0, c2, A2, [], by omega, by omega, by go_num, rfl, H10.out⟩
            case measure => simp [intOf]; omega
          | cons x M2 => as_aux_lemma =>
            obtain ⟨z0, z1, z2, z3⟩ := x
            have hn0 : 0 < n2 := by have := H5.out.len; simp at this; omega
            have t6 : decide ((0 : Int) < (n2 : Int)) = true := by simp; omega
            have KP := Lib.hid (show Calls Try.prog 18 #[.pointer (some ⟨p, 0, none⟩)] wc (Then (.tuple #[.agg #[.int .i64 z0, .int .i64 z1, .int .i64 z2, .int .i64 z3], .bool true]) w p room ((z0, z1, z2, z3) :: M2) wc) by
              have h := has_peek H5.out.has
              rw [show decide (0 < ((z0, z1, z2, z3) :: M2).length) = true by simp] at h
              exact h)
            go_wp2_with (fail)
            with_reducible refine KP.out.mono ?_
            intro e w6 h6
            have H7 := Lib.hid ((H5.out.same h6).more (below_new w6 (.cells #[.int .i64 z0, .int .i64 z1, .int .i64 z2, .int .i64 z3] 31)))
            have HL7 := Lib.hid (Lies.made w6 31 #[.int .i64 z0, .int .i64 z1, .int .i64 z2, .int .i64 z3])
            obtain ⟨rfl, _, _⟩ := h6
            clear KP
            obtain ⟨b2, off2, rfl, _⟩ := H5.out.keys.cells (i := 0) rfl
            go_wp2
            generalize w6.alloc (.cells #[.int .i64 z0, .int .i64 z1, .int .i64 z2, .int .i64 z3] 31) = Z at H7 HL7 ⊢
            obtain ⟨Y, hY⟩ : ∃ Y, Y = Z.drew := ⟨_, rfl⟩
            have H8 : Hid (St w p room n2 c2 (some ⟨b2, off2, none⟩) ((z0, z1, z2, z3) :: M2) Y) := by rw [hY]; exact H7.out.drewN 1
            have HL8 : Hid (Lies Y w6.heap.size 31 #[.int .i64 z0, .int .i64 z1, .int .i64 z2, .int .i64 z3]) := by rw [hY]; exact HL7.out.drewN 1
            have HYE := Lib.hid hY
            clear hY H7 HL7
            have KL : Hid (Calls Try.prog 19 #[.pointer (some ⟨p, 0, none⟩)] Y (Says (.int .i64 (n2 : Int)) Y)) := by
              have h := lenOf H8.out.has.heap
              rw [H8.out.len] at h
              exact h
            have KS : Hid (Calls Try.prog 21 #[.pointer (some ⟨p, 0, none⟩)] Y (HasAll n2 w p room ((z0, z1, z2, z3) :: M2) Y)) := has_sorted n2 H8.out.len H8.out.has
            have KP : Hid (∀ w', Below Y.heap.size Y w' → w'.cell? ⟨w6.heap.size, 0, none⟩ = some (.int .i64 z0) ∧ w'.cell? ⟨w6.heap.size, 1, none⟩ = some (.int .i64 z1) ∧ w'.cell? ⟨w6.heap.size, 2, none⟩ = some (.int .i64 z2) ∧ w'.cell? ⟨w6.heap.size, 3, none⟩ = some (.int .i64 z3) ∧ w'.cell? ⟨b2, off2, none⟩ = some (.int .i64 z0) ∧ w'.cell? ⟨b2, off2 + 1, none⟩ = some (.int .i64 z1) ∧ w'.cell? ⟨b2, off2 + 2, none⟩ = some (.int .i64 z2) ∧ w'.cell? ⟨b2, off2 + 3, none⟩ = some (.int .i64 z3)) := fun w' hw' => by
              have L := HL8.out.below hw' HL8.out.lt
              obtain ⟨b3, off3, e3, hb3, g0, g1, g2, g3⟩ := (H8.out.keys.below (Nat.le_refl _) hw').cells (i := 0) rfl
              cases e3
              exact ⟨L.cell 0, L.cell 1, L.cell 2, L.cell 3, g0, g1, g2, g3⟩
            refine wp_region_held_drew (S := fun w' => w'.cell? ⟨w6.heap.size, 0, none⟩ = some (.int .i64 z0) ∧ w'.cell? ⟨w6.heap.size, 1, none⟩ = some (.int .i64 z1) ∧ w'.cell? ⟨w6.heap.size, 2, none⟩ = some (.int .i64 z2) ∧ w'.cell? ⟨w6.heap.size, 3, none⟩ = some (.int .i64 z3) ∧ w'.cell? ⟨b2, off2, none⟩ = some (.int .i64 z0) ∧ w'.cell? ⟨b2, off2 + 1, none⟩ = some (.int .i64 z1) ∧ w'.cell? ⟨b2, off2 + 2, none⟩ = some (.int .i64 z2) ∧ w'.cell? ⟨b2, off2 + 3, none⟩ = some (.int .i64 z3)) (by kernel_rfl) (by rw [← HYE.out]; exact KP.out _ (Below.refl _ _)) (fun hHeld => ?_)
            rw [← HYE.out] at hHeld ⊢
            refine wpAnyH_take (i := 0) (oi := ⟨some 174, .move (.tmp 5), _, _, _, none⟩) (v := ?_) rfl (by kernel_rfl) (by kernel_rfl) (by kernel_rfl) (fun _ _ _ h => h) (Or.inl ⟨by rfl, ?_⟩) hHeld ?_
            rotate_left
            · intro w hSw
              (try dsimp only at hSw)
              go_simp
              (try with_reducible rfl)
            (try simp only [Act.put, List.setIfInBounds_toArray, List.set_cons_zero, List.set_cons_succ])
            refine wpAnyH_take (i := 2) (oi := ⟨some 176, .move (.tmp 7), _, _, _, none⟩) (v := ?_) rfl (by kernel_rfl) (by kernel_rfl) (by kernel_rfl) (fun _ _ _ h => h) (Or.inl ⟨by rfl, ?_⟩) hHeld ?_
            rotate_left
            · intro w hSw
              (try dsimp only at hSw)
              go_simp
              (try with_reducible rfl)
            (try simp only [Act.put, List.setIfInBounds_toArray, List.set_cons_zero, List.set_cons_succ])
            refine wpAnyH_take (i := 3) (oi := ⟨some 177, .call { callee := .builtin .len, args := #[.tmp 176], argTypes := #[28] }, _, _, _, none⟩) (v := ?_) rfl (by kernel_rfl) (by kernel_rfl) (by kernel_rfl) (fun _ _ _ h => h) (Or.inl ⟨by rfl, ?_⟩) hHeld ?_
            rotate_left
            · intro w hSw
              (try dsimp only at hSw)
              go_simp
              (try with_reducible rfl)
            (try simp only [Act.put, List.setIfInBounds_toArray, List.set_cons_zero, List.set_cons_succ])
            refine wpAnyH_ready (rs := [1]) (by kernel_rfl) (by simp) ?_
            refine AllReadyH.cons (o := ⟨some 175, .call { callee := .value (.func 19), args := #[.tmp 174], argTypes := #[24] }, _, _, _, none⟩) rfl (fun K hK => ?_) ?_
            rotate_left
            · exact AllReadyH.nil
            go_simp
            go_at_call 19
            refine KL.out.mono ?_
            rintro e7 w7 ⟨rfl, rfl⟩
            (try go_simp)
            refine hK.out _ _ (KP.out _ (Below.refl _ _)) (fun hHeld => ?_)
            clear hK K
            (try simp only [Act.put, List.setIfInBounds_toArray, List.set_cons_zero, List.set_cons_succ])
            refine wpAnyH_take (i := 4) (oi := ⟨some 178, .binOp .neq 3 (.tmp 175) (.tmp 177) 3, _, _, _, none⟩) (v := ?_) rfl (by kernel_rfl) (by kernel_rfl) (by kernel_rfl) (fun _ _ _ h => h) (Or.inl ⟨by rfl, ?_⟩) hHeld ?_
            rotate_left
            · intro w hSw
              (try dsimp only at hSw)
              go_simp
              (try with_reducible rfl)
            (try simp only [Act.put, List.setIfInBounds_toArray, List.set_cons_zero, List.set_cons_succ])
            refine wpAnyH_take (i := 5) (oi := ⟨some 179, .move (.tmp 178), _, _, _, none⟩) (v := ?_) rfl (by kernel_rfl) (by kernel_rfl) (by kernel_rfl) (fun _ _ _ h => h) (Or.inl ⟨by rfl, ?_⟩) hHeld ?_
            rotate_left
            · intro w hSw
              (try dsimp only at hSw)
              go_simp
              (try with_reducible rfl)
            (try simp only [Act.put, List.setIfInBounds_toArray, List.set_cons_zero, List.set_cons_succ])
            refine wpAnyH_take (i := 6) (oi := ⟨some 180, .move (.tmp 14), _, _, _, (some (5, false))⟩) (v := ?_) rfl (by kernel_rfl) (by kernel_rfl) (by kernel_rfl) (fun _ _ _ h => h) (Or.inl ⟨by rfl, ?_⟩) hHeld ?_
            rotate_left
            · intro w hSw
              (try dsimp only at hSw)
              go_simp
              (try with_reducible rfl)
            (try simp only [Act.put, List.setIfInBounds_toArray, List.set_cons_zero, List.set_cons_succ])
            refine wpAnyH_take (i := 7) (oi := ⟨some 181, .move (.tmp 7), _, _, _, (some (5, false))⟩) (v := ?_) rfl (by kernel_rfl) (by kernel_rfl) (by kernel_rfl) (fun _ _ _ h => h) (Or.inl ⟨by rfl, ?_⟩) hHeld ?_
            rotate_left
            · intro w hSw
              (try dsimp only at hSw)
              go_simp
              (try with_reducible rfl)
            (try simp only [Act.put, List.setIfInBounds_toArray, List.set_cons_zero, List.set_cons_succ])
            refine wpAnyH_take (i := 8) (oi := ⟨some 182, .call { callee := .builtin .len, args := #[.tmp 181], argTypes := #[28] }, _, _, _, (some (5, false))⟩) (v := ?_) rfl (by kernel_rfl) (by kernel_rfl) (by kernel_rfl) (fun _ _ _ h => h) (Or.inl ⟨by rfl, ?_⟩) hHeld ?_
            rotate_left
            · intro w hSw
              (try dsimp only at hSw)
              go_simp
              (try with_reducible rfl)
            (try simp only [Act.put, List.setIfInBounds_toArray, List.set_cons_zero, List.set_cons_succ])
            refine wpAnyH_take (i := 9) (oi := ⟨some 183, .binOp .gtr 3 (.tmp 182) (.const (.int .i64 0)) 3, _, _, _, (some (5, false))⟩) (v := ?_) rfl (by kernel_rfl) (by kernel_rfl) (by kernel_rfl) (fun _ _ _ h => h) (Or.inl ⟨by rfl, ?_⟩) hHeld ?_
            rotate_left
            · intro w hSw
              (try dsimp only at hSw)
              go_simp
              (try with_reducible rfl)
            (try simp only [Act.put, List.setIfInBounds_toArray, List.set_cons_zero, List.set_cons_succ])
            refine wpAnyH_take (i := 10) (oi := ⟨some 184, .binOp .neq 4 (.tmp 180) (.tmp 183) 4, _, _, _, (some (5, false))⟩) (v := ?_) rfl (by kernel_rfl) (by kernel_rfl) (by kernel_rfl) (fun _ _ _ h => h) (Or.inl ⟨by rfl, ?_⟩) hHeld ?_
            rotate_left
            · intro w hSw
              (try dsimp only at hSw)
              go_simp
              (try with_reducible rfl)
            (try simp only [Act.put, List.setIfInBounds_toArray, List.set_cons_zero, List.set_cons_succ])
            refine wpAnyH_take (i := 11) (oi := ⟨some 185, .pick (.tmp 179) (.const (.bool true)) (.tmp 184), _, _, _, none⟩) (v := ?_) rfl (by kernel_rfl) (by kernel_rfl) (by kernel_rfl) (fun _ _ _ h => h) (Or.inl ⟨by rfl, ?_⟩) hHeld ?_
            rotate_left
            · intro w hSw
              (try dsimp only at hSw)
              go_simp
              (try with_reducible rfl)
            (try simp only [Act.put, List.setIfInBounds_toArray, List.set_cons_zero, List.set_cons_succ])
            refine wpAnyH_take (i := 12) (oi := ⟨some 186, .move (.tmp 185), _, _, _, none⟩) (v := ?_) rfl (by kernel_rfl) (by kernel_rfl) (by kernel_rfl) (fun _ _ _ h => h) (Or.inl ⟨by rfl, ?_⟩) hHeld ?_
            rotate_left
            · intro w hSw
              (try dsimp only at hSw)
              go_simp
              (try with_reducible rfl)
            (try simp only [Act.put, List.setIfInBounds_toArray, List.set_cons_zero, List.set_cons_succ])
            refine wpAnyH_take (i := 13) (oi := ⟨some 187, .move (.tmp 14), _, _, _, (some (12, false))⟩) (v := ?_) rfl (by kernel_rfl) (by kernel_rfl) (by kernel_rfl) (fun _ _ _ h => h) (Or.inl ⟨by rfl, ?_⟩) hHeld ?_
            rotate_left
            · intro w hSw
              (try dsimp only at hSw)
              go_simp
              (try with_reducible rfl)
            (try simp only [Act.put, List.setIfInBounds_toArray, List.set_cons_zero, List.set_cons_succ])
            refine wpAnyH_take (i := 14) (oi := ⟨some 188, .move (.tmp 187), _, _, _, (some (12, false))⟩) (v := ?_) rfl (by kernel_rfl) (by kernel_rfl) (by kernel_rfl) (fun _ _ _ h => h) (Or.inl ⟨by rfl, ?_⟩) hHeld ?_
            rotate_left
            · intro w hSw
              (try dsimp only at hSw)
              go_simp
              (try with_reducible rfl)
            (try simp only [Act.put, List.setIfInBounds_toArray, List.set_cons_zero, List.set_cons_succ])
            refine wpAnyH_take (i := 15) (oi := ⟨some 189, .load 31 (.tmp 13), _, _, _, (some (14, true))⟩) (v := ?_) rfl (by kernel_rfl) (by kernel_rfl) (by kernel_rfl) (fun _ _ _ h => h) (Or.inl ⟨by rfl, ?_⟩) hHeld ?_
            rotate_left
            · intro w hSw
              (try dsimp only at hSw)
              go_simp
              (try with_reducible rfl)
            (try simp only [Act.put, List.setIfInBounds_toArray, List.set_cons_zero, List.set_cons_succ])
            refine wpAnyH_take (i := 16) (oi := ⟨some 190, .move (.tmp 7), _, _, _, (some (14, true))⟩) (v := ?_) rfl (by kernel_rfl) (by kernel_rfl) (by kernel_rfl) (fun _ _ _ h => h) (Or.inl ⟨by rfl, ?_⟩) hHeld ?_
            rotate_left
            · intro w hSw
              (try dsimp only at hSw)
              go_simp
              (try with_reducible rfl)
            (try simp only [Act.put, List.setIfInBounds_toArray, List.set_cons_zero, List.set_cons_succ])
            refine wpAnyH_take (i := 17) (oi := ⟨some 191, .indexAddr 28 (.tmp 190) (.const (.int .i64 0)), _, _, _, (some (14, true))⟩) (v := ?_) rfl (by kernel_rfl) (by kernel_rfl) (by kernel_rfl) (fun _ _ _ h => h) (Or.inl ⟨by rfl, ?_⟩) hHeld ?_
            rotate_left
            · intro w hSw
              (try dsimp only at hSw)
              go_simp
              (try with_reducible rfl)
            (try simp only [Act.put, List.setIfInBounds_toArray, List.set_cons_zero, List.set_cons_succ])
            refine wpAnyH_take (i := 18) (oi := ⟨some 192, .load 31 (.tmp 191), _, _, _, (some (14, true))⟩) (v := ?_) rfl (by kernel_rfl) (by kernel_rfl) (by kernel_rfl) (fun _ _ _ h => h) (Or.inl ⟨by rfl, ?_⟩) hHeld ?_
            rotate_left
            · intro w hSw
              (try dsimp only at hSw)
              go_simp
              (try with_reducible rfl)
            (try simp only [Act.put, List.setIfInBounds_toArray, List.set_cons_zero, List.set_cons_succ])
            refine wpAnyH_take (i := 19) (oi := ⟨some 193, .binOp .neq 31 (.tmp 189) (.tmp 192) 31, _, _, _, (some (14, true))⟩) (v := ?_) rfl (by kernel_rfl) (by kernel_rfl) (by kernel_rfl) (fun _ _ _ h => h) (Or.inl ⟨by rfl, ?_⟩) hHeld ?_
            rotate_left
            · intro w hSw
              (try dsimp only at hSw)
              go_simp
              (try with_reducible rfl)
            (try simp only [Act.put, List.setIfInBounds_toArray, List.set_cons_zero, List.set_cons_succ])
            refine wpAnyH_take (i := 20) (oi := ⟨some 194, .pick (.tmp 188) (.tmp 193) (.const (.bool false)), _, _, _, (some (12, false))⟩) (v := ?_) rfl (by kernel_rfl) (by kernel_rfl) (by kernel_rfl) (fun _ _ _ h => h) (Or.inl ⟨by rfl, ?_⟩) hHeld ?_
            rotate_left
            · intro w hSw
              (try dsimp only at hSw)
              go_simp
              (try with_reducible rfl)
            (try simp only [Act.put, List.setIfInBounds_toArray, List.set_cons_zero, List.set_cons_succ])
            refine wpAnyH_take (i := 21) (oi := ⟨some 195, .pick (.tmp 186) (.const (.bool true)) (.tmp 194), _, _, _, none⟩) (v := ?_) rfl (by kernel_rfl) (by kernel_rfl) (by kernel_rfl) (fun _ _ _ h => h) (Or.inl ⟨by rfl, ?_⟩) hHeld ?_
            rotate_left
            · intro w hSw
              (try dsimp only at hSw)
              go_simp
              (try with_reducible rfl)
            (try simp only [Act.put, List.setIfInBounds_toArray, List.set_cons_zero, List.set_cons_succ])
            refine wpAnyH_take (i := 22) (oi := ⟨some 196, .move (.tmp 195), _, _, _, none⟩) (v := ?_) rfl (by kernel_rfl) (by kernel_rfl) (by kernel_rfl) (fun _ _ _ h => h) (Or.inl ⟨by rfl, ?_⟩) hHeld ?_
            rotate_left
            · intro w hSw
              (try dsimp only at hSw)
              go_simp
              (try with_reducible rfl)
            (try simp only [Act.put, List.setIfInBounds_toArray, List.set_cons_zero, List.set_cons_succ])
            refine wpAnyH_take (i := 23) (oi := ⟨some 197, .move (.tmp 5), _, _, _, (some (22, false))⟩) (v := ?_) rfl (by kernel_rfl) (by kernel_rfl) (by kernel_rfl) (fun _ _ _ h => h) (Or.inl ⟨by rfl, ?_⟩) hHeld ?_
            rotate_left
            · intro w hSw
              (try dsimp only at hSw)
              go_simp
              (try with_reducible rfl)
            (try simp only [Act.put, List.setIfInBounds_toArray, List.set_cons_zero, List.set_cons_succ])
            refine wpAnyH_take (i := 25) (oi := ⟨some 199, .move (.tmp 7), _, _, _, (some (22, false))⟩) (v := ?_) rfl (by kernel_rfl) (by kernel_rfl) (by kernel_rfl) (fun _ _ _ h => h) (Or.inl ⟨by rfl, ?_⟩) hHeld ?_
            rotate_left
            · intro w hSw
              (try dsimp only at hSw)
              go_simp
              (try with_reducible rfl)
            (try simp only [Act.put, List.setIfInBounds_toArray, List.set_cons_zero, List.set_cons_succ])
            refine wpAnyH_ready (rs := [24]) (by kernel_rfl) (by simp) ?_
            refine AllReadyH.cons (o := ⟨some 198, .call { callee := .value (.func 21), args := #[.tmp 197], argTypes := #[24] }, _, _, _, (some (22, false))⟩) rfl (fun K hK => ?_) ?_
            rotate_left
            · exact AllReadyH.nil
            go_simp
            go_at_call 21
            refine KS.out.mono ?_
            rintro e8 w9 ⟨A9, c9, rfl, _, hb9, _, hk9, _⟩
            (try go_simp)
            have H9 := Lib.hid (H8.out.more hb9)
            have SM := Lib.hid (refSame ((z0, z1, z2, z3) :: M2) A9 (some ⟨b2, off2, none⟩) c9 c2 (by have := H9.out.len; omega) hk9 H9.out.keys)
            have e9 := H9.out.len
            rw [e9] at SM
            clear hk9 e9
            refine hK.out _ _ (KP.out _ hb9) (fun hHeld => ?_)
            clear hK K
            (try simp only [Act.put, List.setIfInBounds_toArray, List.set_cons_zero, List.set_cons_succ])
            refine wpAnyH_ready (rs := [26]) (by kernel_rfl) (by simp) ?_
            refine AllReadyH.cons (o := ⟨some 200, .call { callee := .value (.func 20), args := #[.tmp 198, .tmp 199], argTypes := #[28, 28] }, _, _, _, (some (22, false))⟩) rfl (fun K hK => ?_) ?_
            rotate_left
            · exact AllReadyH.nil
            go_simp
            go_at_call 20
            refine SM.out.mono ?_
            rintro e10 w10 ⟨rfl, d10, rfl⟩
            (try go_simp)
            refine hK.out _ _ (KP.out _ (below_drewN hb9 d10)) (fun hHeld => ?_)
            clear hK K
            (try simp only [Act.put, List.setIfInBounds_toArray, List.set_cons_zero, List.set_cons_succ])
            refine wpAnyH_take (i := 27) (oi := ⟨some 201, .unOp .not 4 (.tmp 200), _, _, _, (some (22, false))⟩) (v := ?_) rfl (by kernel_rfl) (by kernel_rfl) (by kernel_rfl) (fun _ _ _ h => h) (Or.inl ⟨by rfl, ?_⟩) hHeld ?_
            rotate_left
            · intro w hSw
              (try dsimp only at hSw)
              go_simp
              (try with_reducible rfl)
            (try simp only [Act.put, List.setIfInBounds_toArray, List.set_cons_zero, List.set_cons_succ])
            refine wpAnyH_take (i := 28) (oi := ⟨some 202, .pick (.tmp 196) (.const (.bool true)) (.tmp 201), _, _, _, none⟩) (v := ?_) rfl (by kernel_rfl) (by kernel_rfl) (by kernel_rfl) (fun _ _ _ h => h) (Or.inl ⟨by rfl, ?_⟩) hHeld ?_
            rotate_left
            · intro w hSw
              (try dsimp only at hSw)
              go_simp
              (try with_reducible rfl)
            (try simp only [Act.put, List.setIfInBounds_toArray, List.set_cons_zero, List.set_cons_succ])
            refine wpAnyH_done (by kernel_rfl) ?_ _
            have H10 := Lib.hid (H9.out.drewN d10)
            clear hb9 hHeld
            go_wp2
            go_roundw
            case rel => exact ⟨k + 1, n2, c2, (some ⟨b2, off2, none⟩), ((z0, z1, z2, z3) :: M2), by omega, by omega, by go_num, rfl, H10.out⟩
            case measure => simp [intOf]; omega
      · have t4 : decide ((k : Int) < (l.length : Int)) = false := by simp; omega
        have t4' : decide (k < l.length) = false := by simp; omega
        go_wp2
        go_ret
        exact ⟨rfl, H3.out.has.below⟩
end Go.Proofs.Ytblecehmbmbjiaa.Model
