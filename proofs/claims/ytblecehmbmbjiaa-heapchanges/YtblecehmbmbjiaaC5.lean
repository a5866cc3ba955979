/- The walk of the statement on a key that is changed. -/
import Derived.Test.YtblecehmbmbjiaaC4
namespace Go.Proofs.Ytblecehmbmbjiaa
open Go.RowKit

/-- k in the place of the key with its Id. -/
def rp (k x : Ky) : Ky := if idK x = idK k then k else x
theorem id_rp (k x : Ky) : idK (rp k x) = idK x := by
  unfold rp
  split
  · rename_i h; exact h.symm
  · rfl
theorem map_id_rp (k : Ky) (m : List Ky) : (m.map (rp k)).map idK = m.map idK := by
  rw [List.map_map]
  exact List.map_congr_left (fun x _ => id_rp k x)
theorem map_rp_none {k : Ky} {m : List Ky} (h : idK k ∉ m.map idK) : m.map (rp k) = m := by
  have : ∀ x ∈ m, rp k x = x := fun x hx => by
    unfold rp
    exact if_neg (fun e => h (by rw [← e]; exact List.mem_map_of_mem hx))
  rw [List.map_congr_left this]
  exact List.map_id' _
theorem rp_step {k x : Ky} {m n : List Ky} (h : n.Perm (m.map (rp k))) : (putK n (rp k x)).Perm ((putK m x).map (rp k)) :=
  (put_perm _ _).trans ((h.cons _).trans ((put_perm m x).map (rp k)).symm)
theorem rp_fresh {k x : Ky} {m n : List Ky} (h : n.Perm (m.map (rp k))) (hx : idK x ∉ m.map idK) : idK (rp k x) ∉ n.map idK := fun hm => by
  rw [id_rp] at hm
  have := (h.map idK).mem_iff.1 hm
  rw [map_id_rp] at this
  exact hx this
theorem rp_none {k : Ky} {m n : List Ky} (h : n.Perm (m.map (rp k))) (hm : Good m) (hn : Good n) (hk : idK k ∉ m.map idK) : n = m := by
  rw [map_rp_none hk] at h
  exact srt_unique hn.srt hm.srt h
theorem rp_some {k b : Ky} {m n : List Ky} {q : Nat} (h : n.Perm (m.map (rp k))) (hm : Good m) (hn : Good n) (hq : m[q]? = some b) (hid : idK b = idK k) : n = putK (m.eraseIdx q) k := by
  have hno : idK k ∉ (m.eraseIdx q).map idK := by rw [← hid]; exact hm.erase_id hq
  have hg : Good (putK (m.eraseIdx q) k) := (hm.without q).put hno
  refine srt_unique hn.srt hg.srt (h.trans (List.Perm.trans ?_ (put_perm _ _).symm))
  have h1 := (erase_perm hq).map (rp k)
  rw [List.map_cons, map_rp_none hno, show rp k b = k by unfold rp; exact if_pos hid] at h1
  exact h1

/-- A row of keys that is new since B. -/
structure RowB (B : Nat) (A : Option Addr) (n c : Nat) (M : List Ky) (W : World) : Prop where
  len : M.length = n
  le : n ≤ c
  form : 0 < n → ∃ g, A = some ⟨g, 0, none⟩ ∧ B ≤ g ∧ KRow W g c M
section
variable {W W' : World} {A : Option Addr} {n c B p : Nat} {M : List Ky}
theorem RowB.turns (h : RowB B A n c M W) (ht : Turns (fun k => k = p) W W') (hp : p < B) : RowB B A n c M W' :=
  ⟨h.len, h.le, fun h0 => let ⟨g, h1, h2, h3⟩ := h.form h0; ⟨g, h1, h2, h3.turns ht (by omega)⟩⟩
theorem RowB.more (h : RowB B A n c M W) (hb : Below W.heap.size W W') : RowB B A n c M W' :=
  ⟨h.len, h.le, fun h0 => let ⟨g, h1, h2, h3⟩ := h.form h0; ⟨g, h1, h2, h3.below hb h3.lt⟩⟩
theorem RowB.drewN (h : RowB B A n c M W) (d : Nat) : RowB B A n c M (W.drewN d) := h.more (below_drewN (Below.refl _ _) d)
theorem RowB.keys (h : RowB B A n c M W) : Keys W A c M := ⟨by rw [h.len]; exact h.le, fun h0 => by
  obtain ⟨g, rfl, _, h3⟩ := h.form (by rw [← h.len]; exact h0)
  exact h3.keys.form h0⟩
end

namespace Changes
def Rel (l : List Ky) (k : Ky) (w : World) (p q : Nat) (i : Value) (W : World) : Prop :=
  ∃ (j : Nat) (m n : List Ky), j ≤ l.length ∧ m.length ≤ j ∧ i = .int .i64 (j : Int) ∧ n.Perm (m.map (rp k)) ∧ Two w p q 1024 m n W ∧ Lies W w.heap.size 31 #[.int .i64 k.1, .int .i64 k.2.1, .int .i64 k.2.2.1, .int .i64 k.2.2.2]

set_option maxRecDepth 100000 in
set_option maxHeartbeats 8000000 in
theorem core (l : List Ky) (a : Option Addr) (cap : Nat) (k : Ky) (w : World) (hm : l.length ≤ maxLen) (hr : Keys w a cap l) : Calls Try.prog 8 #[.slice a l.length cap, aggQ k] w (Woke w) := by
  have HR := Lib.hid hr
  unfold maxLen at hm
  clear hr
  obtain ⟨k0, k1, k2, k3⟩ := k
  simp only [aggQ]
  have HB0 := Lib.hid (below_new w (.cells #[.int .i64 k0, .int .i64 k1, .int .i64 k2, .int .i64 k3] 31))
  have HL0 := Lib.hid (Lies.made w 31 #[.int .i64 k0, .int .i64 k1, .int .i64 k2, .int .i64 k3])
  have KN := Lib.hid (fun W (hb : Below w.heap.size w W) => has_new (w0 := w) 1024 hb (by omega) (by omega))
  go_enter Try.func8, Try.ntmps8
  go_wp2_with (fail)
  refine (awake _).mono ?_
  rintro e w1 ⟨rfl, hb1⟩
  have B1 := Lib.hid (HB0.out.trans (hb1.mono HB0.out.size))
  have HL1 := Lib.hid (HL0.out.below hb1 HL0.out.lt)
  clear hb1 HB0 HL0
  by_cases h3 : 200 < l.length
  · have t1 : decide ((200 : Int) < (l.length : Int)) = true := by simp; omega
    go_wp2_with (fail)
    refine (awake _).mono ?_
    rintro e w2 ⟨rfl, hb2⟩
    go_wp2
    go_ret
    exact ⟨rfl, B1.out.trans (hb2.mono B1.out.size)⟩
  · have t1 : decide ((200 : Int) < (l.length : Int)) = false := by simp; omega
    go_wp2_with (fail)
    refine (KN.out _ B1.out).mono ?_
    rintro e w2 ⟨rfl, h2, hb2⟩
    have H2 := Lib.hid h2
    have HL2 := Lib.hid (HL1.out.below hb2 HL1.out.lt)
    have hpb : w.heap.size < w1.heap.size := HL1.out.lt
    clear h2 hb2
    generalize w1.heap.size = p at H2 hpb ⊢
    go_wp2_with (fail)
    refine (KN.out _ H2.out.below).mono ?_
    rintro e w3 ⟨rfl, h3', hb3⟩
    have H3 : Hid (Two w p w2.heap.size 1024 [] [] w3) := ⟨H2.out.more hb3, h3', by have := H2.out.heap.lt; omega⟩
    have HL3 := Lib.hid (HL2.out.below hb3 HL2.out.lt)
    have hqb : w.heap.size < w2.heap.size := HL2.out.lt
    clear h3' hb3
    generalize w2.heap.size = q at H3 hqb ⊢
    go_wp2
    go_loopw [9] (fun i W => Rel l (k0, k1, k2, k3) w p q i W) (fun i _ => l.length - (intOf i).toNat)
    case atStart => exact ⟨0, [], [], by omega, by simp, rfl, by simp, H3.out, HL3.out⟩
    case round =>
      obtain ⟨j, m, n, hj, hmj, rfl, hpm, hh, hl⟩ := hrel
      have HPM := Lib.hid hpm
      have H4 := Lib.hid hh
      have HL4 := Lib.hid hl
      clear hpm hh hl H3 HL3
      simp only at HL4
      by_cases hlt : j < l.length
      · have t2 : decide ((j : Int) < (l.length : Int)) = true := by simp; omega
        have hx : l[j]? = some l[j] := List.getElem?_eq_getElem hlt
        have CX : Hid (∀ W, Below w.heap.size w W → ∃ b off, a = some ⟨b, off, none⟩ ∧ W.cell? ⟨b, off + j * 4, none⟩ = some (.int .i64 l[j].1) ∧ W.cell? ⟨b, off + j * 4 + 1, none⟩ = some (.int .i64 l[j].2.1) ∧ W.cell? ⟨b, off + j * 4 + 2, none⟩ = some (.int .i64 l[j].2.2.1) ∧ W.cell? ⟨b, off + j * 4 + 3, none⟩ = some (.int .i64 l[j].2.2.2)) := fun W hW => by
          obtain ⟨b', off', eb, _, h⟩ := (HR.out.below (Nat.le_refl _) hW).cells hx
          exact ⟨b', off', eb, h⟩
        clear hx
        generalize l[j] = x at CX
        by_cases hid : idK x ∈ m.map idK
        · have KP := Lib.hid (has_push_twice x hid H4.out.one_)
          clear hid
          obtain ⟨b, off, rfl, x0, x1, x2, x3⟩ := CX.out _ H4.out.one_.below
          obtain ⟨y0, y1, y2, y3⟩ := x
          simp only [aggQ] at x0 x1 x2 x3 KP
          go_wp2_with (fail)
          with_reducible refine KP.out.mono ?_
          intro e w5 h5
          have H5 := Lib.hid (H4.out.first h5)
          have HL5 := Lib.hid (HL4.out.turns h5.2.2 (by omega))
          obtain ⟨rfl, _, _⟩ := h5
          clear x0 x1 x2 x3
          go_wp2
          go_roundw
          case rel => exact ⟨j + 1, m, n, by omega, by omega, by go_num, HPM.out, H5.out, HL5.out⟩
          case measure => simp [intOf]; omega
        · have KP := Lib.hid (has_push x hid (by omega) H4.out.one_)
          have HPS := Lib.hid (rp_step (x := x) HPM.out)
          have HFR := Lib.hid (rp_fresh HPM.out hid)
          have hnl : n.length < 1024 := by rw [HPM.out.length_eq, List.length_map]; omega
          have HML := Lib.hid (length_put m x)
          have KQ : Hid (∀ W, Has w q 1024 n W → Calls Try.prog 13 #[.pointer (some ⟨q, 0, none⟩), aggQ (rp (k0, k1, k2, k3) x)] W (Then (.int .i64 0) w q 1024 (putK n (rp (k0, k1, k2, k3) x)) W)) := fun W h => has_push _ HFR.out hnl h
          clear hid HFR
          generalize putK m x = m2 at KP HPS HML
          obtain ⟨b, off, rfl, x0, x1, x2, x3⟩ := CX.out _ H4.out.one_.below
          by_cases hxk : idK x = k3
          · have e1 : rp (k0, k1, k2, k3) x = (k0, k1, k2, k3) := if_pos hxk
            rw [e1] at KQ HPS
            clear e1
            generalize putK n (k0, k1, k2, k3) = n2 at KQ HPS
            obtain ⟨y0, y1, y2, y3⟩ := x
            have t5 : (y3 == k3) = true := by rw [beq_iff_eq]; exact hxk
            clear hxk
            simp only [aggQ] at x0 x1 x2 x3 KP KQ CX
            go_wp2_with (fail)
            with_reducible refine KP.out.mono ?_
            intro e w5 h5
            have H5 := Lib.hid (H4.out.first h5)
            have HL5 := Lib.hid (HL4.out.turns h5.2.2 (by omega))
            obtain ⟨rfl, _, _⟩ := h5
            clear x0 x1 x2 x3
            obtain ⟨b', off', eb, _, _, _, x3⟩ := CX.out _ H5.out.one_.below
            cases eb
            have z0 : w5.cell? ⟨w.heap.size, 0, none⟩ = some (.int .i64 k0) := HL5.out.cell 0
            have z1 : w5.cell? ⟨w.heap.size, 1, none⟩ = some (.int .i64 k1) := HL5.out.cell 1
            have z2 : w5.cell? ⟨w.heap.size, 2, none⟩ = some (.int .i64 k2) := HL5.out.cell 2
            have z3 : w5.cell? ⟨w.heap.size, 3, none⟩ = some (.int .i64 k3) := HL5.out.cell 3
            go_wp2
            go_quiet (fail)
            have H6 := Lib.hid (H5.out.drewN nq)
            have HL6 := Lib.hid (HL5.out.drewN nq)
            go_wp2_with (fail)
            with_reducible refine (KQ.out _ H6.out.two_).mono ?_
            intro e w6 h6
            have H7 := Lib.hid (H6.out.second h6)
            have HL7 := Lib.hid (HL6.out.turns h6.2.2 (by omega))
            obtain ⟨rfl, _, _⟩ := h6
            clear x3 z0 z1 z2 z3
            go_wp2
            go_roundw
            case rel => exact ⟨j + 1, m2, n2, by omega, by rw [HML.out]; omega, by go_num, HPS.out, H7.out, HL7.out⟩
            case measure => simp [intOf]; omega
          · have e1 : rp (k0, k1, k2, k3) x = x := if_neg hxk
            rw [e1] at KQ HPS
            clear e1
            generalize putK n x = n2 at KQ HPS
            obtain ⟨y0, y1, y2, y3⟩ := x
            have t5 : (y3 == k3) = false := by rw [beq_eq_false_iff_ne]; exact hxk
            clear hxk
            simp only [aggQ] at x0 x1 x2 x3 KP KQ CX
            go_wp2_with (fail)
            with_reducible refine KP.out.mono ?_
            intro e w5 h5
            have H5 := Lib.hid (H4.out.first h5)
            have HL5 := Lib.hid (HL4.out.turns h5.2.2 (by omega))
            obtain ⟨rfl, _, _⟩ := h5
            clear x0 x1 x2 x3
            obtain ⟨b', off', eb, x0, x1, x2, x3⟩ := CX.out _ H5.out.one_.below
            cases eb
            have z3 : w5.cell? ⟨w.heap.size, 3, none⟩ = some (.int .i64 k3) := HL5.out.cell 3
            go_wp2
            go_quiet (fail)
            have H6 := Lib.hid (H5.out.drewN nq)
            have HL6 := Lib.hid (HL5.out.drewN nq)
            go_wp2_with (fail)
            with_reducible refine (KQ.out _ H6.out.two_).mono ?_
            intro e w6 h6
            have H7 := Lib.hid (H6.out.second h6)
            have HL7 := Lib.hid (HL6.out.turns h6.2.2 (by omega))
            obtain ⟨rfl, _, _⟩ := h6
            clear x0 x1 x2 x3 z3
            go_wp2
            go_roundw
            case rel => exact ⟨j + 1, m2, n2, by omega, by rw [HML.out]; omega, by go_num, HPS.out, H7.out, HL7.out⟩
            case measure => simp [intOf]; omega
      · have t2 : decide ((j : Int) < (l.length : Int)) = false := by simp; omega
        have t2' : decide (j < l.length) = false := by simp; omega
        have hm2 : m.length ≤ 200 := by omega
        obtain ⟨M, hM⟩ : ∃ M, M = n := ⟨_, rfl⟩
        have KC : Hid (∃ v, Calls Try.prog 17 #[.pointer (some ⟨p, 0, none⟩), aggQ (k0, k1, k2, k3)] wr (Then (.bool v) w p 1024 M wr)) := by
          rw [hM]
          by_cases hid : k3 ∈ m.map idK
          · obtain ⟨b, hb, e⟩ := List.mem_map.1 hid
            obtain ⟨i, hi⟩ := List.getElem?_of_mem hb
            have h := has_change (k0, k1, k2, k3) hi (show idK b = idK (k0, k1, k2, k3) from e) H4.out.one_
            rw [← rp_some HPM.out H4.out.one_.heap.good H4.out.two_.heap.good hi e] at h
            exact ⟨_, h⟩
          · have h := has_change_no (k0, k1, k2, k3) hid H4.out.one_
            rw [rp_none HPM.out H4.out.one_.heap.good H4.out.two_.heap.good hid]
            exact ⟨_, h⟩
        have HML : Hid (M.length ≤ 200) := by rw [hM, HPM.out.length_eq, List.length_map]; exact hm2
        have H5 := Lib.hid (H4.out.eq (m' := m) rfl hM.symm)
        have HL5 := Lib.hid HL4.out
        clear hM HPM H4 HL4
        obtain ⟨vc, KC⟩ := KC.out
        have KC := Lib.hid KC
        simp only [aggQ] at KC
        have z0 : wr.cell? ⟨w.heap.size, 0, none⟩ = some (.int .i64 k0) := HL5.out.cell 0
        have z1 : wr.cell? ⟨w.heap.size, 1, none⟩ = some (.int .i64 k1) := HL5.out.cell 1
        have z2 : wr.cell? ⟨w.heap.size, 2, none⟩ = some (.int .i64 k2) := HL5.out.cell 2
        have z3 : wr.cell? ⟨w.heap.size, 3, none⟩ = some (.int .i64 k3) := HL5.out.cell 3
        go_wp2_with (fail)
        with_reducible refine KC.out.mono ?_
        intro e w5 h5
        have H6 := Lib.hid (H5.out.first h5)
        have HL6 := Lib.hid (HL5.out.turns h5.2.2 (by omega))
        obtain ⟨rfl, _, _⟩ := h5
        clear z0 z1 z2 z3 H5 HL5
        obtain ⟨nn, hnn⟩ : ∃ nn, nn = M.length := ⟨_, rfl⟩
        have HNN := Lib.hid hnn.symm
        have hn2 : nn ≤ 200 := by rw [hnn]; exact HML.out
        clear hnn
        have KS : Hid (∀ r W, Has w r 1024 M W → Calls Try.prog 21 #[.pointer (some ⟨r, 0, none⟩)] W (HasAll nn w r 1024 M W)) := fun r W h => has_sorted nn HNN.out h
        have KR : Hid (∃ (v : Bool) (N : List Ky), N.length ≤ nn ∧ nn ≤ N.length + 1 ∧ ∀ r W, Has w r 1024 M W → Calls Try.prog 15 #[.pointer (some ⟨r, 0, none⟩), .int .i64 k3] W (Then (.bool v) w r 1024 N W)) := by
          by_cases hid : k3 ∈ M.map idK
          · obtain ⟨b, hb, e⟩ := List.mem_map.1 hid
            obtain ⟨i, hi⟩ := List.getElem?_of_mem hb
            have hl : M.length = (M.eraseIdx i).length + 1 := (erase_perm hi).length_eq
            have hh := HNN.out
            exact ⟨true, M.eraseIdx i, by omega, by omega, fun r W h => has_remove k3 hi e h⟩
          · exact ⟨false, M, by rw [HNN.out]; omega, by rw [HNN.out]; omega, fun r W h => has_remove_no k3 hid h⟩
        obtain ⟨vr, N, hN1, hN2, hKR⟩ := KR.out
        have KR := Lib.hid hKR
        clear hKR
        obtain ⟨nr, hnr⟩ : ∃ nr, nr = N.length := ⟨_, rfl⟩
        have HNR := Lib.hid hnr.symm
        rw [← hnr] at hN1 hN2
        clear hnr
        have KSN : Hid (∀ r W, Has w r 1024 N W → Calls Try.prog 21 #[.pointer (some ⟨r, 0, none⟩)] W (HasAll nr w r 1024 N W)) := fun r W h => has_sorted nr HNR.out h
        go_wp2_with (fail)
        with_reducible refine (KS.out _ _ H6.out.one_).mono ?_
        rintro e w6 ⟨A6, c6, rfl, _, hb6, hc6, _, hr6⟩
        have H7 := Lib.hid (H6.out.more hb6)
        have HL7 := Lib.hid (HL6.out.below hb6 HL6.out.lt)
        have R7 : Hid (RowB w5.heap.size A6 nn c6 M w6) := ⟨HNN.out, hc6, hr6⟩
        have hp5 := H6.out.one_.heap.lt
        have hq5 := H6.out.two_.heap.lt
        clear hb6 hr6 H6 HL6
        have KL := Lib.hid (lenOf H7.out.one_.heap)
        rw [HNN.out] at KL
        go_wp2_with (fail)
        with_reducible refine KL.out.mono ?_
        rintro e w7 ⟨rfl, rfl⟩
        have z3 : w6.cell? ⟨w.heap.size, 3, none⟩ = some (.int .i64 k3) := HL7.out.cell 3
        go_wp2_with (fail)
        with_reducible refine (KR.out _ _ H7.out.one_).mono ?_
        intro e w8 h8
        have H8 := Lib.hid (H7.out.first h8)
        have HL8 := Lib.hid (HL7.out.turns h8.2.2 (by omega))
        have R8 := Lib.hid (R7.out.turns h8.2.2 hp5)
        obtain ⟨rfl, _, _⟩ := h8
        clear z3 H7 HL7 R7
        go_wp2_with (fail)
        with_reducible refine (KS.out _ _ H8.out.two_).mono ?_
        rintro e w9 ⟨A9, c9, rfl, _, hb9, hc9, _, hr9⟩
        have H9 := Lib.hid (H8.out.more hb9)
        have HL9 := Lib.hid (HL8.out.below hb9 HL8.out.lt)
        have R9 := Lib.hid (R8.out.more hb9)
        have S9 : Hid (RowB w8.heap.size A9 nn c9 M w9) := ⟨HNN.out, hc9, hr9⟩
        have hp8 := H8.out.one_.heap.lt
        have hq8 := H8.out.two_.heap.lt
        clear hb9 hr9 H8 HL8 R8
        have z3 : w9.cell? ⟨w.heap.size, 3, none⟩ = some (.int .i64 k3) := HL9.out.cell 3
        go_wp2_with (fail)
        with_reducible refine (KR.out _ _ H9.out.two_).mono ?_
        intro e w10 h10
        have H10 := Lib.hid (H9.out.second h10)
        have R10 := Lib.hid (R9.out.turns h10.2.2 hq5)
        have S10 := Lib.hid (S9.out.turns h10.2.2 hq8)
        obtain ⟨rfl, _, _⟩ := h10
        clear z3 H9 R9 S9
        have SM := Lib.hid (refSame M A6 A9 c6 c9 (by rw [HNN.out]; omega) R10.out.keys S10.out.keys)
        rw [HNN.out] at SM
        go_wp2_with (fail)
        with_reducible refine SM.out.mono ?_
        rintro e w11 ⟨rfl, d11, rfl⟩
        have H11 := Lib.hid (H10.out.drewN d11)
        clear R10 S10 H10
        generalize w10.drewN d11 = w11 at H11 ⊢
        go_wp2_with (fail)
        with_reducible refine (KSN.out _ _ H11.out.one_).mono ?_
        rintro e w12 ⟨A12, c12, rfl, _, hb12, _, hk12, _⟩
        have H12 := Lib.hid (H11.out.more hb12)
        have HK12 := Lib.hid hk12
        clear hb12 hk12 H11
        go_wp2_with (fail)
        with_reducible refine (KSN.out _ _ H12.out.two_).mono ?_
        rintro e w13 ⟨A13, c13, rfl, _, hb13, _, hk13, _⟩
        have H13 := Lib.hid (H12.out.more hb13)
        have SN := Lib.hid (refSame N A12 A13 c12 c13 (by rw [HNR.out]; omega) (HK12.out.below (Nat.le_refl _) hb13) hk13)
        rw [HNR.out] at SN
        clear hb13 hk13 H12 HK12
        go_wp2_with (fail)
        with_reducible refine SN.out.mono ?_
        rintro e w14 ⟨rfl, d14, rfl⟩
        have H14 := Lib.hid (H13.out.drewN d14)
        clear H13
        generalize w13.drewN d14 = w14 at H14 ⊢
        have KL2 := Lib.hid (lenOf H14.out.one_.heap)
        rw [HNR.out] at KL2
        have t7 : decide ((nn : Int) - (nr : Int) ≤ 1) = true := by simp; omega
        go_wp2_with (fail)
        with_reducible refine KL2.out.mono ?_
        rintro e w15 ⟨rfl, rfl⟩
        go_wp2
        go_ret
        exact ⟨rfl, H14.out.one_.below⟩
end Changes
end Go.Proofs.Ytblecehmbmbjiaa
