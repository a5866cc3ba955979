/- The walk of the statement on what is cancelled. -/
import Derived.Test.YtngoclkhhfcjjaaTw
namespace Go.Proofs.Ytngoclkhhfcjjaa.Cancels
open Go.RowKit

def PushRel (w : World) (pa pb N : Nat) (id : Int) (i : Value) (W : World) : Prop := ∃ (k : Nat) (Sa Sb : Nat → Prop) (m : List Ky), k ≤ N ∧ m.length ≤ k ∧ i = .int .i64 (k : Int) ∧ Two w Sa pa 0 m Sb pb 0 (wo m id) W

set_option maxRecDepth 100000 in
set_option maxHeartbeats 4000000 in
theorem core (l : List Ky) (a : Option Addr) (cap : Nat) (id t : Int) (w : World) (hm : l.length ≤ maxLen) (hr : Keys w a cap l) (ht1 : 0 ≤ t) (ht2 : t < 4294967296) : Calls Try.prog 6 #[.slice a l.length cap, .int .i64 id, .int .u32 t] w (Woke w) := by
  have HR := Lib.hid hr
  unfold maxLen at hm
  clear hr
  have KN := Lib.hid (fun W (hb : Below w.heap.size w W) => has_new (w0 := w) 1024 hb (by omega) (by omega))
  go_enter Try.func6, Try.ntmps6
  go_wp2_with (fail)
  refine (awake _).mono ?_
  rintro e w1 ⟨rfl, hb1⟩
  have B1 := Lib.hid hb1
  clear hb1
  by_cases h3 : 200 < l.length
  · have t1 : decide ((200 : Int) < (l.length : Int)) = true := by simp; omega
    go_wp2_with (fail)
    refine (awake _).mono ?_
    rintro e w2 ⟨rfl, hb2⟩
    go_wp2
    go_ret
    exact ⟨rfl, B1.out.trans (hb2.mono B1.out.size)⟩
  · have t1 : decide ((200 : Int) < (l.length : Int)) = false := by simp; omega
    go_wp2_with (fail)
    refine (KN.out _ B1.out).mono ?_
    rintro e w2 ⟨rfl, h2, hb2⟩
    have H2 := Lib.hid h2
    clear h2 hb2
    generalize w1.heap.size = pa at H2 ⊢
    go_wp2_with (fail)
    refine (KN.out _ H2.out.below).mono ?_
    rintro e w3 ⟨rfl, h3b, hb3⟩
    have HT : Hid (Two w (fun k => k = pa) pa 0 [] (fun k => k = w2.heap.size) w2.heap.size 0 [] w3) := ⟨H2.out.more hb3, h3b, fun k h1 h2 => by have := H2.out.whl.lt; subst h1; omega⟩
    clear h3b hb3 H2
    generalize w2.heap.size = pb at HT ⊢
    go_wp2
    go_loopw [11] (fun i W => PushRel w pa pb l.length id i W) (fun i _ => l.length - (intOf i).toNat)
    case atStart => exact ⟨0, _, _, [], by omega, by simp, rfl, HT.out⟩
    case round =>
      obtain ⟨k, Sa, Sb, m, hk, hmk, rfl, hh⟩ := hrel
      have H3 := Lib.hid hh
      clear hh HT
      by_cases hlt : k < l.length
      · have t4 : decide ((k : Int) < (l.length : Int)) = true := by simp; omega
        have hx : l[k]? = some l[k] := List.getElem?_eq_getElem hlt
        obtain ⟨b, off, rfl, hbl, x0, x1⟩ := (HR.out.below (Nat.le_refl _) H3.out.a.below).cells hx
        have KP := Lib.hid (has_add_any l[k] (by omega) H3.out.a)
        have hml := length_addS 0 m l[k]
        have HK := Lib.hid (HR.out)
        have HX := Lib.hid hx
        clear hx
        generalize l[k] = x at x0 x1 KP hml HX
        obtain ⟨y0, y1⟩ := x
        have HSW := Lib.hid (fun h : idK (y0, y1) ≠ id => addS_wo (now := 0) (d := (y0, y1)) (id := id) H3.out.a.whl.good.srt h)
        have HSS := Lib.hid (fun h : idK (y0, y1) = id => addS_wo_same (now := 0) (m := m) (d := (y0, y1)) (id := id) h)
        generalize addS 0 m (y0, y1) = m2 at KP hml HSW HSS
        generalize addV 0 m (y0, y1) = v at KP
        simp only [aggQ] at x0 x1 KP
        go_wp2_with (fail)
        with_reducible refine KP.out.mono ?_
        rintro e w4 ⟨rfl, ⟨S4, h4, hS4⟩, ht4⟩
        have H4 := Lib.hid (H3.out.next h4 hS4 ht4)
        clear h4 hS4 ht4 x0 x1
        obtain ⟨b', off', e', hbl', x0, x1⟩ := (HK.out.below (Nat.le_refl _) H4.out.a.below).cells HX.out
        cases e'
        simp only at x0 x1
        by_cases hid : y1 = id
        · have t5 : (y1 != id) = false := by simp [hid]
          have HE := Lib.hid (HSS.out hid)
          clear hid
          go_wp2
          go_roundw
          case rel => exact ⟨k + 1, S4, Sb, m2, by omega, by omega, by go_num, by rw [HE.out]; exact H4.out⟩
          case measure => simp [intOf]; omega
        · have t5 : (y1 != id) = true := by simp [hid]
          have HE := Lib.hid (HSW.out hid)
          have hwl := (wo_sub m id).length_le
          have KP2 := Lib.hid (has_add_any (y0, y1) (by omega) H4.out.b)
          rw [HE.out] at KP2
          generalize addV 0 (wo m id) (y0, y1) = v2 at KP2
          simp only [aggQ] at KP2
          clear hid
          go_wp2_with (fail)
          with_reducible refine KP2.out.mono ?_
          rintro e w5 ⟨rfl, ⟨S5, h5, hS5⟩, ht5⟩
          have H5 := Lib.hid (H4.out.flip.next h5 hS5 ht5).flip
          clear h5 hS5 ht5 x0 x1
          go_wp2
          go_roundw
          case rel => exact ⟨k + 1, S4, S5, m2, by omega, by omega, by go_num, H5.out⟩
          case measure => simp [intOf]; omega
      · have t4 : decide ((k : Int) < (l.length : Int)) = false := by simp; omega
        have t4' : decide (k < l.length) = false := by simp; omega
        obtain ⟨q, hq⟩ : ∃ q, q = (due (wo m id) t).length := ⟨_, rfl⟩
        obtain ⟨r, hrr⟩ : ∃ r, r = (stay (wo m id) t).length := ⟨_, rfl⟩
        obtain ⟨N, hN⟩ : ∃ N, N = m.length := ⟨_, rfl⟩
        have hqr := due_stay_len (wo m id) t
        have hfin : (id ∈ m.map idK ∧ r + q + 1 = N) ∨ (id ∉ m.map idK ∧ r + q = N) := by
          by_cases hid : id ∈ m.map idK
          · have := wo_len H3.out.a.whl.good.ids hid
            exact .inl ⟨hid, by omega⟩
          · have e := wo_none (ids_none.2 hid)
            refine .inr ⟨hid, ?_⟩
            rw [e] at hqr hq hrr
            omega
        have hNk : N ≤ 200 := by omega
        have HQ := Lib.hid hq.symm
        have HRR := Lib.hid hrr.symm
        have KL := lenOf H3.out.a.whl
        rw [← hN] at KL
        have HKL := Lib.hid KL
        have KC := Lib.hid (has_cancel_any id H3.out.a)
        have hrq : r + q ≤ 200 := by rcases hfin with h | h <;> omega
        have hbool : ((decide (id ∈ m.map idK)) == decide ((r : Int) + (q : Int) < (N : Int))) = true := by
          rcases hfin with ⟨h1, h2⟩ | ⟨h1, h2⟩
          · rw [decide_eq_true h1, decide_eq_true (show (r : Int) + (q : Int) < (N : Int) by omega)]; rfl
          · rw [decide_eq_false h1, decide_eq_false (show ¬ (r : Int) + (q : Int) < (N : Int) by omega)]; rfl
        generalize decide (id ∈ m.map idK) = bb at KC hbool
        have HBO := Lib.hid hbool
        clear hq hrr hN hqr hfin KL hbool
        go_wp2_with (fail)
        with_reducible refine HKL.out.mono ?_
        rintro e w4 ⟨rfl, rfl⟩
        go_wp2_with (fail)
        with_reducible refine KC.out.mono ?_
        rintro e w5 ⟨rfl, ⟨S5, h5, hS5⟩, ht5⟩
        have H5 := Lib.hid (H3.out.next h5 hS5 ht5)
        clear h5 hS5 ht5
        have KA := Lib.hid (has_adv q t HQ.out ht1 (by omega) H5.out.a)
        go_wp2_with (fail)
        with_reducible refine KA.out.mono ?_
        rintro e w6 ⟨A6, c6, rfl, h6, ht6, hc6, hk6, hf6, -⟩
        have H6 := Lib.hid (H5.out.next h6 (fun _ hk => .inl hk) ht6)
        have HK6 := Lib.hid hk6
        have HF6 := Lib.hid (show ∀ x, A6 = some x → ¬ Sb x.block from fun x hx hs => by
          have h1 := hf6 x hx
          have h2 := (H5.out.b.inS _ hs).2
          omega)
        clear h6 ht6 hk6 hf6
        have KB := Lib.hid (has_adv q t HQ.out ht1 (by omega) H6.out.b)
        go_wp2_with (fail)
        with_reducible refine KB.out.mono ?_
        rintro e w7 ⟨A7, c7, rfl, h7, ht7, hc7, hk7, hf7, -⟩
        have H7 := Lib.hid (H6.out.flip.next h7 (fun _ hk => .inl hk) ht7).flip
        have HK6' := Lib.hid (HK6.out.turns ht7 HF6.out)
        have SM := refSame (due (wo m id) t) A6 A7 c6 c7 (by rw [HQ.out]; omega) HK6'.out hk7
        rw [HQ.out] at SM
        have HSM := Lib.hid SM
        clear h7 ht7 hk7 hf7 SM
        go_wp2_with (fail)
        with_reducible refine HSM.out.mono ?_
        rintro e w8 ⟨rfl, d, rfl⟩
        have KLA := lenOf (H7.out.drewN d).a.whl
        have KLB := lenOf (H7.out.drewN d).b.whl
        rw [HRR.out] at KLA KLB
        have HLA := Lib.hid KLA
        have HLB := Lib.hid KLB
        clear KLA KLB
        go_wp2_with (fail)
        with_reducible refine HLA.out.mono ?_
        rintro e w9 ⟨rfl, rfl⟩
        go_wp2_with (fail)
        with_reducible refine HLB.out.mono ?_
        rintro e w9 ⟨rfl, rfl⟩
        go_wp2_with (fail)
        with_reducible refine HLA.out.mono ?_
        rintro e w9 ⟨rfl, rfl⟩
        have hbo := HBO.out
        go_wp2
        go_ret
        exact ⟨by first | rfl | (rw [hbo]; rfl) | simp [hbo], H7.out.a.below |> fun h => below_drewN h d⟩
end Go.Proofs.Ytngoclkhhfcjjaa.Cancels
