/- The walk of the statement on time in steps. -/
import Derived.Test.YtngoclkhhfcjjaaSt
import Derived.Test.YtngoclkhhfcjjaaOp
namespace Go.Proofs.Ytngoclkhhfcjjaa.InSteps
open Go.RowKit

def PushRel (w : World) (pa pb N : Nat) (i : Value) (W : World) : Prop := ∃ (k : Nat) (X : World) (Sa Sb : Nat → Prop) (m : List Ky), k ≤ N ∧ m.length ≤ k ∧ i = .int .i64 (k : Int) ∧ X = W ∧ Two w Sa pa 0 m Sb pb 0 m X
/-- So far the time went to u, or no step was made. -/
def StepRel (w : World) (Sa : Nat → Prop) (pa : Nat) (Sb : Nat → Prop) (pb N : Nat) (m : List Ky) (o t i : Value) (W : World) : Prop :=
  ∃ (k : Nat) (X : World) (tt u : Int) (A : Option Addr) (n c : Nat), k ≤ N ∧ i = .int .i64 (k : Int) ∧ t = .int .i64 tt ∧ o = .slice A n c ∧ X = W ∧ 0 ≤ tt ∧ tt ≤ 65536 * (k : Int) ∧ u ≤ tt ∧ (0 < k → u = tt) ∧ n ≤ 200 ∧ Trio w Sa pa tt (stay m u) Sb pb 0 m A n c (due m u) X

set_option maxRecDepth 100000 in
set_option maxHeartbeats 4000000 in
theorem core (l : List Ky) (a : Option Addr) (cap : Nat) (s : List Int) (a2 : Option Addr) (cap2 : Nat) (w : World) (hm : l.length ≤ maxLen) (hr : Keys w a cap l) (hm2 : s.length ≤ maxLen) (hr2 : Steps w a2 cap2 s) :
    Calls Try.prog 4 #[.slice a l.length cap, .slice a2 s.length cap2] w (Woke w) := by
  have HR := Lib.hid hr
  have HR2 := Lib.hid hr2
  unfold maxLen at hm hm2
  clear hr hr2
  have KN := Lib.hid (fun W (hb : Below w.heap.size w W) => has_new (w0 := w) 1024 hb (by omega) (by omega))
  go_enter Try.func4, Try.ntmps4
  go_wp2_with (fail)
  refine (awake _).mono ?_
  rintro e w1 ⟨rfl, hb1⟩
  have B1 := Lib.hid hb1
  clear hb1
  by_cases hno : 200 < l.length ∨ 100 < s.length ∨ s.length = 0
  · have hthree : (decide ((200 : Int) < (l.length : Int)) = true) ∨ (decide ((200 : Int) < (l.length : Int)) = false ∧ decide ((100 : Int) < (s.length : Int)) = true) ∨ (decide ((200 : Int) < (l.length : Int)) = false ∧ decide ((100 : Int) < (s.length : Int)) = false ∧ ((s.length : Int) == 0) = true) := by
      by_cases h1 : 200 < l.length
      · exact .inl (decide_eq_true (by omega))
      · by_cases h2 : 100 < s.length
        · exact .inr (.inl ⟨decide_eq_false (by omega), decide_eq_true (by omega)⟩)
        · exact .inr (.inr ⟨decide_eq_false (by omega), decide_eq_false (by omega), by rw [beq_iff_eq]; omega⟩)
    clear hno
    rcases hthree with t1 | ⟨t1, t2⟩ | ⟨t1, t2, t3⟩
    all_goals
      go_wp2_with (fail)
      refine (awake _).mono ?_
      rintro e w2 ⟨rfl, hb2⟩
      go_wp2
      go_ret
      exact ⟨rfl, B1.out.trans (hb2.mono B1.out.size)⟩
  · have t1 : decide ((200 : Int) < (l.length : Int)) = false := decide_eq_false (by omega)
    have t2 : decide ((100 : Int) < (s.length : Int)) = false := decide_eq_false (by omega)
    have t3 : ((s.length : Int) == 0) = false := by rw [beq_eq_false_iff_ne]; omega
    have hl2 : l.length ≤ 200 := by omega
    have hs2 : s.length ≤ 100 := by omega
    have hs0 : 0 < s.length := by omega
    clear hno
    go_wp2_with (fail)
    refine (KN.out _ B1.out).mono ?_
    rintro e w2 ⟨rfl, h2, hb2⟩
    have H2 := Lib.hid h2
    clear h2 hb2
    generalize w1.heap.size = pa at H2 ⊢
    go_wp2_with (fail)
    refine (KN.out _ H2.out.below).mono ?_
    rintro e w3 ⟨rfl, h3b, hb3⟩
    have HT : Hid (Two w (fun k => k = pa) pa 0 [] (fun k => k = w2.heap.size) w2.heap.size 0 [] w3) := ⟨H2.out.more hb3, h3b, fun k h1 h2 => by have := H2.out.whl.lt; subst h1; omega⟩
    clear h3b hb3 H2
    generalize w2.heap.size = pb at HT ⊢
    go_wp2
    clear t1 t2 t3
    go_loopw [9] (fun i W => PushRel w pa pb l.length i W) (fun i _ => l.length - (intOf i).toNat)
    case atStart => exact ⟨0, _, _, _, [], by omega, by simp, rfl, rfl, HT.out⟩
    case round =>
      obtain ⟨k, X, Sa, Sb, m, hk, hmk, rfl, rfl, hh⟩ := hrel
      have H3 := Lib.hid hh
      clear hh HT
      by_cases hlt : k < l.length
      · have t4 : decide ((k : Int) < (l.length : Int)) = true := by simp; omega
        have hx : l[k]? = some l[k] := List.getElem?_eq_getElem hlt
        obtain ⟨b, off, rfl, hbl, x0, x1⟩ := (HR.out.below (Nat.le_refl _) H3.out.a.below).cells hx
        have HC : Hid (∀ W, Below w.heap.size w W → W.cell? ⟨b, off + k * 2, none⟩ = some (.int .i64 (l[k]).1) ∧ W.cell? ⟨b, off + k * 2 + 1, none⟩ = some (.int .i64 (l[k]).2)) := fun W hW => by
          obtain ⟨b', off', e', _, y0, y1⟩ := (HR.out.below (Nat.le_refl _) hW).cells hx
          cases e'
          exact ⟨y0, y1⟩
        have KA := Lib.hid (has_add_any l[k] (by omega) (H3.out.drewN 1).a)
        have KB : Hid (∀ W Sx, Two w Sx pa 0 (addS 0 m l[k]) Sb pb 0 m W → Calls Try.prog 11 #[.pointer (some ⟨pb, 0, none⟩), aggQ l[k]] W (Then (.int .i64 (addV 0 m l[k])) w Sb pb 1024 0 (addS 0 m l[k]) W)) := fun W Sx h => has_add_any l[k] (by omega) h.b
        have hml := length_addS 0 m l[k]
        clear hx
        generalize l[k] = x at x0 x1 KA KB hml HC
        obtain ⟨y0, y1⟩ := x
        generalize addS 0 m (y0, y1) = m2 at KA KB hml
        generalize addV 0 m (y0, y1) = v at KA KB
        simp only [aggQ] at x0 x1 KA KB HC
        have i1 : (0 : Int) ≤ (k : Int) := by omega
        have i2 : (k : Int) < (l.length : Int) := by omega
        go_wp2_with (fail)
        go_region_held3 (fun W => W.cell? ⟨b, off + k * 2, none⟩ = some (.int .i64 y0) ∧ W.cell? ⟨b, off + k * 2 + 1, none⟩ = some (.int .i64 y1)) (first | go_keep | exact HC.out _ H5.out.a.below | exact HC.out _ H4.out.a.below)
          (first
            | (go_at_call 11; refine (KB.out _ _ H4.out).mono ?_; rintro e w5 ⟨rfl, ⟨S5, h5, hS5⟩, ht5⟩; have H5 := Lib.hid (H4.out.flip.next h5 hS5 ht5).flip; clear h5 hS5 ht5)
            | (go_at_call 11; refine (KA.out).mono ?_; rintro e w4 ⟨rfl, ⟨S4, h4, hS4⟩, ht4⟩; have H4 := Lib.hid ((H3.out.drewN 1).next h4 hS4 ht4); clear h4 hS4 ht4))
        go_wp2
        go_roundw
        case rel => exact ⟨k + 1, _, S4, S5, m2, by omega, by omega, by go_num, rfl, H5.out⟩
        case measure => simp [intOf]; omega
      · have t4 : decide ((k : Int) < (l.length : Int)) = false := by simp; omega
        have t4' : decide (k < l.length) = false := by simp; omega
        have HSR := Lib.hid H3.out.a.whl.good.srt
        have hm200 : m.length ≤ 200 := by omega
        have HNN : Hid (∀ d ∈ m, (-1 : Int) < d.1) := fun d hd => by have := (H3.out.a.whl.times d hd).1; omega
        have HU := Lib.hid (due_none HNN.out)
        have HT0 : Hid (Trio w Sa pa 0 (stay m (-1)) Sb pb 0 m none 0 0 (due m (-1)) X) := by
          rw [HU.out.1, HU.out.2]
          exact Lib.hid ⟨H3.out, World.ownsRow_nil _ _ _ _, (fun q hq => by cases hq)⟩
        go_wp2
        clear H3
        go_loopw [10, 11, 12] (fun o t i W => StepRel w Sa pa Sb pb s.length m o t i W) (fun _ _ i _ => s.length - (intOf i).toNat)
        case atStart => exact ⟨0, _, 0, -1, none, 0, 0, by omega, rfl, rfl, rfl, rfl, by omega, by omega, by omega, (fun h => by omega), by omega, HT0.out⟩
        case round =>
          obtain ⟨j, Y, tt, u, A, n, c, hj, rfl, rfl, rfl, rfl, ht0, ht1, hut, hu, hn, htrio⟩ := hrel
          have H4 := Lib.hid htrio
          have HUU := Lib.hid hu
          clear htrio HT0 hu
          by_cases hjs : j < s.length
          · have t5 : decide ((j : Int) < (s.length : Int)) = true := by simp; omega
            have hx : s[j]? = some s[j] := List.getElem?_eq_getElem hjs
            obtain ⟨b, off, rfl, hbl, x0, xl, xh⟩ := (HR2.out.below (Nat.le_refl _) H4.out.two.a.below).at_ hx
            clear hx
            generalize s[j] = z at x0 xl xh
            obtain ⟨v, hv⟩ : ∃ v, v = tt + z := ⟨_, rfl⟩
            have hv1 : tt ≤ v := by omega
            have hv2 : v ≤ 65536 * ((j : Int) + 1) := by omega
            have hv3 : v ≤ 6553600 := by omega
            obtain ⟨q, hq⟩ : ∃ q, q = (due (stay m u) v).length := ⟨_, rfl⟩
            obtain ⟨hd1, hd2⟩ := due_steps (t := u) (t' := v) (by omega) HSR.out
            have hnq : n + q ≤ 200 := by
              have e1 := H4.out.len
              have e2 := congrArg List.length hd1
              have e3 := (due_sub m v).length_le
              rw [List.length_append, ← hq, e1] at e2
              omega
            have HD1 := Lib.hid hd1
            have HD2 := Lib.hid hd2
            have HV := Lib.hid hv.symm
            have HQ := Lib.hid hq.symm
            have KA := Lib.hid (has_adv q v HQ.out hv1 (by omega) H4.out.two.a)
            clear hd1 hd2 hv hq
            go_wp2_with (fail)
            rw [HV.out]
            with_reducible refine KA.out.mono ?_
            rintro e w6 ⟨A6, c6, rfl, h6, ht6, hc6, hk6, hf6, -⟩
            have H6 := Lib.hid (H4.out.advA h6 ht6)
            obtain ⟨A7, c7, w7, hrun, h7⟩ := H6.out.append q HQ.out hk6 (by omega)
            rw [HD1.out, HD2.out] at h7
            have HRN := Lib.hid hrun
            have H7 := Lib.hid h7
            clear h6 ht6 hk6 hf6 hrun h7 x0
            go_wp2_with (
              at_builtin
              refine Lib.wpList_append_run w6 rfl (.tmp 97) (.tmp 98) 28 28 rfl _ _ rfl rfl _ _ HRN.out ?_)
            go_roundw
            case rel => exact ⟨j + 1, _, v, v, A7, n + q, c7, by omega, by go_num, rfl, rfl, rfl, by omega, by omega, by omega, (fun _ => rfl), by omega, H7.out⟩
            case measure => simp [intOf]; omega
          · have t5 : decide ((j : Int) < (s.length : Int)) = false := by simp; omega
            have t5' : decide (j < s.length) = false := by simp; omega
            have hut2 : u = tt := HUU.out (by omega)
            subst hut2
            clear HUU
            have HLEN := Lib.hid H4.out.len
            obtain ⟨r, hrr⟩ : ∃ r, r = (stay m u).length := ⟨_, rfl⟩
            have HRR := Lib.hid hrr.symm
            clear hrr
            have KB := Lib.hid (has_adv n u HLEN.out ht0 (by omega) H4.out.two.b)
            go_wp2_with (fail)
            with_reducible refine KB.out.mono ?_
            rintro e w6 ⟨A6, c6, rfl, h6, ht6, hc6, hk6, hf6, -⟩
            have HFAR := Lib.hid H4.out.far
            have HKO := Lib.hid (H4.out.keys.turns ht6 (fun x hx => (HFAR.out x.block (by rw [hx]; rfl)).2))
            have H6 := Lib.hid (H4.out.two.flip.next h6 (fun _ hk => .inl hk) ht6).flip
            have SM := refSame (due m u) A A6 c c6 (by rw [HLEN.out]; omega) HKO.out hk6
            rw [HLEN.out] at SM
            have HSM := Lib.hid SM
            clear h6 ht6 hk6 hf6 SM
            go_wp2_with (fail)
            with_reducible refine HSM.out.mono ?_
            rintro e w8 ⟨rfl, d, rfl⟩
            have KLA := lenOf (H6.out.drewN d).a.whl
            have KLB := lenOf (H6.out.drewN d).b.whl
            rw [HRR.out] at KLA KLB
            have HLA := Lib.hid KLA
            have HLB := Lib.hid KLB
            have HNA := Lib.hid (nowOf (H6.out.drewN d).a.whl)
            have HNB := Lib.hid (nowOf (H6.out.drewN d).b.whl)
            clear KLA KLB
            go_wp2_with (fail)
            with_reducible refine HLA.out.mono ?_
            rintro e w9 ⟨rfl, rfl⟩
            go_wp2_with (fail)
            with_reducible refine HLB.out.mono ?_
            rintro e w9 ⟨rfl, rfl⟩
            go_wp2_with (fail)
            with_reducible refine HNA.out.mono ?_
            rintro e w9 ⟨rfl, rfl⟩
            go_wp2_with (fail)
            with_reducible refine HNB.out.mono ?_
            rintro e w9 ⟨rfl, rfl⟩
            go_wp2
            go_ret
            exact ⟨rfl, below_drewN H6.out.a.below d⟩
end Go.Proofs.Ytngoclkhhfcjjaa.InSteps
