/- The walk of the statement on all sets. -/
import Derived.Test.YtklnokhabomnfaaAw
import Derived.Test.YtklnokhabomnfaaVx
import Derived.Test.YtklnokhabomnfaaRx
import Derived.Deep.RegionHeld3
import Derived.Deep.DeepCutAuto
namespace Go.Proofs.Ytklnokhabomnfaa
open Go.RowKit

/-- The task at place m is the last by priority of the first k. -/
def Least (l : List Tk) (k m : Nat) : Prop := ∀ (j : Nat) (o t : Tk), j < k → l[j]? = some o → l[m]? = some t → o.Prio ≤ t.Prio
theorem max_new {l : List Tk} {k m : Nat} {t o : Tk} (h : Least l k m) (ht : l[m]? = some t) (ho : l[k]? = some o) (hp : t.Prio < o.Prio) : Least l (k + 1) k := fun j x y hj hx hy => by
  rw [ho] at hy; cases hy
  by_cases e : j = k
  · subst e; rw [ho] at hx; cases hx; omega
  · have := h j x t (by omega) hx ht; omega
theorem max_old {l : List Tk} {k m : Nat} {t o : Tk} (h : Least l k m) (ht : l[m]? = some t) (ho : l[k]? = some o) (hp : ¬ t.Prio < o.Prio) : Least l (k + 1) m := fun j x y hj hx hy => by
  rw [ht] at hy; cases hy
  by_cases e : j = k
  · subst e; rw [ho] at hx; cases hx; omega
  · exact h j x t (by omega) hx ht
def AllRel (l : List Tk) (n : Nat) (X : World) (s i : Value) (W : World) : Prop := ∃ k m q : Nat, k ≤ n ∧ m < n ∧ s = .int .i64 (m : Int) ∧ i = .int .i64 (k : Int) ∧ Least l k m ∧ W = X.drewN q
def OutRel (n m : Nat) (X : World) (s i : Value) (W : World) : Prop := ∃ k j q : Nat, k ≤ n ∧ (k ≤ m → j = k) ∧ (m < k → j + 1 = k) ∧ s = .int .i64 (j : Int) ∧ i = .int .i64 (k : Int) ∧ W = X.drewN q
set_option maxRecDepth 100000 in
set_option maxHeartbeats 16000000 in
theorem coreAll (b : Int) (l : List Tk) (a : Option Addr) (cap : Nat) (g mv : Int) (g0 : 0 ≤ g) (g1 : g ≤ 4294967295) (mv0 : 0 ≤ mv) {w : World} (hm : l.length ≤ maxLen) (ht : Tasks w a cap l) :
    Calls Try.prog 4 #[.agg #[.int .i64 b, .slice a l.length cap], .int .u32 g, .int .u32 mv] w (Woke w) := by
  have KA := Lib.hid (fun W => awake W)
  have HT := Lib.hid ht
  have HB0 := Lib.hid (SetBox.made w b a l.length cap)
  clear ht
  go_enter Try.func4, Try.ntmps4
  go_wp2_with (fail)
  with_reducible refine (KA.out _).mono ?_
  rintro e w1 ⟨rfl, hb1⟩
  have HB1 := Lib.hid (HB0.out.tells hb1)
  have KF := Lib.hid (small b l a cap hm (HT.out.below (Nat.le_refl _) HB1.out.below))
  clear hb1 HB0
  obtain ⟨s0, s1⟩ := HB1.out.cells
  go_wp2_with (fail)
  with_reducible refine KF.out.mono ?_
  rintro e w2 ⟨r, rfl, hb2, hf⟩
  have HB2 := Lib.hid (HB1.out.tells hb2)
  have KR := Lib.hid (refRight b l a cap hm (HT.out.below (Nat.le_refl _) HB2.out.below))
  clear hb2 s0 s1 HB1 KF
  obtain ⟨s0, s1⟩ := HB2.out.cells
  cases r
  · clear hf
    go_wp2_with (fail)
    with_reducible refine (KA.out _).mono ?_
    rintro e w9 ⟨rfl, hb9⟩
    have HB9 := Lib.hid (HB2.out.tells hb9)
    clear hb9
    go_wp2
    go_ret
    exact ⟨rfl, HB9.out.below⟩
  · have HF := Lib.hid (hf rfl)
    clear hf
    have hG : ((whyF b l).1 == 0) = true → (whyF b l).1 = 0 := fun h => eq_of_beq h
    generalize ((whyF b l).1 == 0) = rr at KR hG
    go_wp2_with (fail)
    with_reducible refine KR.out.mono ?_
    rintro e w3 ⟨rfl, hb3⟩
    have HB3 := Lib.hid (HB2.out.tells hb3)
    clear hb3 s0 s1 HB2 KR
    obtain ⟨s0, s1⟩ := HB3.out.cells
    cases rr
    · clear hG
      go_wp2_with (fail)
      with_reducible refine (KA.out _).mono ?_
      rintro e w9 ⟨rfl, hb9⟩
      have HB9 := Lib.hid (HB3.out.tells hb9)
      clear hb9
      go_wp2
      go_ret
      exact ⟨rfl, HB9.out.below⟩
    · have HRR := Lib.hid (hG rfl)
      have HG := Lib.hid (good_of HRR.out)
      clear hG
      obtain ⟨gp0, gp1⟩ := gap_of g
      have KG := Lib.hid (gap g0 g1 w3)
      generalize 1 + g % 1049576 = gp at gp0 gp1 KG
      have hn1 := HG.out.n1
      have hn0 := HG.out.n0
      clear KA g0 g1 HF
      have HTX := Lib.hid (HT.out.below (Nat.le_refl _) HB3.out.below)
      obtain ⟨bb, off, rfl, hbl, hcells⟩ := HTX.out.form (by omega)
      clear hcells hbl HTX
      have hle := HT.out.le
      obtain ⟨n, hn⟩ : ∃ n, n = l.length := ⟨_, rfl⟩
      rw [← hn] at hn0 hn1 HB3 s1 hle ⊢
      have HN := Lib.hid hn
      clear hn
      obtain ⟨x, hx⟩ : ∃ x, x = mv % 1000 := ⟨_, rfl⟩
      have x0 : 0 ≤ x := by rw [hx]; exact Int.emod_nonneg _ (by omega)
      have x1 : x < 1000 := by rw [hx]; exact Int.emod_lt_of_pos _ (by omega)
      have tx : mv.tmod 1000 = x := by rw [hx, Int.tmod_eq_emod_of_nonneg mv0]
      clear hx mv0
      have ux : IntKind.u32.wrap x = x := IntWalk.u32_in _ ⟨by omega, by omega⟩
      have vx : IntKind.i64.wrap x = x := IntWalk.i64_in _ ⟨by omega, by omega⟩
      have wx : IntKind.i64.wrap (gp + x) = gp + x := IntWalk.i64_in _ ⟨by omega, by omega⟩
      go_wp2_with (fail)
      with_reducible refine KG.out.mono ?_
      rintro e u ⟨rfl, rfl⟩
      clear KG
      obtain ⟨c, hc⟩ : ∃ c, c = if 1049576 < gp + x then (1049576 : Int) else gp + x := ⟨_, rfl⟩
      have c0 : gp ≤ c := by rw [hc]; split <;> omega
      have c1 : c ≤ 1049576 := by rw [hc]; split <;> omega
      go_upto_if 40 with fail
      go_cut [8] (fun s wx => s = .int .i64 c ∧ w3 = wx)
      case first =>
        by_cases h : 1049576 < gp + x
        · have d : decide (1049576 < gp + x) = true := decide_eq_true h
          rw [if_pos h] at hc
          subst hc
          go_wp2
          go_meet
          exact ⟨rfl, rfl⟩
        · have d : decide (1049576 < gp + x) = false := decide_eq_false h
          rw [if_neg h] at hc
          subst hc
          go_wp2
          go_meet
          exact ⟨rfl, rfl⟩
      obtain ⟨rfl, rfl⟩ := hcut
      clear hc tx ux vx wx x0 x1
      have KJ := Lib.hid (judge_n (n := n) HN.out.symm HRR.out (HT.out.below (Nat.le_refl _) HB3.out.below) gp0 gp1)
      go_wp2_with (fail)
      with_reducible refine KJ.out.mono ?_
      rintro e w4 ⟨ok, late, R, t, rfl, hv, hr, htt, hb⟩
      clear KJ
      go_upto_region 8 with fail
      obtain ⟨X5, hX⟩ : ∃ X, X = w4.alloc (.cells #[.bool ok, .int .i64 late, .slice (some ⟨t, 0, none⟩) n n] 29) := ⟨_, rfl⟩
      rw [← hX]
      have HB5 : Hid (SetBox w b (some ⟨bb, off, none⟩) n cap X5) := Lib.hid (by rw [hX]; exact (HB3.out.tells hb).tells (below_new _ _))
      have HV5 : Hid (Lies X5 w4.heap.size 29 #[.bool ok, .int .i64 late, .slice (some ⟨t, 0, none⟩) n n]) := Lib.hid (by rw [hX]; exact Lies.made _ _ _)
      have HR5 : Hid (Row X5 t R) := Lib.hid (by rw [hX]; exact hr.tells (below_new _ _))
      have HD := Lib.hid hv
      have HLR : Hid (R.length = n) := Lib.hid (by rw [HN.out]; exact hv.len)
      clear hX hv hr htt hb s0 s1 HB3
      generalize w4.heap.size = D at HV5 ⊢
      obtain ⟨s0, s1⟩ := HB5.out.cells
      have c0' : 1 ≤ c := by omega
      have KJ := Lib.hid (judge_n (n := n) HN.out.symm HRR.out (HT.out.below (Nat.le_refl _) HB5.out.below) c0' c1)
      go_wp2_with (fail)
      with_reducible refine KJ.out.mono ?_
      rintro e w6 ⟨ok2, late2, R2, t2, rfl, hv, hr, htt, hb⟩
      clear KJ
      go_upto_region 9 with fail
      obtain ⟨X7, hX⟩ : ∃ X, X = w6.alloc (.cells #[.bool ok2, .int .i64 late2, .slice (some ⟨t2, 0, none⟩) n n] 29) := ⟨_, rfl⟩
      rw [← hX]
      have hb7 : Below X5.heap.size X5 X7 := by rw [hX]; exact hb.alloc hb.size _
      have HB7 := Lib.hid (HB5.out.tells hb7)
      have HV7 := Lib.hid (HV5.out.below hb7 HV5.out.lt)
      have HR7 := Lib.hid (HR5.out.tells hb7)
      have HU7 : Hid (Lies X7 w6.heap.size 29 #[.bool ok2, .int .i64 late2, .slice (some ⟨t2, 0, none⟩) n n]) := Lib.hid (by rw [hX]; exact Lies.made _ _ _)
      have HQ7 : Hid (Row X7 t2 R2) := Lib.hid (by rw [hX]; exact hr.tells (below_new _ _))
      have HE := Lib.hid hv
      have HLQ : Hid (R2.length = n) := Lib.hid (by rw [HN.out]; exact hv.len)
      clear hX hv hr htt hb s0 s1 HB5 HV5 HR5 hb7
      generalize w6.heap.size = E at HU7 ⊢
      have HS7 := Lib.hid (HT.out.below (Nat.le_refl _) HB7.out.below)
      clear HT
      obtain ⟨s0, s1⟩ := HB7.out.cells
      obtain ⟨v0, v1, v2⟩ := vd_cells HV7.out
      obtain ⟨u0, u1, u2⟩ := vd_cells HU7.out
      cases ok
      · as_aux_lemma =>
          obtain ⟨m, o, rfl, -, -, -⟩ := HD.out.no
          have e1 : ((m : Int) == -1) = false := beq_eq_false_iff_ne.2 (by omega)
          have e2 : ((m : Int) != -1) = true := by simp
          clear c0 c1 c0'
          go_wp2
          go_loopw [13, 14] (fun s i W => AllRel l n X7 s i W) (fun _ i _ => n - (intOf i).toNat)
          case atStart => exact ⟨0, 0, 0, by omega, by omega, rfl, rfl, fun j _ _ hj => by omega, rfl⟩
          case round =>
            obtain ⟨k, m', q, hk, hm', rfl, rfl, hmax, rfl⟩ := hrel
            by_cases hlt : k < n
            · have d1 : decide ((k : Int) < (n : Int)) = true := by simp; omega
              have ho := List.getElem?_eq_getElem (show k < l.length by have := HN.out; omega)
              have ht := List.getElem?_eq_getElem (show m' < l.length by have := HN.out; omega)
              generalize l[k]'_ = o2 at ho
              generalize l[m']'_ = t3 at ht
              obtain ⟨b1, o1, e3, -, -, -, -, -, -, -, -, -, -, -, x10⟩ := HS7.out.cells ho
              cases e3
              obtain ⟨b1, o1, e3, -, -, -, -, -, -, -, -, -, -, -, y10⟩ := HS7.out.cells ht
              cases e3
              have HM := Lib.hid hmax
              have HO := Lib.hid ho
              have HTT := Lib.hid ht
              clear hmax ho ht
              have p0 : (0 : Int) ≤ (k : Int) := by omega
              have p1 : (k : Int) < (n : Int) := by omega
              have p2 : (0 : Int) ≤ (m' : Int) := by omega
              have p3 : (m' : Int) < (n : Int) := by omega
              by_cases hp : t3.Prio < o2.Prio
              · have d2 : decide (t3.Prio < o2.Prio) = true := decide_eq_true hp
                have HM2 := Lib.hid (max_new HM.out HTT.out HO.out hp)
                clear HM
                go_wp2
                go_quiet (fail)
                go_wp2
                go_quiet (fail)
                go_wp2
                go_roundw
                case rel => first | exact ⟨k + 1, k, _, by omega, by omega, rfl, by go_num, HM2.out, rfl⟩ | exact ⟨k + 1, k, _, by omega, by omega, rfl, by go_num, HM2.out, World.drewN_drewN _ _ _⟩ | exact ⟨k + 1, k, _, by omega, by omega, rfl, by go_num, HM2.out, by rw [World.drewN_drewN, World.drewN_drewN]⟩
                case measure => simp [intOf]; omega
              · have d2 : decide (t3.Prio < o2.Prio) = false := decide_eq_false hp
                have HM2 := Lib.hid (max_old HM.out HTT.out HO.out hp)
                clear HM
                go_wp2
                go_quiet (fail)
                go_wp2
                go_quiet (fail)
                go_wp2
                go_roundw
                case rel => first | exact ⟨k + 1, m', _, by omega, by omega, rfl, by go_num, HM2.out, rfl⟩ | exact ⟨k + 1, m', _, by omega, by omega, rfl, by go_num, HM2.out, World.drewN_drewN _ _ _⟩ | exact ⟨k + 1, m', _, by omega, by omega, rfl, by go_num, HM2.out, by rw [World.drewN_drewN, World.drewN_drewN]⟩
                case measure => simp [intOf]; omega
            · have d1 : decide ((k : Int) < (n : Int)) = false := by simp; omega
              have d1' : decide (k < n) = false := by simp; omega
              go_wp2
              go_ret
              exact ⟨rfl, below_drewN HB7.out.below q⟩
      · as_aux_lemma =>
          obtain rfl := HD.out.yes.1
          obtain ⟨hok2, hW⟩ := HD.out.wider HG.out gp0 c0 HE.out
          subst hok2
          have HW := Lib.hid hW
          clear hW HE c0 c1 c0'
          go_wp2
          go_loopw [13, 14] (fun s i W => AllRel l n X7 s i W) (fun _ i _ => n - (intOf i).toNat)
          case atStart => exact ⟨0, 0, 0, by omega, by omega, rfl, rfl, fun j _ _ hj => by omega, rfl⟩
          case round =>
            obtain ⟨k, m', q, hk, hm', rfl, rfl, hmax, rfl⟩ := hrel
            by_cases hlt : k < n
            · as_aux_lemma =>
              have d1 : decide ((k : Int) < (n : Int)) = true := by simp; omega
              have ho := List.getElem?_eq_getElem (show k < l.length by have := HN.out; omega)
              have ht := List.getElem?_eq_getElem (show m' < l.length by have := HN.out; omega)
              obtain ⟨r2, hr2⟩ : ∃ r2, R2[k]? = some r2 := ⟨_, List.getElem?_eq_getElem (by have := HLQ.out; omega)⟩
              obtain ⟨r, hr, hrle⟩ := HW.out k r2 hr2
              have htm := HD.out.times HG.out gp0 ho hr
              have cx := HR7.out.cell hr
              have cy := HQ7.out.cell hr2
              have d3 : decide (r < 1) = false := decide_eq_false (by omega)
              have d5 : decide (r < r2) = false := decide_eq_false (by omega)
              generalize l[k]'_ = o2 at ho htm
              generalize l[m']'_ = t3 at ht
              have d4 : decide (o2.D < r) = false := decide_eq_false (by omega)
              clear htm hrle hr hr2
              obtain ⟨b1, o1, e3, -, -, -, x2, -, -, -, -, -, -, -, x10⟩ := HS7.out.cells ho
              cases e3
              obtain ⟨b1, o1, e3, -, -, -, -, -, -, -, -, -, -, -, y10⟩ := HS7.out.cells ht
              cases e3
              have HM := Lib.hid hmax
              have HO := Lib.hid ho
              have HTT := Lib.hid ht
              clear hmax ho ht
              have p0 : (0 : Int) ≤ (k : Int) := by omega
              have p1 : (k : Int) < (n : Int) := by omega
              have p2 : (0 : Int) ≤ (m' : Int) := by omega
              have p3 : (m' : Int) < (n : Int) := by omega
              by_cases hp : t3.Prio < o2.Prio
              · have d2 : decide (t3.Prio < o2.Prio) = true := decide_eq_true hp
                have HM2 := Lib.hid (max_new HM.out HTT.out HO.out hp)
                clear HM
                go_wp2
                go_quiet (fail)
                go_wp2
                go_quiet (fail)
                go_wp2
                go_roundw
                case rel => first | exact ⟨k + 1, k, _, by omega, by omega, rfl, by go_num, HM2.out, rfl⟩ | exact ⟨k + 1, k, _, by omega, by omega, rfl, by go_num, HM2.out, World.drewN_drewN _ _ _⟩ | exact ⟨k + 1, k, _, by omega, by omega, rfl, by go_num, HM2.out, by rw [World.drewN_drewN, World.drewN_drewN]⟩
                case measure => simp [intOf]; omega
              · have d2 : decide (t3.Prio < o2.Prio) = false := decide_eq_false hp
                have HM2 := Lib.hid (max_old HM.out HTT.out HO.out hp)
                clear HM
                go_wp2
                go_quiet (fail)
                go_wp2
                go_quiet (fail)
                go_wp2
                go_roundw
                case rel => first | exact ⟨k + 1, m', _, by omega, by omega, rfl, by go_num, HM2.out, rfl⟩ | exact ⟨k + 1, m', _, by omega, by omega, rfl, by go_num, HM2.out, World.drewN_drewN _ _ _⟩ | exact ⟨k + 1, m', _, by omega, by omega, rfl, by go_num, HM2.out, by rw [World.drewN_drewN, World.drewN_drewN]⟩
                case measure => simp [intOf]; omega
            · as_aux_lemma =>
              have d1 : decide ((k : Int) < (n : Int)) = false := by simp; omega
              have d1' : decide (k < n) = false := by simp; omega
              by_cases h1 : n = 1
              · have e3 : ((n : Int) == 1) = true := beq_iff_eq.2 (by omega)
                have e4 : (n == 1) = true := beq_iff_eq.2 h1
                clear h1
                go_wp2
                go_ret
                exact ⟨rfl, below_drewN HB7.out.below q⟩
              · have e3 : ((n : Int) == 1) = false := beq_eq_false_iff_ne.2 (by omega)
                have e4 : (n == 1) = false := beq_eq_false_iff_ne.2 h1
                go_upto_region 21 with fail
                have hml : m' < l.length := by have := HN.out; omega
                obtain ⟨t3, ht⟩ : ∃ t3, l[m']? = some t3 := ⟨_, List.getElem?_eq_getElem hml⟩
                have HLAST : Hid (∀ o ∈ l, o.Prio ≤ t3.Prio) := Lib.hid (fun o ho => by
                  obtain ⟨j, hj, e⟩ := List.getElem_of_mem ho
                  exact hmax j o t3 (by have := HN.out; omega) (by rw [List.getElem?_eq_getElem hj, e]) ht)
                have HTM := Lib.hid ht
                obtain ⟨N, hN⟩ : ∃ N, N = n - 1 := ⟨_, rfl⟩
                obtain ⟨m1, hm1⟩ : ∃ m1, m1 = m' + 1 := ⟨_, rfl⟩
                have hwl : (without m' l).length = N := by rw [without_len hml]; have := HN.out; omega
                have HWL := Lib.hid hwl
                have HWR := Lib.hid (without_right HRR.out hml (by have := HN.out; omega))
                have hq := below_drewN (Below.refl X7.heap.size X7) q
                have HB8 := Lib.hid (HB7.out.tells hq)
                have HV8 := Lib.hid (HV7.out.below hq HV7.out.lt)
                have HR8 := Lib.hid (HR7.out.tells hq)
                have HS8 := Lib.hid (HS7.out.below (Nat.le_refl _) hq)
                clear hq hmax ht hwl HB7 HV7 HR7 HS7 HU7 HQ7 HW HLQ s0 s1 v0 v1 v2 u0 u1 u2 e3 e4 d1 d1' h1
                generalize X7.drewN q = X8 at HB8 HV8 HR8 HS8 ⊢
                have KJ : Hid (∀ (A : Option Addr) (c : Nat) (W : World), GrowsT X8 A N c (([] ++ l.take m') ++ l.drop m1) W → Calls Try.prog 13 #[.agg #[.int .i64 b, .slice A N c], .int .i64 gp] W (JudgedN b gp (without m' l) N W)) := Lib.hid (fun A c W hg => by
                  have ht := hg.tasks
                  rw [hm1] at ht
                  exact judge_n HWL.out HWR.out ht gp0 gp1)
                have HT1 := Lib.hid (HS8.out.take m')
                have HL1 : Hid ((l.take m').length = m') := Lib.hid (by rw [List.length_take]; omega)
                have HL2 : Hid ((l.drop m1).length = n - m1) := Lib.hid (by rw [List.length_drop, HN.out])
                obtain ⟨pA, hpA⟩ : ∃ pA : Option Addr, pA = (if cap = m1 then some ⟨bb, off, none⟩ else some ⟨bb, off + m1 * 11, none⟩) := ⟨_, rfl⟩
                have HT2 : Hid (Tasks X8 pA (cap - m1) (l.drop m1)) := Lib.hid (by rw [hpA]; exact HS8.out.rest (by omega))
                have hpS := hpA.symm
                have wm : IntKind.i64.wrap ((m' : Int) + 1) = (m1 : Int) := by rw [IntWalk.i64_in _ ⟨by omega, by omega⟩]; omega
                have q0 : (0 : Int) ≤ (m' : Int) := by omega
                have q1 : (m' : Int) ≤ (n : Int) := by omega
                have q2 : (m' : Int) ≤ (cap : Int) := by omega
                have q3 : m' ≤ n := by omega
                have q4 : m' ≤ cap := by omega
                have r0 : (0 : Int) ≤ (m1 : Int) := by omega
                have r1 : (m1 : Int) ≤ (n : Int) := by omega
                have r2 : (m1 : Int) ≤ (cap : Int) := by omega
                have r3 : m1 ≤ n := by omega
                have r4 : m1 ≤ cap := by omega
                have hNN : m' + (n - m1) = N := by omega
                have hN16 : N ≤ 16 := by omega
                clear hN hpA
                have hm1' := Lib.hid hm1
                clear hm1
                obtain ⟨y0, y1⟩ := HB8.out.cells
                have hwl : w.heap.size < X8.heap.size := HB8.out.lies.lt
                have KP : Hid (∀ w', Below X8.heap.size X8 w' → w'.cell? ⟨w.heap.size, 0, none⟩ = some (.int .i64 b) ∧ w'.cell? ⟨w.heap.size, 1, none⟩ = some (.slice (some ⟨bb, off, none⟩) n cap)) := Lib.hid (fun w' hw' => by
                  have h : ∀ c, c < X8.heap.size → ∀ k, w'.cell? ⟨c, k, none⟩ = X8.cell? ⟨c, k, none⟩ := fun c hc k => hw'.cell (p := ⟨c, k, none⟩) hc
                  exact ⟨(h _ hwl _).trans y0, (h _ hwl _).trans y1⟩)
                go_cut [15, 16] (fun s3 s4 wx => VdT X8 b gp (without m' l) N s3 s4 wx)
                case first => as_aux_lemma =>
                  go_region_held3 (fun w' => w'.cell? ⟨w.heap.size, 0, none⟩ = some (.int .i64 b) ∧ w'.cell? ⟨w.heap.size, 1, none⟩ = some (.slice (some ⟨bb, off, none⟩) n cap)) (first | (with_reducible exact KP.out _ (below_d0 _)) | (with_reducible exact KP.out _ (below_d1 _ _)) | (with_reducible exact KP.out _ (below_d2 _ _ _)) | (with_reducible exact KP.out _ (hp2.bel)) | (with_reducible exact KP.out _ ((hp2.grows.alloc _).bel)) | (with_reducible exact KP.out _ (hp3.bel)) | (with_reducible exact KP.out _ ((hp3.grows.alloc _).bel)) | (with_reducible exact KP.out _ HU.out) | (with_reducible exact KP.out _ (HU.out.alloc HU.out.size _)) | (with_reducible exact KP.out _ (early_below hge HU.out _ _ _)) | go_keep) (first | (refine step_append_old (by rfl) (.tmp 155) (.tmp 159) (by rfl) X8 _ 0 m' cap 0 m' [] (l.take m') (some ⟨bb, off, none⟩) (by rfl) (by rfl) (by first | (with_reducible exact GrowsT.drew (grows_n0 _)) | (with_reducible exact GrowsT.drew ((grows_n0 _).alloc _)) | (with_reducible exact GrowsT.drew (grows_n1 _ _))) HL1.out HT1.out (by omega) (by omega) ?_; intro A2 c2 w4 hp2) | (refine step_append_old (by rfl) (.tmp 160) (.tmp 165) (by rfl) X8 A2 m' (n - m1) (cap - m1) c2 N ([] ++ (l.take m')) (l.drop m1) pA (by rfl) (by rfl) (by first | (with_reducible exact hp2.grows) | (with_reducible exact hp2.grows.alloc _)) HL2.out HT2.out (by omega) (by omega) ?_; intro A3 c3 w5 hp3; first | (have hD : VarV X8 w5 (X8.heap.size) A3 := (by ((with_reducible refine PostT.varEV hp2 hp3 (Lies.drew ((lies_m0 _ 29 Zvd).alloc _)) (fun h => h) ?_ ?_); exact block_ne (by omega); omega)); have HDV := Lib.hid hD; clear hD) | (have hD : VarV X8 w5 (X8.heap.size + 1) A3 := (by ((with_reducible refine PostT.varEV hp2 hp3 (Lies.drew (lies_m1 _ _ 29 Zvd)) (fun h => h) ?_ ?_); exact block_ne (by omega); omega)); have HDV := Lib.hid hD; clear hD) | (have hD : VarV X8 w5 (w4.heap.size) A3 := (by ((with_reducible refine PostT.varBV hp2 hp3 (lies_m0 _ 29 Zvd) ?_); omega)); have HDV := Lib.hid hD; clear hD) | skip) | ((with_reducible refine (KJ.out _ _ _ (by first | (with_reducible exact hp3.grows) | (with_reducible exact hp3.grows.alloc _))).mono ?_); rintro en u ⟨ok3, late3, R3, t3, rfl, hv, hr, htt, hb⟩; have HV := Lib.hid hv; have HR := Lib.hid hr; first | (have HU := Lib.hid (hp3.bel.trans (hb.mono hp3.bel.size)); have ht0 := Nat.le_trans hp3.bel.size htt; first | (obtain ⟨hk1, hge, hne⟩ := VarV.kept HDV.out hb htt; have HL := Lib.hid hk1; clear hk1; have d0 : u.cell? ⟨_, 0, none⟩ = some (.bool false) := HL.out.cell 0; have d1 : u.cell? ⟨_, 1, none⟩ = some (.int .i64 0) := HL.out.cell 1; have d2 : u.cell? ⟨_, 2, none⟩ = some (.slice none 0 0) := HL.out.cell 2; have f0 := HL.out.thawed 0; have f1 := HL.out.thawed 1; have f2 := HL.out.thawed 2) | skip) | (have HU := Lib.hid ((hp3.grows.alloc _).bel.trans (hb.mono (hp3.grows.alloc _).bel.size)); have ht0 := Nat.le_trans (hp3.grows.alloc _).bel.size htt; (obtain ⟨hk1, hge, hne⟩ := var_new hp3.bel.size hb htt; have HL := Lib.hid hk1; clear hk1; have d0 : u.cell? ⟨_, 0, none⟩ = some (.bool false) := HL.out.cell 0; have d1 : u.cell? ⟨_, 1, none⟩ = some (.int .i64 0) := HL.out.cell 1; have d2 : u.cell? ⟨_, 2, none⟩ = some (.slice none 0 0) := HL.out.cell 2; have f0 := HL.out.thawed 0; have f1 := HL.out.thawed 1; have f2 := HL.out.thawed 2)); clear hv hr htt hb))
                  all_goals
                    go_wp2
                    go_meet
                    first | exact VdT.behind HV.out HR.out ht0 HU.out | exact VdT.early HV.out HR.out HL.out hge ht0 hne HU.out
                obtain ⟨D3, ok3, late3, R3, t5, rfl, rfl, hL, hr, hv, hD, htt, hne, hb⟩ := hcut
                obtain ⟨hok, hWO⟩ := HD.out.without (by have := HG.out.b0; omega) HG.out.b0 gp0 HTM.out HLAST.out hv
                subst hok
                have HWO := Lib.hid hWO
                have HLN : Hid (R3.length = N) := Lib.hid (by rw [← HWL.out]; exact hv.len)
                have HB9 := Lib.hid (HB8.out.tells hb)
                have HV9 := Lib.hid (HV8.out.below hb HV8.out.lt)
                have HR9 := Lib.hid (HR8.out.tells hb)
                have HX9 := Lib.hid hL
                have HQ9 := Lib.hid hr
                have hmn : N + 1 = n := by have := hm1'.out; omega
                clear hL hr hv hD htt hne hb hWO HD KJ KP HT1 HT2 HL1 HL2 HB8 HV8 HR8 HS8 HWR HTM HLAST hpS wm q0 q1 q2 q3 q4 r0 r1 r2 r3 r4 hNN y0 y1 hwl
                generalize wc = X9 at HB9 HV9 HR9 HX9 HQ9 ⊢
                obtain ⟨s0, s1⟩ := HB9.out.cells
                obtain ⟨v0, v1, v2⟩ := vd_cells HV9.out
                obtain ⟨x0, x1, x2⟩ := vd_cells HX9.out
                go_wp2
                go_loopw [17, 18] (fun s i W => OutRel n m' X9 s i W) (fun _ i _ => n - (intOf i).toNat)
                case atStart => exact ⟨0, 0, 0, by omega, fun _ => rfl, fun h => by omega, rfl, rfl, rfl⟩
                case round =>
                  obtain ⟨k2, j, q2, hk2, hj1, hj2, rfl, rfl, rfl⟩ := hrel
                  by_cases hlt2 : k2 < n
                  · have d1 : decide ((k2 : Int) < (n : Int)) = true := by simp; omega
                    by_cases hkm : k2 = m'
                    · as_aux_lemma =>
                      have e1 : ((k2 : Int) == (m' : Int)) = true := beq_iff_eq.2 (by omega)
                      have e2 : ((k2 : Int) != (m' : Int)) = false := by simp; omega
                      have e3 : (k2 == m') = true := beq_iff_eq.2 hkm
                      have hjk : j = k2 := hj1 (by omega)
                      have hk3 : m' < k2 + 1 := by omega
                      clear hj1 hj2 hkm
                      have hjk' := Lib.hid hjk
                      clear hjk
                      go_wp2
                      go_roundw
                      case rel => exact ⟨k2 + 1, j, _, by omega, fun h => by omega, fun _ => by have := hjk'.out; omega, rfl, by go_num, rfl⟩
                      case measure => simp [intOf]; omega
                    · as_aux_lemma =>
                      have e1 : ((k2 : Int) == (m' : Int)) = false := beq_eq_false_iff_ne.2 (by omega)
                      have e2 : ((k2 : Int) != (m' : Int)) = true := by simp; omega
                      have e3 : (k2 == m') = false := beq_eq_false_iff_ne.2 hkm
                      have hjN : j < N := by omega
                      have hsk : skp m' j = k2 := by unfold skp; split <;> omega
                      obtain ⟨x, hx⟩ : ∃ x, R3[j]? = some x := ⟨_, List.getElem?_eq_getElem (by have := HLN.out; omega)⟩
                      obtain ⟨z, hz, hle'⟩ := HWO.out j x hx
                      rw [hsk] at hz
                      have cx := HQ9.out.cell hx
                      have cz := HR9.out.cell hz
                      have d5 : decide (z < x) = false := decide_eq_false (by omega)
                      have p0 : (0 : Int) ≤ (k2 : Int) := by omega
                      have p1 : (k2 : Int) < (n : Int) := by omega
                      have p2 : (0 : Int) ≤ (j : Int) := by omega
                      have p3 : (j : Int) < (N : Int) := by omega
                      have HJ : Hid ((k2 + 1 ≤ m' → j + 1 = k2 + 1) ∧ (m' < k2 + 1 → j + 1 + 1 = k2 + 1)) := Lib.hid ⟨fun h => by omega, fun h => by omega⟩
                      clear hsk hx hz hle' hj1 hj2 hkm hmn
                      go_wp2
                      go_quiet (fail)
                      go_wp2
                      go_roundw
                      case rel => first | exact ⟨k2 + 1, j + 1, _, by omega, HJ.out.1, HJ.out.2, by go_num, by go_num, rfl⟩ | exact ⟨k2 + 1, j + 1, _, by omega, HJ.out.1, HJ.out.2, by go_num, by go_num, World.drewN_drewN _ _ _⟩
                      case measure => simp [intOf]; omega
                  · as_aux_lemma =>
                    have d1 : decide ((k2 : Int) < (n : Int)) = false := by simp; omega
                    have d1' : decide (k2 < n) = false := by simp; omega
                    go_wp2
                    go_ret
                    exact ⟨rfl, below_drewN HB9.out.below q2⟩
end Go.Proofs.Ytklnokhabomnfaa
