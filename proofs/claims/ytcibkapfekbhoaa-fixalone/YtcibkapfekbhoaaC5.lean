/- The walk of the statement on a task alone. -/
import Derived.Test.YtcibkapfekbhoaaAw
import Derived.Test.YtcibkapfekbhoaaGd
import Derived.Test.YtcibkapfekbhoaaRx
import Derived.Lib.QuietBelow
import Derived.Laws.StructEq
import Derived.Deep.DeepCutAuto
namespace Go.Proofs.Ytcibkapfekbhoaa
open Go.RowKit

set_option maxRecDepth 100000 in
set_option maxHeartbeats 2000000 in
/-- A task is the same as itself. -/
theorem eqSelf (t : Tk) (w : World) : (Op.equalIn 10000 39 (aggK t) (aggK t)).run Try.prog w = .ok true w := by
  have u3 := Try.underlying3
  have a3 := Try.isAgg3
  have z3 := Try.sizeOf3
  have u9 := Try.underlying9
  have a9 := Try.isAgg9
  have z9 := Try.sizeOf9
  have hS : Try.prog.underlying 39 = some (.struct (Try.prog.fieldsOf 39)) := by kernel_rfl
  unfold aggK
  rw [show (10000 : Nat) = 9999 + 1 from rfl, run_equalIn_agg w 9999 39 _ _ hS (by kernel_rfl)]
  simp only [Program.fieldsOf, Try.underlying39]
  go_simp
/-- A task alone, with the greatest gap. -/
theorem alone_resp {b : Int} {o : Tk} (ho : Fine o) (hb : 1 ≤ b) (hb1 : b ≤ 1000) (hD : o.D ≤ 3000) : ∃ want e cl : Int, (o.Mode = 1 → e = o.Seg + o.Cost ∧ cl = 0) ∧ (o.Mode = 2 → e = o.A + o.Cost ∧ cl = 0) ∧ (o.Mode = 3 → e = o.A + o.Cost ∧ cl = e) ∧ 1 ≤ e ∧ e ≤ 1049576 ∧ want = wholeV o + cl + b * e
    ∧ ∃ r ok, Resp (nextV b [o] o 1049576) o.D r ok ∧ (want ≤ o.D → (r = want ∧ ok = true)) ∧ (¬ want ≤ o.D → (r = 0 ∧ ok = false)) := by
  have hF : ∀ t ∈ [o], Fine t := by simpa using ho
  have h0 := (next_range (w := 0) (o := o) (l := [o]) (g := 1049576) (by omega) (by omega) hb hb1 (by omega) hF ho (by simp)).2.1
  have hn : ∀ w, 1 ≤ w → w ≤ 3000 → nextV b [o] o 1049576 w = wholeV o + (if o.Mode = 3 then extraV o else 0) + b * extraV o := fun w a b' => next_alone ho a b' hb hb1
  have he := extra_nums ho
  have hwo := whole_nums ho
  have hC := ho.nums
  have hp : 0 ≤ b * extraV o := Int.mul_nonneg (by omega) (by omega)
  have hcl : 0 ≤ (if o.Mode = 3 then extraV o else 0) := by split <;> omega
  refine ⟨wholeV o + (if o.Mode = 3 then extraV o else 0) + b * extraV o, extraV o, if o.Mode = 3 then extraV o else 0, fun h => ?_, fun h => ?_, fun h => ?_, he.1, he.2, rfl, ?_⟩
  · exact ⟨by unfold extraV; rw [if_pos h], by rw [if_neg (by omega)]⟩
  · exact ⟨by unfold extraV; rw [if_neg (by omega)], by rw [if_neg (by omega)]⟩
  · exact ⟨by unfold extraV; rw [if_neg (by omega)], by rw [if_pos h]⟩
  have hw1 : 1 ≤ wholeV o + (if o.Mode = 3 then extraV o else 0) + b * extraV o := by omega
  generalize wholeV o + (if o.Mode = 3 then extraV o else 0) + b * extraV o = want at hn hw1
  by_cases hd : want ≤ o.D
  · refine ⟨want, true, .inl ⟨rfl, by omega, hd, hn _ hw1 (by omega), fun x x0 x1 => ?_⟩, fun _ => ⟨rfl, rfl⟩, fun h => absurd hd h⟩
    by_cases hx : x = 0
    · subst hx; omega
    · rw [hn x (by omega) (by omega)]; exact x1
  · refine ⟨0, false, .inr ⟨rfl, rfl, fun x x0 x1 => ?_⟩, fun h => absurd h hd, fun _ => ⟨rfl, rfl⟩⟩
    by_cases hx : x = 0
    · subst hx; omega
    · rw [hn x (by omega) (by omega)]; omega

set_option maxRecDepth 100000 in
set_option maxHeartbeats 16000000 in
theorem coreAlone (b : Int) (l : List Tk) (a : Option Addr) (cap : Nat) (i : Int) (i0 : 0 ≤ i) (i1 : i ≤ 255) {w : World} (hm : l.length ≤ maxLen) (ht : Tasks w a cap l) :
    Calls Try.prog 7 #[.agg #[.int .i64 b, .slice a l.length cap], .int .u8 i] w (Woke w) := by
  have KA := Lib.hid (fun W => awake W)
  have HT := Lib.hid ht
  have HB0 := Lib.hid (SetBox.made w b a l.length cap)
  clear ht
  go_enter Try.func7, Try.ntmps7
  go_wp2_with (fail)
  with_reducible refine (KA.out _).mono ?_
  rintro e w1 ⟨rfl, hb1⟩
  have HB1 := Lib.hid (HB0.out.tells hb1)
  have KF := Lib.hid (small b l a cap hm (HT.out.below (Nat.le_refl _) HB1.out.below))
  clear hb1 HB0
  obtain ⟨s0, s1⟩ := HB1.out.cells
  go_wp2_with (fail)
  with_reducible refine KF.out.mono ?_
  rintro e w2 ⟨r, rfl, hb2, hf⟩
  have HB2 := Lib.hid (HB1.out.tells hb2)
  have KR := Lib.hid (refRight b l a cap hm (HT.out.below (Nat.le_refl _) HB2.out.below))
  clear hb2 s0 s1 HB1 KF
  obtain ⟨s0, s1⟩ := HB2.out.cells
  cases r
  · clear hf
    go_wp2_with (fail)
    with_reducible refine (KA.out _).mono ?_
    rintro e w9 ⟨rfl, hb9⟩
    have HB9 := Lib.hid (HB2.out.tells hb9)
    clear hb9
    go_wp2
    go_ret
    exact ⟨rfl, HB9.out.below⟩
  · have HF := Lib.hid (hf rfl)
    clear hf
    have hG := fun h => good_of (b := b) (l := l) (eq_of_beq h)
    generalize ((whyF b l).1 == 0) = rr at KR hG
    go_wp2_with (fail)
    with_reducible refine KR.out.mono ?_
    rintro e w3 ⟨rfl, hb3⟩
    have HB3 := Lib.hid (HB2.out.tells hb3)
    clear hb3 s0 s1 HB2 KR
    obtain ⟨s0, s1⟩ := HB3.out.cells
    cases rr
    · clear hG
      go_wp2_with (fail)
      with_reducible refine (KA.out _).mono ?_
      rintro e w9 ⟨rfl, hb9⟩
      have HB9 := Lib.hid (HB3.out.tells hb9)
      clear hb9
      go_wp2
      go_ret
      exact ⟨rfl, HB9.out.below⟩
    · have HG := Lib.hid (hG rfl)
      clear hG
      obtain ⟨k, hk, hke⟩ := place_of (i := i) HG.out.n0
      have hk16 := HG.out.n1
      have hn1 := HG.out.n0
      have HO : Hid (l[k]? = some l[k]) := Lib.hid (List.getElem?_eq_getElem hk)
      generalize l[k] = o at HO
      have hmem := List.mem_of_getElem? HO.out
      have hfo := HG.out.fine o hmem
      have hD3 := HF.out.2 o hmem
      have hb0 := HG.out.b0
      have hb1 := HG.out.b1
      have HTx := Lib.hid (HT.out.below (Nat.le_refl _) HB3.out.below)
      obtain ⟨bb, off, rfl, hbl, x0, x1, x2, x3, x4, x5, x6, x7, x8, x9, x10⟩ := HTx.out.cells HO.out
      have tm : i.tmod (l.length : Int) = (k : Int) := by rw [Int.tmod_eq_emod_of_nonneg i0, hke]
      clear HTx HT HO HG HF hmem hke KA s0 s1 hm
      generalize l.length = nl at HB3 hk hk16 hn1 tm ⊢
      obtain ⟨s0, s1⟩ := HB3.out.cells
      have u1 : ((nl : Int) == 0) = false := by simp; omega
      have u2 : (nl == 0) = false := by simp; omega
      have u3 : ¬ ((nl : Int) = 0) := by omega
      have q1 : (0 : Int) ≤ (k : Int) := by omega
      have q2 : (k : Int) < (nl : Int) := by omega
      have hwl : w.heap.size < w3.heap.size := HB3.out.lies.lt
      obtain ⟨want, e, cl, h1, h2, h3, e0, e1, hwant, r, ok, hR, hr1, hr0⟩ := alone_resp hfo hb0 hb1 hD3
      have HE1 := Lib.hid h1
      have HE2 := Lib.hid h2
      have HE3 := Lib.hid h3
      have hmode : o.Mode = 1 ∨ o.Mode = 2 ∨ o.Mode = 3 := by rcases hfo.again with ⟨h, _⟩ | ⟨h | h, _⟩ <;> omega
      obtain ⟨P, hP⟩ : ∃ P, P = b * e := ⟨_, rfl⟩
      have p0 : 0 ≤ P := by rw [hP]; exact Int.mul_nonneg (by omega) (by omega)
      have p1 : P ≤ 1000 * 1049576 := by rw [hP]; exact Int.mul_le_mul hb1 e1 (by omega) (by omega)
      have tP : b * e = P := hP.symm
      have bd := hfo.nums
      have bd2 := whole_nums hfo
      have bd3 : 0 ≤ o.Seg ∧ o.Seg ≤ 1048576 ∧ 0 ≤ o.A ∧ o.A ≤ 1048576 := by
        obtain ⟨a1, a2, a3, a4, a5, a6⟩ := hfo.times
        rcases hfo.mode with ⟨c1, c2, c3, c4⟩ | ⟨c1, c2, c3, c4⟩ <;> omega
      have KO := Lib.hid (fun W => refWhole hfo W)
      have KR0 := Lib.hid (fun W g (hW : Lies W g 39 (boxT o)) => response b 1049576 (l := [o]) (k := 0) (o := o) (by simp) (by simpa using hfo) (tasks_row (l := [o]) (cap := 1) hW (by simp [boxT, flatK, cellsK]) (by simp)) rfl hb0 hb1 (by omega) (by omega) hR)
      rw [← hP] at hwant
      clear h1 h2 h3 hP hR hfo
      generalize wholeV o = wo at KO hwant bd2
      obtain ⟨n, tT, tD, tC, tA, tS, tc, tM, tK, tO, tP⟩ := o
      simp only [aggK, boxT] at *
      go_wp2
      go_region
      have HLT : Hid (Lies ((w3.alloc (.cells #[.string n, .int .i64 tT, .int .i64 tD, .int .i64 tC, .int .i64 tA, .int .i64 tS, .int .i64 tc, .int .i64 tM, .int .i64 tK, .int .i64 tO, .int .i64 tP] 39)).drew) w3.heap.size 39 #[.string n, .int .i64 tT, .int .i64 tD, .int .i64 tC, .int .i64 tA, .int .i64 tS, .int .i64 tc, .int .i64 tM, .int .i64 tK, .int .i64 tO, .int .i64 tP]) := Lib.hid ((Lies.made w3 39 #[.string n, .int .i64 tT, .int .i64 tD, .int .i64 tC, .int .i64 tA, .int .i64 tS, .int .i64 tc, .int .i64 tM, .int .i64 tK, .int .i64 tO, .int .i64 tP]).drewN 1)
      have HB : Hid (SetBox w b (some ⟨bb, off, none⟩) nl cap ((w3.alloc (.cells #[.string n, .int .i64 tT, .int .i64 tD, .int .i64 tC, .int .i64 tA, .int .i64 tS, .int .i64 tc, .int .i64 tM, .int .i64 tK, .int .i64 tO, .int .i64 tP] 39)).drew)) := Lib.hid ((HB3.out.tells (below_new w3 (.cells #[.string n, .int .i64 tT, .int .i64 tD, .int .i64 tC, .int .i64 tA, .int .i64 tS, .int .i64 tc, .int .i64 tM, .int .i64 tK, .int .i64 tO, .int .i64 tP] 39))).drewN 1)
      generalize (w3.alloc (.cells #[.string n, .int .i64 tT, .int .i64 tD, .int .i64 tC, .int .i64 tA, .int .i64 tS, .int .i64 tc, .int .i64 tM, .int .i64 tK, .int .i64 tO, .int .i64 tP] 39)).drew = V0 at HLT HB ⊢
      generalize w3.heap.size = gt at HLT ⊢
      clear x0 x1 x2 x3 x4 x5 x6 x7 x8 x9 x10 s0 s1 hwl hbl HB3 tm u1 u2 u3 q1 q2
      have z0 : V0.cell? ⟨gt, 0, none⟩ = some (.string n) := HLT.out.cell 0
      have z1 : V0.cell? ⟨gt, 1, none⟩ = some (.int .i64 tT) := HLT.out.cell 1
      have z2 : V0.cell? ⟨gt, 2, none⟩ = some (.int .i64 tD) := HLT.out.cell 2
      have z3 : V0.cell? ⟨gt, 3, none⟩ = some (.int .i64 tC) := HLT.out.cell 3
      have z4 : V0.cell? ⟨gt, 4, none⟩ = some (.int .i64 tA) := HLT.out.cell 4
      have z5 : V0.cell? ⟨gt, 5, none⟩ = some (.int .i64 tS) := HLT.out.cell 5
      have z6 : V0.cell? ⟨gt, 6, none⟩ = some (.int .i64 tc) := HLT.out.cell 6
      have z7 : V0.cell? ⟨gt, 7, none⟩ = some (.int .i64 tM) := HLT.out.cell 7
      have z8 : V0.cell? ⟨gt, 8, none⟩ = some (.int .i64 tK) := HLT.out.cell 8
      have z9 : V0.cell? ⟨gt, 9, none⟩ = some (.int .i64 tO) := HLT.out.cell 9
      have z10 : V0.cell? ⟨gt, 10, none⟩ = some (.int .i64 tP) := HLT.out.cell 10
      obtain ⟨s0, s1⟩ := HB.out.cells
      obtain ⟨X, hX⟩ : ∃ X, X = (V0.alloc (.cells #[.string n, .int .i64 tT, .int .i64 tD, .int .i64 tC, .int .i64 tA, .int .i64 tS, .int .i64 tc, .int .i64 tM, .int .i64 tK, .int .i64 tO, .int .i64 tP] 39)).alloc (.cells #[.int .i64 b, .slice (some ⟨V0.heap.size, 0, none⟩) 1 1] 24) := ⟨_, rfl⟩
      have HXE := Lib.hid hX
      have hbx : Below V0.heap.size V0 X := by rw [hX]; exact (below_new _ _).alloc (by simp) _
      have HBX := Lib.hid (HB.out.tells hbx)
      have HLTX := Lib.hid (HLT.out.below hbx HLT.out.lt)
      have HLR : Hid (Lies X V0.heap.size 39 #[.string n, .int .i64 tT, .int .i64 tD, .int .i64 tC, .int .i64 tA, .int .i64 tS, .int .i64 tc, .int .i64 tM, .int .i64 tK, .int .i64 tO, .int .i64 tP]) := Lib.hid (by rw [hX]; exact (Lies.made V0 39 #[.string n, .int .i64 tT, .int .i64 tD, .int .i64 tC, .int .i64 tA, .int .i64 tS, .int .i64 tc, .int .i64 tM, .int .i64 tK, .int .i64 tO, .int .i64 tP]).alloc _)
      have HLS : Hid (Lies X (V0.heap.size + 1) 24 #[.int .i64 b, .slice (some ⟨V0.heap.size, 0, none⟩) 1 1]) := Lib.hid (by
        rw [hX]
        have := Lies.made (V0.alloc (.cells #[.string n, .int .i64 tT, .int .i64 tD, .int .i64 tC, .int .i64 tA, .int .i64 tS, .int .i64 tc, .int .i64 tM, .int .i64 tK, .int .i64 tO, .int .i64 tP] 39)) 24 #[.int .i64 b, .slice (some ⟨V0.heap.size, 0, none⟩) 1 1]
        simpa using this)
      clear hX hbx
      go_upto_region 5 with fail
      rw [← HXE.out]
      clear HB HLT s0 s1 z0 z1 z2 z3 z4 z5 z6 z7 z8 z9 z10 HXE
      have HLT := HLTX
      clear HLTX
      have KR := Lib.hid (fun W hW => KR0.out W V0.heap.size hW)
      clear KR0
      generalize V0.heap.size + 1 = gs at HLS ⊢
      generalize V0.heap.size = gr at HLR HLS KR ⊢
      clear V0
      have HXE := HBX
      by_cases hwD : want ≤ tD
      · rcases hmode with rfl | rfl | rfl
        · obtain ⟨he, hcl⟩ := HE1.out rfl
          have HEE := Lib.hid he
          clear HE1 HE2 HE3 he
          have KR' : Hid (∀ W, Lies W gr 39 #[.string n, .int .i64 tT, .int .i64 tD, .int .i64 tC, .int .i64 tA, .int .i64 tS, .int .i64 tc, .int .i64 tM, .int .i64 tK, .int .i64 1, .int .i64 tP] → Calls Try.prog 20 #[.agg #[.int .i64 b, .slice (some ⟨gr, 0, none⟩) 1 1], .int .i64 0, .int .i64 1049576] W (Gives (.tuple #[.int .i64 (wo + P), .bool true]) W)) := Lib.hid (fun W hW => by
            have := KR.out W hW
            rw [(hr1 hwD).1, (hr1 hwD).2] at this
            rw [hwant, hcl] at this
            simpa using this)
          have t1 : decide (wo + P ≤ tD) = true := by
            rw [hwant, hcl] at hwD
            simp only [decide_eq_true_eq]; omega
          have HX := Lib.hid hcl
          clear KR hwant hcl hr0 hr1 hwD
          have z0 : X.cell? ⟨gt, 0, none⟩ = some (.string n) := HLT.out.cell 0
          have z1 : X.cell? ⟨gt, 1, none⟩ = some (.int .i64 tT) := HLT.out.cell 1
          have z2 : X.cell? ⟨gt, 2, none⟩ = some (.int .i64 tD) := HLT.out.cell 2
          have z3 : X.cell? ⟨gt, 3, none⟩ = some (.int .i64 tC) := HLT.out.cell 3
          have z4 : X.cell? ⟨gt, 4, none⟩ = some (.int .i64 tA) := HLT.out.cell 4
          have z5 : X.cell? ⟨gt, 5, none⟩ = some (.int .i64 tS) := HLT.out.cell 5
          have z6 : X.cell? ⟨gt, 6, none⟩ = some (.int .i64 tc) := HLT.out.cell 6
          have z7 : X.cell? ⟨gt, 7, none⟩ = some (.int .i64 tM) := HLT.out.cell 7
          have z8 : X.cell? ⟨gt, 8, none⟩ = some (.int .i64 tK) := HLT.out.cell 8
          have z9 : X.cell? ⟨gt, 9, none⟩ = some (.int .i64 1) := HLT.out.cell 9
          have z10 : X.cell? ⟨gt, 10, none⟩ = some (.int .i64 tP) := HLT.out.cell 10
          obtain ⟨s0, s1⟩ := HBX.out.cells
          clear s1
          go_upto_region 11 with fail
          rw [show (tS + tc) = e from HEE.out.symm]
          have k_s0 := cell_regrown s0
          have k_z0 := cell_regrown z0
          have k_z1 := cell_regrown z1
          have k_z2 := cell_regrown z2
          have k_z3 := cell_regrown z3
          have k_z4 := cell_regrown z4
          have k_z5 := cell_regrown z5
          have k_z6 := cell_regrown z6
          have k_z7 := cell_regrown z7
          have k_z8 := cell_regrown z8
          have k_z9 := cell_regrown z9
          have k_z10 := cell_regrown z10
          have c1 := fun d os => Calls.regrown_of (w := X) (d := d) (os := os) (v := .int .i64 wo) (KO.out _)
          clear KO
          refine wp_region_quiet_below (by kernel_rfl) (by kernel_rfl) ?_
          repeat (go_big_quiet_step (with_reducible first | exact c1 _ _))
          refine wpQuiet_nil ?_
          intro Z hw'
          obtain ⟨⟨dq, osq⟩, hw''⟩ := hw'
          have hbb := below_regrown X dq osq
          dsimp only at hw''
          rw [← hw''] at hbb
          have HB4 := Lib.hid (HBX.out.tells hbb)
          have HT4 := Lib.hid (HLT.out.below hbb HLT.out.lt)
          have HR4 := Lib.hid (HLR.out.below hbb HLR.out.lt)
          have HS4 := Lib.hid (HLS.out.below hbb HLS.out.lt)
          clear hbb hw'' k_s0 k_z0 k_z1 k_z2 k_z3 k_z4 k_z5 k_z6 k_z7 k_z8 k_z9 k_z10 c1 s0 z0 z1 z2 z3 z4 z5 z6 z7 z8 z9 z10 HBX HLT HLR HLS HXE
          have y0 : Z.cell? ⟨gs, 0, none⟩ = some (.int .i64 b) := HS4.out.cell 0
          have y1 : Z.cell? ⟨gs, 1, none⟩ = some (.slice (some ⟨gr, 0, none⟩) 1 1) := HS4.out.cell 1
          have KR2 := Lib.hid (KR'.out _ HR4.out)
          clear KR'
          go_wp2_with (fail)
          with_reducible refine KR2.out.mono ?_
          rintro e' w5 ⟨rfl, hb5⟩
          have HB5 := Lib.hid (HB4.out.tells hb5)
          have HT5 := Lib.hid (HT4.out.below hb5 HT4.out.lt)
          have HR5 := Lib.hid (HR4.out.below hb5 HR4.out.lt)
          have HS5 := Lib.hid (HS4.out.below hb5 HS4.out.lt)
          clear hb5 y0 y1 KR2 HB4 HT4 HR4 HS4
          obtain ⟨s0, s1⟩ := HB5.out.cells
          clear s1
          have z0 : w5.cell? ⟨gt, 0, none⟩ = some (.string n) := HT5.out.cell 0
          have z1 : w5.cell? ⟨gt, 1, none⟩ = some (.int .i64 tT) := HT5.out.cell 1
          have z2 : w5.cell? ⟨gt, 2, none⟩ = some (.int .i64 tD) := HT5.out.cell 2
          have z3 : w5.cell? ⟨gt, 3, none⟩ = some (.int .i64 tC) := HT5.out.cell 3
          have z4 : w5.cell? ⟨gt, 4, none⟩ = some (.int .i64 tA) := HT5.out.cell 4
          have z5 : w5.cell? ⟨gt, 5, none⟩ = some (.int .i64 tS) := HT5.out.cell 5
          have z6 : w5.cell? ⟨gt, 6, none⟩ = some (.int .i64 tc) := HT5.out.cell 6
          have z7 : w5.cell? ⟨gt, 7, none⟩ = some (.int .i64 tM) := HT5.out.cell 7
          have z8 : w5.cell? ⟨gt, 8, none⟩ = some (.int .i64 tK) := HT5.out.cell 8
          have z9 : w5.cell? ⟨gt, 9, none⟩ = some (.int .i64 1) := HT5.out.cell 9
          have z10 : w5.cell? ⟨gt, 10, none⟩ = some (.int .i64 tP) := HT5.out.cell 10
          have v0 : w5.cell? ⟨gr, 0, none⟩ = some (.string n) := HR5.out.cell 0
          have v1 : w5.cell? ⟨gr, 1, none⟩ = some (.int .i64 tT) := HR5.out.cell 1
          have v2 : w5.cell? ⟨gr, 2, none⟩ = some (.int .i64 tD) := HR5.out.cell 2
          have v3 : w5.cell? ⟨gr, 3, none⟩ = some (.int .i64 tC) := HR5.out.cell 3
          have v4 : w5.cell? ⟨gr, 4, none⟩ = some (.int .i64 tA) := HR5.out.cell 4
          have v5 : w5.cell? ⟨gr, 5, none⟩ = some (.int .i64 tS) := HR5.out.cell 5
          have v6 : w5.cell? ⟨gr, 6, none⟩ = some (.int .i64 tc) := HR5.out.cell 6
          have v7 : w5.cell? ⟨gr, 7, none⟩ = some (.int .i64 tM) := HR5.out.cell 7
          have v8 : w5.cell? ⟨gr, 8, none⟩ = some (.int .i64 tK) := HR5.out.cell 8
          have v9 : w5.cell? ⟨gr, 9, none⟩ = some (.int .i64 1) := HR5.out.cell 9
          have v10 : w5.cell? ⟨gr, 10, none⟩ = some (.int .i64 tP) := HR5.out.cell 10
          have y0 : w5.cell? ⟨gs, 0, none⟩ = some (.int .i64 b) := HS5.out.cell 0
          have y1 : w5.cell? ⟨gs, 1, none⟩ = some (.slice (some ⟨gr, 0, none⟩) 1 1) := HS5.out.cell 1
          have hq := fun W => eqSelf ⟨n, tT, tD, tC, tA, tS, tc, tM, tK, 1, tP⟩ W
          simp only [aggK] at hq
          go_upto_region 13 with fail
          go_quiet (fail)
          go_wp2
          go_ret
          exact ⟨rfl, below_drewN HB5.out.below _⟩
        · obtain ⟨he, hcl⟩ := HE2.out rfl
          have HEE := Lib.hid he
          clear HE1 HE2 HE3 he
          have KR' : Hid (∀ W, Lies W gr 39 #[.string n, .int .i64 tT, .int .i64 tD, .int .i64 tC, .int .i64 tA, .int .i64 tS, .int .i64 tc, .int .i64 tM, .int .i64 tK, .int .i64 2, .int .i64 tP] → Calls Try.prog 20 #[.agg #[.int .i64 b, .slice (some ⟨gr, 0, none⟩) 1 1], .int .i64 0, .int .i64 1049576] W (Gives (.tuple #[.int .i64 (wo + P), .bool true]) W)) := Lib.hid (fun W hW => by
            have := KR.out W hW
            rw [(hr1 hwD).1, (hr1 hwD).2] at this
            rw [hwant, hcl] at this
            simpa using this)
          have t1 : decide (wo + P ≤ tD) = true := by
            rw [hwant, hcl] at hwD
            simp only [decide_eq_true_eq]; omega
          have HX := Lib.hid hcl
          clear KR hwant hcl hr0 hr1 hwD
          have z0 : X.cell? ⟨gt, 0, none⟩ = some (.string n) := HLT.out.cell 0
          have z1 : X.cell? ⟨gt, 1, none⟩ = some (.int .i64 tT) := HLT.out.cell 1
          have z2 : X.cell? ⟨gt, 2, none⟩ = some (.int .i64 tD) := HLT.out.cell 2
          have z3 : X.cell? ⟨gt, 3, none⟩ = some (.int .i64 tC) := HLT.out.cell 3
          have z4 : X.cell? ⟨gt, 4, none⟩ = some (.int .i64 tA) := HLT.out.cell 4
          have z5 : X.cell? ⟨gt, 5, none⟩ = some (.int .i64 tS) := HLT.out.cell 5
          have z6 : X.cell? ⟨gt, 6, none⟩ = some (.int .i64 tc) := HLT.out.cell 6
          have z7 : X.cell? ⟨gt, 7, none⟩ = some (.int .i64 tM) := HLT.out.cell 7
          have z8 : X.cell? ⟨gt, 8, none⟩ = some (.int .i64 tK) := HLT.out.cell 8
          have z9 : X.cell? ⟨gt, 9, none⟩ = some (.int .i64 2) := HLT.out.cell 9
          have z10 : X.cell? ⟨gt, 10, none⟩ = some (.int .i64 tP) := HLT.out.cell 10
          obtain ⟨s0, s1⟩ := HBX.out.cells
          clear s1
          go_upto_region 11 with fail
          rw [show (tA + tc) = e from HEE.out.symm]
          have k_s0 := cell_regrown s0
          have k_z0 := cell_regrown z0
          have k_z1 := cell_regrown z1
          have k_z2 := cell_regrown z2
          have k_z3 := cell_regrown z3
          have k_z4 := cell_regrown z4
          have k_z5 := cell_regrown z5
          have k_z6 := cell_regrown z6
          have k_z7 := cell_regrown z7
          have k_z8 := cell_regrown z8
          have k_z9 := cell_regrown z9
          have k_z10 := cell_regrown z10
          have c1 := fun d os => Calls.regrown_of (w := X) (d := d) (os := os) (v := .int .i64 wo) (KO.out _)
          clear KO
          refine wp_region_quiet_below (by kernel_rfl) (by kernel_rfl) ?_
          repeat (go_big_quiet_step (with_reducible first | exact c1 _ _))
          refine wpQuiet_nil ?_
          intro Z hw'
          obtain ⟨⟨dq, osq⟩, hw''⟩ := hw'
          have hbb := below_regrown X dq osq
          dsimp only at hw''
          rw [← hw''] at hbb
          have HB4 := Lib.hid (HBX.out.tells hbb)
          have HT4 := Lib.hid (HLT.out.below hbb HLT.out.lt)
          have HR4 := Lib.hid (HLR.out.below hbb HLR.out.lt)
          have HS4 := Lib.hid (HLS.out.below hbb HLS.out.lt)
          clear hbb hw'' k_s0 k_z0 k_z1 k_z2 k_z3 k_z4 k_z5 k_z6 k_z7 k_z8 k_z9 k_z10 c1 s0 z0 z1 z2 z3 z4 z5 z6 z7 z8 z9 z10 HBX HLT HLR HLS HXE
          have y0 : Z.cell? ⟨gs, 0, none⟩ = some (.int .i64 b) := HS4.out.cell 0
          have y1 : Z.cell? ⟨gs, 1, none⟩ = some (.slice (some ⟨gr, 0, none⟩) 1 1) := HS4.out.cell 1
          have KR2 := Lib.hid (KR'.out _ HR4.out)
          clear KR'
          go_wp2_with (fail)
          with_reducible refine KR2.out.mono ?_
          rintro e' w5 ⟨rfl, hb5⟩
          have HB5 := Lib.hid (HB4.out.tells hb5)
          have HT5 := Lib.hid (HT4.out.below hb5 HT4.out.lt)
          have HR5 := Lib.hid (HR4.out.below hb5 HR4.out.lt)
          have HS5 := Lib.hid (HS4.out.below hb5 HS4.out.lt)
          clear hb5 y0 y1 KR2 HB4 HT4 HR4 HS4
          obtain ⟨s0, s1⟩ := HB5.out.cells
          clear s1
          have z0 : w5.cell? ⟨gt, 0, none⟩ = some (.string n) := HT5.out.cell 0
          have z1 : w5.cell? ⟨gt, 1, none⟩ = some (.int .i64 tT) := HT5.out.cell 1
          have z2 : w5.cell? ⟨gt, 2, none⟩ = some (.int .i64 tD) := HT5.out.cell 2
          have z3 : w5.cell? ⟨gt, 3, none⟩ = some (.int .i64 tC) := HT5.out.cell 3
          have z4 : w5.cell? ⟨gt, 4, none⟩ = some (.int .i64 tA) := HT5.out.cell 4
          have z5 : w5.cell? ⟨gt, 5, none⟩ = some (.int .i64 tS) := HT5.out.cell 5
          have z6 : w5.cell? ⟨gt, 6, none⟩ = some (.int .i64 tc) := HT5.out.cell 6
          have z7 : w5.cell? ⟨gt, 7, none⟩ = some (.int .i64 tM) := HT5.out.cell 7
          have z8 : w5.cell? ⟨gt, 8, none⟩ = some (.int .i64 tK) := HT5.out.cell 8
          have z9 : w5.cell? ⟨gt, 9, none⟩ = some (.int .i64 2) := HT5.out.cell 9
          have z10 : w5.cell? ⟨gt, 10, none⟩ = some (.int .i64 tP) := HT5.out.cell 10
          have v0 : w5.cell? ⟨gr, 0, none⟩ = some (.string n) := HR5.out.cell 0
          have v1 : w5.cell? ⟨gr, 1, none⟩ = some (.int .i64 tT) := HR5.out.cell 1
          have v2 : w5.cell? ⟨gr, 2, none⟩ = some (.int .i64 tD) := HR5.out.cell 2
          have v3 : w5.cell? ⟨gr, 3, none⟩ = some (.int .i64 tC) := HR5.out.cell 3
          have v4 : w5.cell? ⟨gr, 4, none⟩ = some (.int .i64 tA) := HR5.out.cell 4
          have v5 : w5.cell? ⟨gr, 5, none⟩ = some (.int .i64 tS) := HR5.out.cell 5
          have v6 : w5.cell? ⟨gr, 6, none⟩ = some (.int .i64 tc) := HR5.out.cell 6
          have v7 : w5.cell? ⟨gr, 7, none⟩ = some (.int .i64 tM) := HR5.out.cell 7
          have v8 : w5.cell? ⟨gr, 8, none⟩ = some (.int .i64 tK) := HR5.out.cell 8
          have v9 : w5.cell? ⟨gr, 9, none⟩ = some (.int .i64 2) := HR5.out.cell 9
          have v10 : w5.cell? ⟨gr, 10, none⟩ = some (.int .i64 tP) := HR5.out.cell 10
          have y0 : w5.cell? ⟨gs, 0, none⟩ = some (.int .i64 b) := HS5.out.cell 0
          have y1 : w5.cell? ⟨gs, 1, none⟩ = some (.slice (some ⟨gr, 0, none⟩) 1 1) := HS5.out.cell 1
          have hq := fun W => eqSelf ⟨n, tT, tD, tC, tA, tS, tc, tM, tK, 2, tP⟩ W
          simp only [aggK] at hq
          go_upto_region 13 with fail
          go_quiet (fail)
          go_wp2
          go_ret
          exact ⟨rfl, below_drewN HB5.out.below _⟩
        · obtain ⟨he, hcl⟩ := HE3.out rfl
          have HEE := Lib.hid he
          clear HE1 HE2 HE3 he
          have KR' : Hid (∀ W, Lies W gr 39 #[.string n, .int .i64 tT, .int .i64 tD, .int .i64 tC, .int .i64 tA, .int .i64 tS, .int .i64 tc, .int .i64 tM, .int .i64 tK, .int .i64 3, .int .i64 tP] → Calls Try.prog 20 #[.agg #[.int .i64 b, .slice (some ⟨gr, 0, none⟩) 1 1], .int .i64 0, .int .i64 1049576] W (Gives (.tuple #[.int .i64 (wo + e + P), .bool true]) W)) := Lib.hid (fun W hW => by
            have := KR.out W hW
            rw [(hr1 hwD).1, (hr1 hwD).2] at this
            rw [hwant, hcl] at this
            exact this)
          have t1 : decide (wo + e + P ≤ tD) = true := by
            rw [hwant, hcl] at hwD
            simp only [decide_eq_true_eq]; omega
          have HX := Lib.hid hcl
          clear KR hwant hcl hr0 hr1 hwD
          have z0 : X.cell? ⟨gt, 0, none⟩ = some (.string n) := HLT.out.cell 0
          have z1 : X.cell? ⟨gt, 1, none⟩ = some (.int .i64 tT) := HLT.out.cell 1
          have z2 : X.cell? ⟨gt, 2, none⟩ = some (.int .i64 tD) := HLT.out.cell 2
          have z3 : X.cell? ⟨gt, 3, none⟩ = some (.int .i64 tC) := HLT.out.cell 3
          have z4 : X.cell? ⟨gt, 4, none⟩ = some (.int .i64 tA) := HLT.out.cell 4
          have z5 : X.cell? ⟨gt, 5, none⟩ = some (.int .i64 tS) := HLT.out.cell 5
          have z6 : X.cell? ⟨gt, 6, none⟩ = some (.int .i64 tc) := HLT.out.cell 6
          have z7 : X.cell? ⟨gt, 7, none⟩ = some (.int .i64 tM) := HLT.out.cell 7
          have z8 : X.cell? ⟨gt, 8, none⟩ = some (.int .i64 tK) := HLT.out.cell 8
          have z9 : X.cell? ⟨gt, 9, none⟩ = some (.int .i64 3) := HLT.out.cell 9
          have z10 : X.cell? ⟨gt, 10, none⟩ = some (.int .i64 tP) := HLT.out.cell 10
          obtain ⟨s0, s1⟩ := HBX.out.cells
          clear s1
          go_upto_region 11 with fail
          rw [show (tA + tc) = e from HEE.out.symm]
          have k_s0 := cell_regrown s0
          have k_z0 := cell_regrown z0
          have k_z1 := cell_regrown z1
          have k_z2 := cell_regrown z2
          have k_z3 := cell_regrown z3
          have k_z4 := cell_regrown z4
          have k_z5 := cell_regrown z5
          have k_z6 := cell_regrown z6
          have k_z7 := cell_regrown z7
          have k_z8 := cell_regrown z8
          have k_z9 := cell_regrown z9
          have k_z10 := cell_regrown z10
          have c1 := fun d os => Calls.regrown_of (w := X) (d := d) (os := os) (v := .int .i64 wo) (KO.out _)
          clear KO
          refine wp_region_quiet_below (by kernel_rfl) (by kernel_rfl) ?_
          repeat (go_big_quiet_step (with_reducible first | exact c1 _ _))
          refine wpQuiet_nil ?_
          intro Z hw'
          obtain ⟨⟨dq, osq⟩, hw''⟩ := hw'
          have hbb := below_regrown X dq osq
          dsimp only at hw''
          rw [← hw''] at hbb
          have HB4 := Lib.hid (HBX.out.tells hbb)
          have HT4 := Lib.hid (HLT.out.below hbb HLT.out.lt)
          have HR4 := Lib.hid (HLR.out.below hbb HLR.out.lt)
          have HS4 := Lib.hid (HLS.out.below hbb HLS.out.lt)
          clear hbb hw'' k_s0 k_z0 k_z1 k_z2 k_z3 k_z4 k_z5 k_z6 k_z7 k_z8 k_z9 k_z10 c1 s0 z0 z1 z2 z3 z4 z5 z6 z7 z8 z9 z10 HBX HLT HLR HLS HXE
          have y0 : Z.cell? ⟨gs, 0, none⟩ = some (.int .i64 b) := HS4.out.cell 0
          have y1 : Z.cell? ⟨gs, 1, none⟩ = some (.slice (some ⟨gr, 0, none⟩) 1 1) := HS4.out.cell 1
          have KR2 := Lib.hid (KR'.out _ HR4.out)
          clear KR'
          go_wp2_with (fail)
          with_reducible refine KR2.out.mono ?_
          rintro e' w5 ⟨rfl, hb5⟩
          have HB5 := Lib.hid (HB4.out.tells hb5)
          have HT5 := Lib.hid (HT4.out.below hb5 HT4.out.lt)
          have HR5 := Lib.hid (HR4.out.below hb5 HR4.out.lt)
          have HS5 := Lib.hid (HS4.out.below hb5 HS4.out.lt)
          clear hb5 y0 y1 KR2 HB4 HT4 HR4 HS4
          obtain ⟨s0, s1⟩ := HB5.out.cells
          clear s1
          have z0 : w5.cell? ⟨gt, 0, none⟩ = some (.string n) := HT5.out.cell 0
          have z1 : w5.cell? ⟨gt, 1, none⟩ = some (.int .i64 tT) := HT5.out.cell 1
          have z2 : w5.cell? ⟨gt, 2, none⟩ = some (.int .i64 tD) := HT5.out.cell 2
          have z3 : w5.cell? ⟨gt, 3, none⟩ = some (.int .i64 tC) := HT5.out.cell 3
          have z4 : w5.cell? ⟨gt, 4, none⟩ = some (.int .i64 tA) := HT5.out.cell 4
          have z5 : w5.cell? ⟨gt, 5, none⟩ = some (.int .i64 tS) := HT5.out.cell 5
          have z6 : w5.cell? ⟨gt, 6, none⟩ = some (.int .i64 tc) := HT5.out.cell 6
          have z7 : w5.cell? ⟨gt, 7, none⟩ = some (.int .i64 tM) := HT5.out.cell 7
          have z8 : w5.cell? ⟨gt, 8, none⟩ = some (.int .i64 tK) := HT5.out.cell 8
          have z9 : w5.cell? ⟨gt, 9, none⟩ = some (.int .i64 3) := HT5.out.cell 9
          have z10 : w5.cell? ⟨gt, 10, none⟩ = some (.int .i64 tP) := HT5.out.cell 10
          have v0 : w5.cell? ⟨gr, 0, none⟩ = some (.string n) := HR5.out.cell 0
          have v1 : w5.cell? ⟨gr, 1, none⟩ = some (.int .i64 tT) := HR5.out.cell 1
          have v2 : w5.cell? ⟨gr, 2, none⟩ = some (.int .i64 tD) := HR5.out.cell 2
          have v3 : w5.cell? ⟨gr, 3, none⟩ = some (.int .i64 tC) := HR5.out.cell 3
          have v4 : w5.cell? ⟨gr, 4, none⟩ = some (.int .i64 tA) := HR5.out.cell 4
          have v5 : w5.cell? ⟨gr, 5, none⟩ = some (.int .i64 tS) := HR5.out.cell 5
          have v6 : w5.cell? ⟨gr, 6, none⟩ = some (.int .i64 tc) := HR5.out.cell 6
          have v7 : w5.cell? ⟨gr, 7, none⟩ = some (.int .i64 tM) := HR5.out.cell 7
          have v8 : w5.cell? ⟨gr, 8, none⟩ = some (.int .i64 tK) := HR5.out.cell 8
          have v9 : w5.cell? ⟨gr, 9, none⟩ = some (.int .i64 3) := HR5.out.cell 9
          have v10 : w5.cell? ⟨gr, 10, none⟩ = some (.int .i64 tP) := HR5.out.cell 10
          have y0 : w5.cell? ⟨gs, 0, none⟩ = some (.int .i64 b) := HS5.out.cell 0
          have y1 : w5.cell? ⟨gs, 1, none⟩ = some (.slice (some ⟨gr, 0, none⟩) 1 1) := HS5.out.cell 1
          have hq := fun W => eqSelf ⟨n, tT, tD, tC, tA, tS, tc, tM, tK, 3, tP⟩ W
          simp only [aggK] at hq
          go_upto_region 13 with fail
          go_quiet (fail)
          go_wp2
          go_ret
          exact ⟨rfl, below_drewN HB5.out.below _⟩
      · rcases hmode with rfl | rfl | rfl
        · obtain ⟨he, hcl⟩ := HE1.out rfl
          have HEE := Lib.hid he
          clear HE1 HE2 HE3 he
          have KR' : Hid (∀ W, Lies W gr 39 #[.string n, .int .i64 tT, .int .i64 tD, .int .i64 tC, .int .i64 tA, .int .i64 tS, .int .i64 tc, .int .i64 tM, .int .i64 tK, .int .i64 1, .int .i64 tP] → Calls Try.prog 20 #[.agg #[.int .i64 b, .slice (some ⟨gr, 0, none⟩) 1 1], .int .i64 0, .int .i64 1049576] W (Gives (.tuple #[.int .i64 (0), .bool false]) W)) := Lib.hid (fun W hW => by
            have := KR.out W hW
            rw [(hr0 (by omega)).1, (hr0 (by omega)).2] at this
            skip
            exact this)
          have t1 : decide (wo + P ≤ tD) = false := by
            rw [hwant, hcl] at hwD
            simp only [decide_eq_false_iff_not]; omega
          have HX := Lib.hid hcl
          clear KR hwant hcl hr0 hr1 hwD
          have z0 : X.cell? ⟨gt, 0, none⟩ = some (.string n) := HLT.out.cell 0
          have z1 : X.cell? ⟨gt, 1, none⟩ = some (.int .i64 tT) := HLT.out.cell 1
          have z2 : X.cell? ⟨gt, 2, none⟩ = some (.int .i64 tD) := HLT.out.cell 2
          have z3 : X.cell? ⟨gt, 3, none⟩ = some (.int .i64 tC) := HLT.out.cell 3
          have z4 : X.cell? ⟨gt, 4, none⟩ = some (.int .i64 tA) := HLT.out.cell 4
          have z5 : X.cell? ⟨gt, 5, none⟩ = some (.int .i64 tS) := HLT.out.cell 5
          have z6 : X.cell? ⟨gt, 6, none⟩ = some (.int .i64 tc) := HLT.out.cell 6
          have z7 : X.cell? ⟨gt, 7, none⟩ = some (.int .i64 tM) := HLT.out.cell 7
          have z8 : X.cell? ⟨gt, 8, none⟩ = some (.int .i64 tK) := HLT.out.cell 8
          have z9 : X.cell? ⟨gt, 9, none⟩ = some (.int .i64 1) := HLT.out.cell 9
          have z10 : X.cell? ⟨gt, 10, none⟩ = some (.int .i64 tP) := HLT.out.cell 10
          obtain ⟨s0, s1⟩ := HBX.out.cells
          clear s1
          go_upto_region 11 with fail
          rw [show (tS + tc) = e from HEE.out.symm]
          have k_s0 := cell_regrown s0
          have k_z0 := cell_regrown z0
          have k_z1 := cell_regrown z1
          have k_z2 := cell_regrown z2
          have k_z3 := cell_regrown z3
          have k_z4 := cell_regrown z4
          have k_z5 := cell_regrown z5
          have k_z6 := cell_regrown z6
          have k_z7 := cell_regrown z7
          have k_z8 := cell_regrown z8
          have k_z9 := cell_regrown z9
          have k_z10 := cell_regrown z10
          have c1 := fun d os => Calls.regrown_of (w := X) (d := d) (os := os) (v := .int .i64 wo) (KO.out _)
          clear KO
          refine wp_region_quiet_below (by kernel_rfl) (by kernel_rfl) ?_
          repeat (go_big_quiet_step (with_reducible first | exact c1 _ _))
          refine wpQuiet_nil ?_
          intro Z hw'
          obtain ⟨⟨dq, osq⟩, hw''⟩ := hw'
          have hbb := below_regrown X dq osq
          dsimp only at hw''
          rw [← hw''] at hbb
          have HB4 := Lib.hid (HBX.out.tells hbb)
          have HT4 := Lib.hid (HLT.out.below hbb HLT.out.lt)
          have HR4 := Lib.hid (HLR.out.below hbb HLR.out.lt)
          have HS4 := Lib.hid (HLS.out.below hbb HLS.out.lt)
          clear hbb hw'' k_s0 k_z0 k_z1 k_z2 k_z3 k_z4 k_z5 k_z6 k_z7 k_z8 k_z9 k_z10 c1 s0 z0 z1 z2 z3 z4 z5 z6 z7 z8 z9 z10 HBX HLT HLR HLS HXE
          have y0 : Z.cell? ⟨gs, 0, none⟩ = some (.int .i64 b) := HS4.out.cell 0
          have y1 : Z.cell? ⟨gs, 1, none⟩ = some (.slice (some ⟨gr, 0, none⟩) 1 1) := HS4.out.cell 1
          have KR2 := Lib.hid (KR'.out _ HR4.out)
          clear KR'
          go_wp2_with (fail)
          with_reducible refine KR2.out.mono ?_
          rintro e' w5 ⟨rfl, hb5⟩
          have HB5 := Lib.hid (HB4.out.tells hb5)
          have HT5 := Lib.hid (HT4.out.below hb5 HT4.out.lt)
          have HR5 := Lib.hid (HR4.out.below hb5 HR4.out.lt)
          have HS5 := Lib.hid (HS4.out.below hb5 HS4.out.lt)
          clear hb5 y0 y1 KR2 HB4 HT4 HR4 HS4
          obtain ⟨s0, s1⟩ := HB5.out.cells
          clear s1
          have z0 : w5.cell? ⟨gt, 0, none⟩ = some (.string n) := HT5.out.cell 0
          have z1 : w5.cell? ⟨gt, 1, none⟩ = some (.int .i64 tT) := HT5.out.cell 1
          have z2 : w5.cell? ⟨gt, 2, none⟩ = some (.int .i64 tD) := HT5.out.cell 2
          have z3 : w5.cell? ⟨gt, 3, none⟩ = some (.int .i64 tC) := HT5.out.cell 3
          have z4 : w5.cell? ⟨gt, 4, none⟩ = some (.int .i64 tA) := HT5.out.cell 4
          have z5 : w5.cell? ⟨gt, 5, none⟩ = some (.int .i64 tS) := HT5.out.cell 5
          have z6 : w5.cell? ⟨gt, 6, none⟩ = some (.int .i64 tc) := HT5.out.cell 6
          have z7 : w5.cell? ⟨gt, 7, none⟩ = some (.int .i64 tM) := HT5.out.cell 7
          have z8 : w5.cell? ⟨gt, 8, none⟩ = some (.int .i64 tK) := HT5.out.cell 8
          have z9 : w5.cell? ⟨gt, 9, none⟩ = some (.int .i64 1) := HT5.out.cell 9
          have z10 : w5.cell? ⟨gt, 10, none⟩ = some (.int .i64 tP) := HT5.out.cell 10
          have v0 : w5.cell? ⟨gr, 0, none⟩ = some (.string n) := HR5.out.cell 0
          have v1 : w5.cell? ⟨gr, 1, none⟩ = some (.int .i64 tT) := HR5.out.cell 1
          have v2 : w5.cell? ⟨gr, 2, none⟩ = some (.int .i64 tD) := HR5.out.cell 2
          have v3 : w5.cell? ⟨gr, 3, none⟩ = some (.int .i64 tC) := HR5.out.cell 3
          have v4 : w5.cell? ⟨gr, 4, none⟩ = some (.int .i64 tA) := HR5.out.cell 4
          have v5 : w5.cell? ⟨gr, 5, none⟩ = some (.int .i64 tS) := HR5.out.cell 5
          have v6 : w5.cell? ⟨gr, 6, none⟩ = some (.int .i64 tc) := HR5.out.cell 6
          have v7 : w5.cell? ⟨gr, 7, none⟩ = some (.int .i64 tM) := HR5.out.cell 7
          have v8 : w5.cell? ⟨gr, 8, none⟩ = some (.int .i64 tK) := HR5.out.cell 8
          have v9 : w5.cell? ⟨gr, 9, none⟩ = some (.int .i64 1) := HR5.out.cell 9
          have v10 : w5.cell? ⟨gr, 10, none⟩ = some (.int .i64 tP) := HR5.out.cell 10
          have y0 : w5.cell? ⟨gs, 0, none⟩ = some (.int .i64 b) := HS5.out.cell 0
          have y1 : w5.cell? ⟨gs, 1, none⟩ = some (.slice (some ⟨gr, 0, none⟩) 1 1) := HS5.out.cell 1
          have hq := fun W => eqSelf ⟨n, tT, tD, tC, tA, tS, tc, tM, tK, 1, tP⟩ W
          simp only [aggK] at hq
          go_upto_region 13 with fail
          go_quiet (fail)
          go_wp2
          go_ret
          exact ⟨rfl, below_drewN HB5.out.below _⟩
        · obtain ⟨he, hcl⟩ := HE2.out rfl
          have HEE := Lib.hid he
          clear HE1 HE2 HE3 he
          have KR' : Hid (∀ W, Lies W gr 39 #[.string n, .int .i64 tT, .int .i64 tD, .int .i64 tC, .int .i64 tA, .int .i64 tS, .int .i64 tc, .int .i64 tM, .int .i64 tK, .int .i64 2, .int .i64 tP] → Calls Try.prog 20 #[.agg #[.int .i64 b, .slice (some ⟨gr, 0, none⟩) 1 1], .int .i64 0, .int .i64 1049576] W (Gives (.tuple #[.int .i64 (0), .bool false]) W)) := Lib.hid (fun W hW => by
            have := KR.out W hW
            rw [(hr0 (by omega)).1, (hr0 (by omega)).2] at this
            skip
            exact this)
          have t1 : decide (wo + P ≤ tD) = false := by
            rw [hwant, hcl] at hwD
            simp only [decide_eq_false_iff_not]; omega
          have HX := Lib.hid hcl
          clear KR hwant hcl hr0 hr1 hwD
          have z0 : X.cell? ⟨gt, 0, none⟩ = some (.string n) := HLT.out.cell 0
          have z1 : X.cell? ⟨gt, 1, none⟩ = some (.int .i64 tT) := HLT.out.cell 1
          have z2 : X.cell? ⟨gt, 2, none⟩ = some (.int .i64 tD) := HLT.out.cell 2
          have z3 : X.cell? ⟨gt, 3, none⟩ = some (.int .i64 tC) := HLT.out.cell 3
          have z4 : X.cell? ⟨gt, 4, none⟩ = some (.int .i64 tA) := HLT.out.cell 4
          have z5 : X.cell? ⟨gt, 5, none⟩ = some (.int .i64 tS) := HLT.out.cell 5
          have z6 : X.cell? ⟨gt, 6, none⟩ = some (.int .i64 tc) := HLT.out.cell 6
          have z7 : X.cell? ⟨gt, 7, none⟩ = some (.int .i64 tM) := HLT.out.cell 7
          have z8 : X.cell? ⟨gt, 8, none⟩ = some (.int .i64 tK) := HLT.out.cell 8
          have z9 : X.cell? ⟨gt, 9, none⟩ = some (.int .i64 2) := HLT.out.cell 9
          have z10 : X.cell? ⟨gt, 10, none⟩ = some (.int .i64 tP) := HLT.out.cell 10
          obtain ⟨s0, s1⟩ := HBX.out.cells
          clear s1
          go_upto_region 11 with fail
          rw [show (tA + tc) = e from HEE.out.symm]
          have k_s0 := cell_regrown s0
          have k_z0 := cell_regrown z0
          have k_z1 := cell_regrown z1
          have k_z2 := cell_regrown z2
          have k_z3 := cell_regrown z3
          have k_z4 := cell_regrown z4
          have k_z5 := cell_regrown z5
          have k_z6 := cell_regrown z6
          have k_z7 := cell_regrown z7
          have k_z8 := cell_regrown z8
          have k_z9 := cell_regrown z9
          have k_z10 := cell_regrown z10
          have c1 := fun d os => Calls.regrown_of (w := X) (d := d) (os := os) (v := .int .i64 wo) (KO.out _)
          clear KO
          refine wp_region_quiet_below (by kernel_rfl) (by kernel_rfl) ?_
          repeat (go_big_quiet_step (with_reducible first | exact c1 _ _))
          refine wpQuiet_nil ?_
          intro Z hw'
          obtain ⟨⟨dq, osq⟩, hw''⟩ := hw'
          have hbb := below_regrown X dq osq
          dsimp only at hw''
          rw [← hw''] at hbb
          have HB4 := Lib.hid (HBX.out.tells hbb)
          have HT4 := Lib.hid (HLT.out.below hbb HLT.out.lt)
          have HR4 := Lib.hid (HLR.out.below hbb HLR.out.lt)
          have HS4 := Lib.hid (HLS.out.below hbb HLS.out.lt)
          clear hbb hw'' k_s0 k_z0 k_z1 k_z2 k_z3 k_z4 k_z5 k_z6 k_z7 k_z8 k_z9 k_z10 c1 s0 z0 z1 z2 z3 z4 z5 z6 z7 z8 z9 z10 HBX HLT HLR HLS HXE
          have y0 : Z.cell? ⟨gs, 0, none⟩ = some (.int .i64 b) := HS4.out.cell 0
          have y1 : Z.cell? ⟨gs, 1, none⟩ = some (.slice (some ⟨gr, 0, none⟩) 1 1) := HS4.out.cell 1
          have KR2 := Lib.hid (KR'.out _ HR4.out)
          clear KR'
          go_wp2_with (fail)
          with_reducible refine KR2.out.mono ?_
          rintro e' w5 ⟨rfl, hb5⟩
          have HB5 := Lib.hid (HB4.out.tells hb5)
          have HT5 := Lib.hid (HT4.out.below hb5 HT4.out.lt)
          have HR5 := Lib.hid (HR4.out.below hb5 HR4.out.lt)
          have HS5 := Lib.hid (HS4.out.below hb5 HS4.out.lt)
          clear hb5 y0 y1 KR2 HB4 HT4 HR4 HS4
          obtain ⟨s0, s1⟩ := HB5.out.cells
          clear s1
          have z0 : w5.cell? ⟨gt, 0, none⟩ = some (.string n) := HT5.out.cell 0
          have z1 : w5.cell? ⟨gt, 1, none⟩ = some (.int .i64 tT) := HT5.out.cell 1
          have z2 : w5.cell? ⟨gt, 2, none⟩ = some (.int .i64 tD) := HT5.out.cell 2
          have z3 : w5.cell? ⟨gt, 3, none⟩ = some (.int .i64 tC) := HT5.out.cell 3
          have z4 : w5.cell? ⟨gt, 4, none⟩ = some (.int .i64 tA) := HT5.out.cell 4
          have z5 : w5.cell? ⟨gt, 5, none⟩ = some (.int .i64 tS) := HT5.out.cell 5
          have z6 : w5.cell? ⟨gt, 6, none⟩ = some (.int .i64 tc) := HT5.out.cell 6
          have z7 : w5.cell? ⟨gt, 7, none⟩ = some (.int .i64 tM) := HT5.out.cell 7
          have z8 : w5.cell? ⟨gt, 8, none⟩ = some (.int .i64 tK) := HT5.out.cell 8
          have z9 : w5.cell? ⟨gt, 9, none⟩ = some (.int .i64 2) := HT5.out.cell 9
          have z10 : w5.cell? ⟨gt, 10, none⟩ = some (.int .i64 tP) := HT5.out.cell 10
          have v0 : w5.cell? ⟨gr, 0, none⟩ = some (.string n) := HR5.out.cell 0
          have v1 : w5.cell? ⟨gr, 1, none⟩ = some (.int .i64 tT) := HR5.out.cell 1
          have v2 : w5.cell? ⟨gr, 2, none⟩ = some (.int .i64 tD) := HR5.out.cell 2
          have v3 : w5.cell? ⟨gr, 3, none⟩ = some (.int .i64 tC) := HR5.out.cell 3
          have v4 : w5.cell? ⟨gr, 4, none⟩ = some (.int .i64 tA) := HR5.out.cell 4
          have v5 : w5.cell? ⟨gr, 5, none⟩ = some (.int .i64 tS) := HR5.out.cell 5
          have v6 : w5.cell? ⟨gr, 6, none⟩ = some (.int .i64 tc) := HR5.out.cell 6
          have v7 : w5.cell? ⟨gr, 7, none⟩ = some (.int .i64 tM) := HR5.out.cell 7
          have v8 : w5.cell? ⟨gr, 8, none⟩ = some (.int .i64 tK) := HR5.out.cell 8
          have v9 : w5.cell? ⟨gr, 9, none⟩ = some (.int .i64 2) := HR5.out.cell 9
          have v10 : w5.cell? ⟨gr, 10, none⟩ = some (.int .i64 tP) := HR5.out.cell 10
          have y0 : w5.cell? ⟨gs, 0, none⟩ = some (.int .i64 b) := HS5.out.cell 0
          have y1 : w5.cell? ⟨gs, 1, none⟩ = some (.slice (some ⟨gr, 0, none⟩) 1 1) := HS5.out.cell 1
          have hq := fun W => eqSelf ⟨n, tT, tD, tC, tA, tS, tc, tM, tK, 2, tP⟩ W
          simp only [aggK] at hq
          go_upto_region 13 with fail
          go_quiet (fail)
          go_wp2
          go_ret
          exact ⟨rfl, below_drewN HB5.out.below _⟩
        · obtain ⟨he, hcl⟩ := HE3.out rfl
          have HEE := Lib.hid he
          clear HE1 HE2 HE3 he
          have KR' : Hid (∀ W, Lies W gr 39 #[.string n, .int .i64 tT, .int .i64 tD, .int .i64 tC, .int .i64 tA, .int .i64 tS, .int .i64 tc, .int .i64 tM, .int .i64 tK, .int .i64 3, .int .i64 tP] → Calls Try.prog 20 #[.agg #[.int .i64 b, .slice (some ⟨gr, 0, none⟩) 1 1], .int .i64 0, .int .i64 1049576] W (Gives (.tuple #[.int .i64 (0), .bool false]) W)) := Lib.hid (fun W hW => by
            have := KR.out W hW
            rw [(hr0 (by omega)).1, (hr0 (by omega)).2] at this
            skip
            exact this)
          have t1 : decide (wo + e + P ≤ tD) = false := by
            rw [hwant, hcl] at hwD
            simp only [decide_eq_false_iff_not]; omega
          have HX := Lib.hid hcl
          clear KR hwant hcl hr0 hr1 hwD
          have z0 : X.cell? ⟨gt, 0, none⟩ = some (.string n) := HLT.out.cell 0
          have z1 : X.cell? ⟨gt, 1, none⟩ = some (.int .i64 tT) := HLT.out.cell 1
          have z2 : X.cell? ⟨gt, 2, none⟩ = some (.int .i64 tD) := HLT.out.cell 2
          have z3 : X.cell? ⟨gt, 3, none⟩ = some (.int .i64 tC) := HLT.out.cell 3
          have z4 : X.cell? ⟨gt, 4, none⟩ = some (.int .i64 tA) := HLT.out.cell 4
          have z5 : X.cell? ⟨gt, 5, none⟩ = some (.int .i64 tS) := HLT.out.cell 5
          have z6 : X.cell? ⟨gt, 6, none⟩ = some (.int .i64 tc) := HLT.out.cell 6
          have z7 : X.cell? ⟨gt, 7, none⟩ = some (.int .i64 tM) := HLT.out.cell 7
          have z8 : X.cell? ⟨gt, 8, none⟩ = some (.int .i64 tK) := HLT.out.cell 8
          have z9 : X.cell? ⟨gt, 9, none⟩ = some (.int .i64 3) := HLT.out.cell 9
          have z10 : X.cell? ⟨gt, 10, none⟩ = some (.int .i64 tP) := HLT.out.cell 10
          obtain ⟨s0, s1⟩ := HBX.out.cells
          clear s1
          go_upto_region 11 with fail
          rw [show (tA + tc) = e from HEE.out.symm]
          have k_s0 := cell_regrown s0
          have k_z0 := cell_regrown z0
          have k_z1 := cell_regrown z1
          have k_z2 := cell_regrown z2
          have k_z3 := cell_regrown z3
          have k_z4 := cell_regrown z4
          have k_z5 := cell_regrown z5
          have k_z6 := cell_regrown z6
          have k_z7 := cell_regrown z7
          have k_z8 := cell_regrown z8
          have k_z9 := cell_regrown z9
          have k_z10 := cell_regrown z10
          have c1 := fun d os => Calls.regrown_of (w := X) (d := d) (os := os) (v := .int .i64 wo) (KO.out _)
          clear KO
          refine wp_region_quiet_below (by kernel_rfl) (by kernel_rfl) ?_
          repeat (go_big_quiet_step (with_reducible first | exact c1 _ _))
          refine wpQuiet_nil ?_
          intro Z hw'
          obtain ⟨⟨dq, osq⟩, hw''⟩ := hw'
          have hbb := below_regrown X dq osq
          dsimp only at hw''
          rw [← hw''] at hbb
          have HB4 := Lib.hid (HBX.out.tells hbb)
          have HT4 := Lib.hid (HLT.out.below hbb HLT.out.lt)
          have HR4 := Lib.hid (HLR.out.below hbb HLR.out.lt)
          have HS4 := Lib.hid (HLS.out.below hbb HLS.out.lt)
          clear hbb hw'' k_s0 k_z0 k_z1 k_z2 k_z3 k_z4 k_z5 k_z6 k_z7 k_z8 k_z9 k_z10 c1 s0 z0 z1 z2 z3 z4 z5 z6 z7 z8 z9 z10 HBX HLT HLR HLS HXE
          have y0 : Z.cell? ⟨gs, 0, none⟩ = some (.int .i64 b) := HS4.out.cell 0
          have y1 : Z.cell? ⟨gs, 1, none⟩ = some (.slice (some ⟨gr, 0, none⟩) 1 1) := HS4.out.cell 1
          have KR2 := Lib.hid (KR'.out _ HR4.out)
          clear KR'
          go_wp2_with (fail)
          with_reducible refine KR2.out.mono ?_
          rintro e' w5 ⟨rfl, hb5⟩
          have HB5 := Lib.hid (HB4.out.tells hb5)
          have HT5 := Lib.hid (HT4.out.below hb5 HT4.out.lt)
          have HR5 := Lib.hid (HR4.out.below hb5 HR4.out.lt)
          have HS5 := Lib.hid (HS4.out.below hb5 HS4.out.lt)
          clear hb5 y0 y1 KR2 HB4 HT4 HR4 HS4
          obtain ⟨s0, s1⟩ := HB5.out.cells
          clear s1
          have z0 : w5.cell? ⟨gt, 0, none⟩ = some (.string n) := HT5.out.cell 0
          have z1 : w5.cell? ⟨gt, 1, none⟩ = some (.int .i64 tT) := HT5.out.cell 1
          have z2 : w5.cell? ⟨gt, 2, none⟩ = some (.int .i64 tD) := HT5.out.cell 2
          have z3 : w5.cell? ⟨gt, 3, none⟩ = some (.int .i64 tC) := HT5.out.cell 3
          have z4 : w5.cell? ⟨gt, 4, none⟩ = some (.int .i64 tA) := HT5.out.cell 4
          have z5 : w5.cell? ⟨gt, 5, none⟩ = some (.int .i64 tS) := HT5.out.cell 5
          have z6 : w5.cell? ⟨gt, 6, none⟩ = some (.int .i64 tc) := HT5.out.cell 6
          have z7 : w5.cell? ⟨gt, 7, none⟩ = some (.int .i64 tM) := HT5.out.cell 7
          have z8 : w5.cell? ⟨gt, 8, none⟩ = some (.int .i64 tK) := HT5.out.cell 8
          have z9 : w5.cell? ⟨gt, 9, none⟩ = some (.int .i64 3) := HT5.out.cell 9
          have z10 : w5.cell? ⟨gt, 10, none⟩ = some (.int .i64 tP) := HT5.out.cell 10
          have v0 : w5.cell? ⟨gr, 0, none⟩ = some (.string n) := HR5.out.cell 0
          have v1 : w5.cell? ⟨gr, 1, none⟩ = some (.int .i64 tT) := HR5.out.cell 1
          have v2 : w5.cell? ⟨gr, 2, none⟩ = some (.int .i64 tD) := HR5.out.cell 2
          have v3 : w5.cell? ⟨gr, 3, none⟩ = some (.int .i64 tC) := HR5.out.cell 3
          have v4 : w5.cell? ⟨gr, 4, none⟩ = some (.int .i64 tA) := HR5.out.cell 4
          have v5 : w5.cell? ⟨gr, 5, none⟩ = some (.int .i64 tS) := HR5.out.cell 5
          have v6 : w5.cell? ⟨gr, 6, none⟩ = some (.int .i64 tc) := HR5.out.cell 6
          have v7 : w5.cell? ⟨gr, 7, none⟩ = some (.int .i64 tM) := HR5.out.cell 7
          have v8 : w5.cell? ⟨gr, 8, none⟩ = some (.int .i64 tK) := HR5.out.cell 8
          have v9 : w5.cell? ⟨gr, 9, none⟩ = some (.int .i64 3) := HR5.out.cell 9
          have v10 : w5.cell? ⟨gr, 10, none⟩ = some (.int .i64 tP) := HR5.out.cell 10
          have y0 : w5.cell? ⟨gs, 0, none⟩ = some (.int .i64 b) := HS5.out.cell 0
          have y1 : w5.cell? ⟨gs, 1, none⟩ = some (.slice (some ⟨gr, 0, none⟩) 1 1) := HS5.out.cell 1
          have hq := fun W => eqSelf ⟨n, tT, tD, tC, tA, tS, tc, tM, tK, 3, tP⟩ W
          simp only [aggK] at hq
          go_upto_region 13 with fail
          go_quiet (fail)
          go_wp2
          go_ret
          exact ⟨rfl, below_drewN HB5.out.below _⟩
end Go.Proofs.Ytcibkapfekbhoaa
