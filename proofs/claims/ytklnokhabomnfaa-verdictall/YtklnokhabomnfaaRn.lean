/- The statements' own: what the recurrence makes of a time. -/
import Derived.Test.YtklnokhabomnfaaRf
import Derived.Test.YtklnokhabomnfaaRs
namespace Go.Proofs.Ytklnokhabomnfaa
open Go.RowKit

def RNRel (b OP x p : Int) (l : List Tk) (a : Option Addr) (cap : Nat) (w : World) (n i : Value) (W : World) : Prop :=
  ∃ k : Nat, k ≤ l.length ∧ i = .int .i64 (k : Int) ∧ n = .int .i64 (OP + sumA x (abL p (l.take k))) ∧ SetBox w b a l.length cap W
set_option maxRecDepth 100000 in
set_option maxHeartbeats 8000000 in
theorem refNext (b g x : Int) {l : List Tk} {a : Option Addr} {cap k : Nat} {o : Tk} {w : World} (hl : l.length ≤ 20) (hf : ∀ t ∈ l, Fine t) (ht : Tasks w a cap l) (ho : l[k]? = some o) (hd : Dist l) (b0 : 1 ≤ b) (b1 : b ≤ 1000) (g0 : 1 ≤ g) (g1 : g ≤ 1049576) (x0 : 0 ≤ x) (x1 : x ≤ 1048576) :
    Calls Try.prog 33 #[.agg #[.int .i64 b, .slice a l.length cap], .int .i64 (k : Int), .int .i64 g, .int .i64 x] w (Gives (.int .i64 (nextV b l o g x)) w) := by
  have hk := (List.getElem?_eq_some_iff.1 ho).1
  have HT := Lib.hid ht
  have HF := Lib.hid hf
  have HO := Lib.hid ho
  have HB := Lib.hid (SetBox.made w b a l.length cap)
  have q1 : (0 : Int) ≤ (k : Int) := by omega
  have q2 : (k : Int) < (l.length : Int) := by omega
  have hfo := hf o (List.mem_of_getElem? ho)
  have hwn := whole_nums hfo
  have hcn := hfo.nums.1
  have hav := maxE_range (q := aheadQ o.Prio) hf
  have hdv := maxE_range (q := dearQ o.Prio) hf
  have hmv := most_range x0 x1 b0 b1 g0
  have HSA := Lib.hid (fun j => sumA_range x0 x1 (abL_small (p := o.Prio) (fine_take (k := j) hf)))
  have HLA := Lib.hid (fun j => abL_len o.Prio (l.take j))
  have KW := Lib.hid (fun W => refWhole hfo W)
  have KA := Lib.hid (fun W (hb : Below w.heap.size w W) => refAhead b (w := W) (by omega) hf (HT.out.below (Nat.le_refl _) hb) ho hd)
  have KD := Lib.hid (fun W (hb : Below w.heap.size w W) => refDear b (w := W) (by omega) hf (HT.out.below (Nat.le_refl _) hb) ho hd)
  have KM := Lib.hid (fun W => refMost x b g W x0 (by omega) b0 b1 g0 g1)
  have HV := Lib.hid (show nextV b l o g x = wholeV o + maxE (aheadQ o.Prio) l + mostF x b g * (b * maxE (dearQ o.Prio) l) + sumA x (abL o.Prio l) from rfl)
  rw [HV.out]
  clear ht hf ho hd hfo HV
  generalize wholeV o = wv at *
  generalize maxE (aheadQ o.Prio) l = av at *
  generalize maxE (dearQ o.Prio) l = dv at *
  generalize mostF x b g = m at *
  rw [← Int.mul_assoc]
  have p0 : 0 ≤ m * b := Int.mul_nonneg hmv.1 (by omega)
  have p1 : m * b ≤ 1049576000 := by have := Int.mul_le_mul hmv.2 b1 (by omega) (by omega); omega
  have p2 : 0 ≤ m * b * dv := Int.mul_nonneg p0 hdv.1
  have p3 : m * b * dv ≤ 1101609779776000 := by have := Int.mul_le_mul p1 hdv.2 hdv.1 (by omega); omega
  obtain ⟨P1, hP1⟩ : ∃ P1, P1 = m * b := ⟨_, rfl⟩
  rw [← hP1] at p0 p1 p2 p3 ⊢
  obtain ⟨P2, hP2⟩ : ∃ P2, P2 = P1 * dv := ⟨_, rfl⟩
  rw [← hP2] at p2 p3 ⊢
  have h1 : IntKind.i64.wrap (m * b) = P1 := by rw [← hP1]; exact IntWalk.i64_in _ ⟨by omega, by omega⟩
  have h2 : IntKind.i64.wrap (P1 * dv) = P2 := by rw [← hP2]; exact IntWalk.i64_in _ ⟨by omega, by omega⟩
  clear hP1 hP2
  go_enter Try.func33, Try.ntmps33
  go_upto_region 1 with fail
  obtain ⟨X, hX⟩ : ∃ X, X = w.alloc (.cells #[.int .i64 b, .slice a l.length cap] 24) := ⟨_, rfl⟩
  rw [← hX] at HB ⊢
  clear hX
  have HTX := Lib.hid (HT.out.below (Nat.le_refl _) HB.out.below)
  obtain ⟨s0, s1⟩ := HB.out.cells
  obtain ⟨bb, off, rfl, hbl, y0, y1, y2, y3, y4, y5, y6, y7, y8, y9, y10⟩ := HTX.out.cells HO.out
  have k_s0 := cell_regrown s0
  have k_s1 := cell_regrown s1
  have k_y0 := cell_regrown y0
  have k_y1 := cell_regrown y1
  have k_y2 := cell_regrown y2
  have k_y3 := cell_regrown y3
  have k_y4 := cell_regrown y4
  have k_y5 := cell_regrown y5
  have k_y6 := cell_regrown y6
  have k_y7 := cell_regrown y7
  have k_y8 := cell_regrown y8
  have k_y9 := cell_regrown y9
  have k_y10 := cell_regrown y10
  simp only [aggK] at KW
  have cW := fun d os => Calls.regrown_of (w := X) (d := d) (os := os) (v := .int .i64 wv) (KW.out _)
  have cA := fun d os => Calls.regrown_of (w := X) (d := d) (os := os) (v := .int .i64 av) (KA.out _ (HB.out.tells (below_regrown X d os)).below)
  have cD := fun d os => Calls.regrown_of (w := X) (d := d) (os := os) (v := .int .i64 dv) (KD.out _ (HB.out.tells (below_regrown X d os)).below)
  have cM := fun d os => Calls.regrown_of (w := X) (d := d) (os := os) (v := .int .i64 m) ((KM.out _).mono fun _ _ h => h.gives)
  refine wp_region_quiet_below (by kernel_rfl) (by kernel_rfl) ?_
  repeat (go_big_quiet_step (with_reducible first | exact cW _ _ | exact cA _ _ | exact cM _ _ | exact cD _ _))
  refine wpQuiet_nil ?_
  intro Y hw'
  obtain ⟨⟨dq, osq⟩, hw''⟩ := hw'
  have hbb := below_regrown X dq osq
  dsimp only at hw''
  rw [← hw''] at hbb
  have HB1 := Lib.hid (HB.out.tells hbb)
  clear hbb hw'' k_s0 k_s1 k_y0 k_y1 k_y2 k_y3 k_y4 k_y5 k_y6 k_y7 k_y8 k_y9 k_y10 cW cA cD cM y0 y1 y2 y3 y4 y5 y6 y7 y8 y9 y10 s0 s1 KW KA KD KM HTX h1 h2 hbl
  go_wp2
  go_loopw [9, 10] (fun n i W => RNRel b (wv + av + P2) x o.Prio l (some ⟨bb, off, none⟩) cap w n i W) (fun _ i _ => l.length - (intOf i).toNat)
  case atStart => exact ⟨0, by omega, rfl, by simp [abL, sumA], HB1.out⟩
  case round =>
    obtain ⟨j, hj, rfl, rfl, hs⟩ := hrel
    have HS := Lib.hid hs
    clear hs
    obtain ⟨s0, s1⟩ := HS.out.cells
    by_cases hlt : j < l.length
    · have t1 : decide ((j : Int) < (l.length : Int)) = true := by simp; omega
      have hx : l[j]? = some l[j] := List.getElem?_eq_getElem hlt
      have HTW := Lib.hid (HT.out.below (Nat.le_refl _) HS.out.below)
      obtain ⟨_, _, e1, hbl, z0, z1, z2, z3, z4, z5, z6, z7, z8, z9, z10⟩ := HTW.out.cells hx
      cases e1
      have hfx := HF.out _ (List.getElem_mem hlt)
      have HX := abL_next (p := o.Prio) hx
      have KW := Lib.hid (fun W => refWhole hfx W)
      have n1 := whole_nums hfx
      have n2 := hfx.nums
      have q3 : (0 : Int) ≤ (j : Int) := by omega
      have q4 : (j : Int) < (l.length : Int) := by omega
      have r1 := HSA.out j
      have r2 := HLA.out j
      rw [List.length_take] at r2
      clear hfx hx
      generalize l[j] = t at *
      simp only [aggK] at KW
      go_upto_region 6 with fail
      obtain ⟨Y, hY⟩ : ∃ Y, Y = wr.alloc (.cells (boxT t) 39) := ⟨_, rfl⟩
      have HBX := Lib.hid (Lies.made wr 39 (boxT t))
      have HSY := Lib.hid (HS.out.tells (below_new wr (.cells (boxT t) 39)))
      have HTY := Lib.hid (HTW.out.below (Nat.le_refl _) (below_new wr (.cells (boxT t) 39)))
      rw [← hY] at HBX HSY HTY
      simp only [boxT] at hY
      rw [← hY]
      clear hY z0 z1 z2 z3 z4 z5 z6 z7 z8 z9 z10 HS HTW hbl s0 s1
      generalize wr.heap.size = bx at *
      obtain ⟨_, _, e1, hbo, o0, o1, o2, o3, o4, o5, o6, o7, o8, o9, o10⟩ := HTY.out.cells HO.out
      cases e1
      clear o0 o1 o2 o3 o4 o5 o6 o7 o8 o9
      obtain ⟨s0, s1⟩ := HSY.out.cells
      obtain ⟨y0, y1, y2, y3, y4, y5, y6, y7, y8, y9, y10⟩ := lies_cells HBX.out
      by_cases hp : t.Prio < o.Prio
      · have t3 : decide (t.Prio < o.Prio) = true := decide_eq_true hp
        rw [if_pos hp] at HX
        clear hp
        go_quiet (fail)
        go_upto_region 7 with fail
        have HBZ := Lib.hid (HBX.out.drewN nq)
        have HSZ := Lib.hid (HSY.out.drewN nq)
        generalize Y.drewN nq = Z at HBZ HSZ ⊢
        clear y0 y1 y2 y3 y4 y5 y6 y7 y8 y9 y10 s0 s1 o10 HBX HSY HTY hbo
        obtain ⟨y0, y1, y2, y3, y4, y5, y6, y7, y8, y9, y10⟩ := lies_cells HBZ.out
        have k_y0 := cell_regrown y0
        have k_y1 := cell_regrown y1
        have k_y2 := cell_regrown y2
        have k_y3 := cell_regrown y3
        have k_y4 := cell_regrown y4
        have k_y5 := cell_regrown y5
        have k_y6 := cell_regrown y6
        have k_y7 := cell_regrown y7
        have k_y8 := cell_regrown y8
        have k_y9 := cell_regrown y9
        have k_y10 := cell_regrown y10
        generalize wholeV t = wt at *
        have td : (x + t.T - 1).tdiv t.T = (x + t.T - 1) / t.T := Int.tdiv_eq_ediv_of_nonneg (by omega)
        have t2 : (t.T == 0) = false := by simp; omega
        have c1 := ceil_range (w := x) (T := t.T) x0 n2.2.2.2.2.1
        have c2 := term_range (w := x) (W := wt) (T := t.T) x0 x1 (by omega) n1.2 n2.2.2.2.2.1
        have HX2 := sumA_snoc x (abL o.Prio (l.take j)) (wt, t.T)
        rw [← HX] at HX2
        clear HX
        simp only at HX2
        generalize sumA x (abL o.Prio (l.take j)) = sv at *
        generalize (x + t.T - 1) / t.T = cv at *
        obtain ⟨P3, hP3⟩ : ∃ P3, P3 = cv * wt := ⟨_, rfl⟩
        rw [← hP3] at c2 HX2
        have h3 : IntKind.i64.wrap (cv * wt) = P3 := by rw [← hP3]; exact IntWalk.i64_in _ ⟨by omega, by omega⟩
        have h5 : IntKind.i64.wrap (wv + av + P2 + sv + P3) = wv + av + P2 + sv + P3 := IntWalk.i64_in _ ⟨by omega, by omega⟩
        clear hP3
        have cW := fun d os => Calls.regrown_of (w := Z) (d := d) (os := os) (v := .int .i64 wt) (KW.out _)
        refine wp_region_quiet_below (by kernel_rfl) (by kernel_rfl) ?_
        repeat (go_big_quiet_step (with_reducible first | exact cW _ _))
        refine wpQuiet_nil ?_
        intro Z2 hw'
        obtain ⟨⟨dq, osq⟩, hw''⟩ := hw'
        have hbb := below_regrown Z dq osq
        dsimp only at hw''
        rw [← hw''] at hbb
        have HS2 := Lib.hid (HSZ.out.tells hbb)
        clear hbb hw'' k_y0 k_y1 k_y2 k_y3 k_y4 k_y5 k_y6 k_y7 k_y8 k_y9 k_y10 cW y0 y1 y2 y3 y4 y5 y6 y7 y8 y9 y10
        go_wp2
        go_roundw
        case rel => exact ⟨j + 1, by omega, by go_num, by rw [HX2]; congr 1; omega, HS2.out⟩
        case measure => simp [intOf]; omega
      · have t3 : decide (t.Prio < o.Prio) = false := decide_eq_false hp
        rw [if_neg hp, List.append_nil] at HX
        clear hp
        go_quiet (fail)
        go_wp2
        go_roundw
        case rel => exact ⟨j + 1, by omega, by go_num, by rw [HX], HSY.out.drewN _⟩
        case measure => simp [intOf]; omega
    · have t1 : decide ((j : Int) < (l.length : Int)) = false := by simp; omega
      obtain rfl : j = l.length := by omega
      rw [List.take_length]
      generalize sumA x (abL o.Prio l) = sv at *
      go_wp2
      go_ret
      exact ⟨rfl, HS.out.below⟩
end Go.Proofs.Ytklnokhabomnfaa
