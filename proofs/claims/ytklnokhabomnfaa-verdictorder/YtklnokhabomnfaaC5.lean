/- The walk of the statement on the order of places. -/
import Derived.Test.YtklnokhabomnfaaAw
import Derived.Test.YtklnokhabomnfaaVk
import Derived.Test.YtklnokhabomnfaaVt
import Derived.Test.YtklnokhabomnfaaRx
import Derived.Deep.RegionHeld3
import Derived.Deep.DeepCutAuto
namespace Go.Proofs.Ytklnokhabomnfaa
open Go.RowKit

theorem Tasks.drop {w : World} {bb off cap k : Nat} {l : List Tk} (h : Tasks w (some ⟨bb, off, none⟩) cap l) (hk : k ≤ l.length) : Tasks w (some ⟨bb, off + k * 11, none⟩) (cap - k) (l.drop k) := by
  refine ⟨by rw [List.length_drop]; have := h.le; omega, fun h0 => ?_⟩
  rw [List.length_drop] at h0
  obtain ⟨b', o', e, hlt, hc⟩ := h.form (by omega)
  cases e
  refine ⟨bb, off + k * 11, rfl, hlt, fun i t hi j v hj => ?_⟩
  rw [List.getElem?_drop] at hi
  have := hc (k + i) t hi j v hj
  rw [show off + k * 11 + i * 11 + j = off + (k + i) * 11 + j by omega]
  exact this
def OrdRel (n : Nat) (X : World) (i : Value) (W : World) : Prop := ∃ k q : Nat, k ≤ n ∧ i = .int .i64 (k : Int) ∧ W = X.drewN q
set_option maxRecDepth 100000 in
set_option maxHeartbeats 16000000 in
theorem coreOrder (b : Int) (l : List Tk) (a : Option Addr) (cap : Nat) (g tv : Int) (g0 : 0 ≤ g) (g1 : g ≤ 4294967295) (tv0 : 0 ≤ tv) (tv1 : tv ≤ 255) {w : World} (hm : l.length ≤ maxLen) (ht : Tasks w a cap l) :
    Calls Try.prog 7 #[.agg #[.int .i64 b, .slice a l.length cap], .int .u32 g, .int .u8 tv] w (Woke w) := by
  have KA := Lib.hid (fun W => awake W)
  have HT := Lib.hid ht
  have HB0 := Lib.hid (SetBox.made w b a l.length cap)
  clear ht
  go_enter Try.func7, Try.ntmps7
  go_wp2_with (fail)
  with_reducible refine (KA.out _).mono ?_
  rintro e w1 ⟨rfl, hb1⟩
  have HB1 := Lib.hid (HB0.out.tells hb1)
  have KF := Lib.hid (small b l a cap hm (HT.out.below (Nat.le_refl _) HB1.out.below))
  clear hb1 HB0
  obtain ⟨s0, s1⟩ := HB1.out.cells
  go_wp2_with (fail)
  with_reducible refine KF.out.mono ?_
  rintro e w2 ⟨r, rfl, hb2, hf⟩
  have HB2 := Lib.hid (HB1.out.tells hb2)
  have KR := Lib.hid (refRight b l a cap hm (HT.out.below (Nat.le_refl _) HB2.out.below))
  clear hb2 s0 s1 HB1 KF
  obtain ⟨s0, s1⟩ := HB2.out.cells
  cases r
  · clear hf
    go_wp2_with (fail)
    with_reducible refine (KA.out _).mono ?_
    rintro e w9 ⟨rfl, hb9⟩
    have HB9 := Lib.hid (HB2.out.tells hb9)
    clear hb9
    go_wp2
    go_ret
    exact ⟨rfl, HB9.out.below⟩
  · have HF := Lib.hid (hf rfl)
    clear hf
    have hG : ((whyF b l).1 == 0) = true → (whyF b l).1 = 0 := fun h => eq_of_beq h
    generalize ((whyF b l).1 == 0) = rr at KR hG
    go_wp2_with (fail)
    with_reducible refine KR.out.mono ?_
    rintro e w3 ⟨rfl, hb3⟩
    have HB3 := Lib.hid (HB2.out.tells hb3)
    clear hb3 s0 s1 HB2 KR
    obtain ⟨s0, s1⟩ := HB3.out.cells
    cases rr
    · clear hG
      go_wp2_with (fail)
      with_reducible refine (KA.out _).mono ?_
      rintro e w9 ⟨rfl, hb9⟩
      have HB9 := Lib.hid (HB3.out.tells hb9)
      clear hb9
      go_wp2
      go_ret
      exact ⟨rfl, HB9.out.below⟩
    · have HRR := Lib.hid (hG rfl)
      have HG := Lib.hid (good_of HRR.out)
      clear hG
      obtain ⟨gp0, gp1⟩ := gap_of g
      have KG := Lib.hid (fun W => gap g0 g1 W)
      generalize 1 + g % 1049576 = gp at gp0 gp1 KG
      have hn1 := HG.out.n1
      have hn0 := HG.out.n0
      clear KA g0 g1 HF
      have HTX := Lib.hid (HT.out.below (Nat.le_refl _) HB3.out.below)
      obtain ⟨bb, off, rfl, hbl, hcells⟩ := HTX.out.form (by omega)
      clear hcells
      have hle := HT.out.le
      obtain ⟨n, hn⟩ : ∃ n, n = l.length := ⟨_, rfl⟩
      rw [← hn] at hn0 hn1 HB3 s1 hle ⊢
      have HN := Lib.hid hn
      clear hn
      obtain ⟨k, hk, hke⟩ := place_of (i := tv) hn0
      have tm : tv.tmod (n : Int) = (k : Int) := by rw [Int.tmod_eq_emod_of_nonneg tv0, hke]
      have wt : IntKind.i64.wrap tv = tv := IntWalk.i64_in _ ⟨by omega, by omega⟩
      have t1 : ((n : Int) == 0) = false := by simp; omega
      have t2 : (n == 0) = false := by simp; omega
      have h0' : ¬ ((n : Int) = 0) := by omega
      go_upto_region 5 with fail
      clear hke tm wt tv0 tv1
      have q0 : (0 : Int) ≤ (k : Int) := by omega
      have q1 : (k : Int) ≤ (n : Int) := by omega
      have q2 : (k : Int) ≤ (cap : Int) := by omega
      have q3 : k ≤ n := by omega
      have q4 : k ≤ cap := by omega
      have q5 : ¬ (cap = k) := by omega
      have q6 : (cap = k) = False := eq_false q5
      have HL1 : Hid ((l.drop k).length = n - k) := Lib.hid (by rw [List.length_drop, HN.out])
      have HL2 : Hid ((l.take k).length = k) := Lib.hid (by rw [List.length_take]; have := HN.out; omega)
      have HT1 := Lib.hid (HTX.out.drop (k := k) (by have := HN.out; omega))
      have HT2 := Lib.hid (HTX.out.take k)
      obtain ⟨y0, y1⟩ := HB3.out.cells
      have hwl : w.heap.size < w3.heap.size := HB3.out.lies.lt
      generalize w3 = X0 at HB3 HT1 HT2 HTX y0 y1 hwl hbl s0 s1 ⊢
      have KP : Hid (∀ w', Below X0.heap.size X0 w' → w'.cell? ⟨w.heap.size, 0, none⟩ = some (.int .i64 b) ∧ w'.cell? ⟨w.heap.size, 1, none⟩ = some (.slice (some ⟨bb, off, none⟩) n cap)) := Lib.hid (fun w' hw' => by
        have h : ∀ c, c < X0.heap.size → ∀ k, w'.cell? ⟨c, k, none⟩ = X0.cell? ⟨c, k, none⟩ := fun c hc k => hw'.cell (p := ⟨c, k, none⟩) hc
        exact ⟨(h _ hwl _).trans y0, (h _ hwl _).trans y1⟩)
      go_cut [9] (fun s3 wx => SetT X0 b n (l.drop k ++ l.take k) s3 wx)
      case first =>
        go_region_held3 (fun w' => w'.cell? ⟨w.heap.size, 0, none⟩ = some (.int .i64 b) ∧ w'.cell? ⟨w.heap.size, 1, none⟩ = some (.slice (some ⟨bb, off, none⟩) n cap)) (first | (with_reducible exact KP.out _ (below_d1 _ _)) | (with_reducible exact KP.out _ (below_d2 _ _ _)) | (with_reducible exact KP.out _ (hp2.bel)) | (with_reducible exact KP.out _ ((hp2.grows.alloc _).bel)) | (with_reducible exact KP.out _ (hp3.bel)) | (with_reducible exact KP.out _ ((hp3.grows.alloc _).bel)) | (with_reducible exact KP.out _ (hp3.early_below HD.out _ _)) | go_keep) (first | (refine step_append_old (by rfl) (.tmp 37) (.tmp 41) (by rfl) X0 _ 0 (n - k) (cap - k) 0 (n - k) [] (l.drop k) (some ⟨bb, off + k * 11, none⟩) (by rfl) (by rfl) (by first | (with_reducible exact GrowsT.drew (grows_n0 _)) | (with_reducible exact GrowsT.drew ((grows_n0 _).alloc _)) | (with_reducible exact GrowsT.drew (grows_n1 _ _))) HL1.out HT1.out (by omega) (by omega) ?_; intro A2 c2 w4 hp2) | (refine step_append_old (by rfl) (.tmp 42) (.tmp 46) (by rfl) X0 A2 (n - k) k cap c2 (n) ([] ++ (l.drop k)) (l.take k) (some ⟨bb, off, none⟩) (by rfl) (by rfl) (by first | (with_reducible exact hp2.grows) | (with_reducible exact hp2.grows.alloc _)) HL2.out HT2.out (by omega) (by omega) ?_; intro A3 c3 w5 hp3; first | (have hD : VarT X0 w5 (X0.heap.size) A3 := (by ((with_reducible refine PostT.varE hp2 hp3 (Lies.drew ((lies_m0 _ 24 #[.int .i64 0, .slice none 0 0]).alloc _)) (fun h => h) ?_ ?_); exact block_ne (by omega); omega)); have HD := Lib.hid hD; have d0 : w5.cell? ⟨X0.heap.size, 0, none⟩ = some (.int .i64 0) := hD.1.cell 0; have d1 : w5.cell? ⟨X0.heap.size, 1, none⟩ = some (.slice none 0 0) := hD.1.cell 1; have f0 := hD.1.thawed 0; have f1 := hD.1.thawed 1; clear hD) | (have hD : VarT X0 w5 (X0.heap.size + 1) A3 := (by ((with_reducible refine PostT.varE hp2 hp3 (Lies.drew (lies_m1 _ _ 24 #[.int .i64 0, .slice none 0 0])) (fun h => h) ?_ ?_); exact block_ne (by omega); omega)); have HD := Lib.hid hD; have d0 : w5.cell? ⟨X0.heap.size + 1, 0, none⟩ = some (.int .i64 0) := hD.1.cell 0; have d1 : w5.cell? ⟨X0.heap.size + 1, 1, none⟩ = some (.slice none 0 0) := hD.1.cell 1; have f0 := hD.1.thawed 0; have f1 := hD.1.thawed 1; clear hD) | (have hD : VarT X0 w5 (w4.heap.size) A3 := (by ((with_reducible refine PostT.varB hp2 hp3 (lies_m0 _ 24 #[.int .i64 0, .slice none 0 0]) ?_); omega)); have HD := Lib.hid hD; have d0 : w5.cell? ⟨w4.heap.size, 0, none⟩ = some (.int .i64 0) := hD.1.cell 0; have d1 : w5.cell? ⟨w4.heap.size, 1, none⟩ = some (.slice none 0 0) := hD.1.cell 1; have f0 := hD.1.thawed 0; have f1 := hD.1.thawed 1; clear hD) | skip))
        all_goals
          go_wp2
          go_meet
          first | exact hp3.late b | exact hp3.early HD.out b
      obtain ⟨gw, Aw, cw, rfl, hLw, hTw, hBw⟩ := hcut
      have HLW := Lib.hid hLw
      have HTW : Hid (Tasks wc Aw cw (turned k l)) := Lib.hid hTw
      have HBC := Lib.hid (HB3.out.tells hBw)
      clear hLw hTw hBw KP y0 y1 s0 s1 HB3 HTX HT1 HT2 HL1 HL2
      generalize wc = X1 at HLW HTW HBC ⊢
      have hkl : k ≤ l.length := by have := HN.out; omega
      have KJ : Hid (∀ W, Below X1.heap.size X1 W → Calls Try.prog 13 #[.agg #[.int .i64 b, .slice (some ⟨bb, off, none⟩) n cap], .int .i64 gp] W (Judged b gp l W)) := Lib.hid (fun W hb => by
        have := judge b gp (w := W) HRR.out (HT.out.below (Nat.le_refl _) (HBC.out.tells hb).below) gp0 gp1
        rw [← HN.out] at this
        exact this)
      have HLB := Lib.hid HBC.out.lies
      have y0 : X1.cell? ⟨w.heap.size, 0, none⟩ = some (.int .i64 b) := HLB.out.cell 0
      have y1 : X1.cell? ⟨w.heap.size, 1, none⟩ = some (.slice (some ⟨bb, off, none⟩) n cap) := HLB.out.cell 1
      have hbl : w.heap.size < X1.heap.size := HLB.out.lt
      have KP : Hid (∀ w', Below X1.heap.size X1 w' → w'.cell? ⟨w.heap.size, 0, none⟩ = some (.int .i64 b) ∧ w'.cell? ⟨w.heap.size, 1, none⟩ = some (.slice (some ⟨bb, off, none⟩) n cap)) := Lib.hid (fun w' hw' => by
        have h : ∀ c, c < X1.heap.size → ∀ k, w'.cell? ⟨c, k, none⟩ = X1.cell? ⟨c, k, none⟩ := fun c hc k => hw'.cell (p := ⟨c, k, none⟩) hc
        exact ⟨(h _ hbl _).trans y0, (h _ hbl _).trans y1⟩)
      have KJ0 := Lib.hid (KJ.out _ (below_d0 X1))
      have KJ1 := Lib.hid (KJ.out _ (below_d1 X1 (.cells Zvd 29)))
      go_upto_region 6 with fail
      go_cut [10, 11] (fun s3 s4 wx => VdT X1 b gp l l.length s3 s4 wx)
      case first =>
        go_region_held3 (fun w' => w'.cell? ⟨w.heap.size, 0, none⟩ = some (.int .i64 b) ∧ w'.cell? ⟨w.heap.size, 1, none⟩ = some (.slice (some ⟨bb, off, none⟩) n cap)) (first | (with_reducible exact KP.out _ (below_d0 _)) | (with_reducible exact KP.out _ (below_d1 _ _)) | (with_reducible exact KP.out _ HU.out) | (with_reducible exact KP.out _ (HU.out.alloc HU.out.size _)) | (with_reducible exact KP.out _ (early_below (Nat.le_refl _) HU.out _ _ _)) | go_keep) (first | ((with_reducible refine (KG.out _).mono ?_); rintro en u ⟨rfl, rfl⟩) | ((with_reducible refine KJ0.out.mono ?_); rintro en u ⟨ok, late, R, t, rfl, hv, hr, htt, hb⟩; have HU := Lib.hid (late_from hb); have HV := Lib.hid hv; have HR := Lib.hid hr; have ht0 : X1.heap.size ≤ t := htt; clear hv hr htt hb) | ((with_reducible refine KJ1.out.mono ?_); rintro en u ⟨ok, late, R, t, rfl, hv, hr, htt, hb⟩; have HU := Lib.hid (early_from hb); have HL := Lib.hid (early_lies hb); have HV := Lib.hid hv; have HR := Lib.hid hr; have ht0 := (early_ge htt).1; have ht1 := (early_ge htt).2; have d0 : u.cell? ⟨X1.heap.size, 0, none⟩ = some (.bool false) := HL.out.cell 0; have d1 : u.cell? ⟨X1.heap.size, 1, none⟩ = some (.int .i64 0) := HL.out.cell 1; have d2 : u.cell? ⟨X1.heap.size, 2, none⟩ = some (.slice none 0 0) := HL.out.cell 2; have f0 := HL.out.thawed 0; have f1 := HL.out.thawed 1; have f2 := HL.out.thawed 2; clear hv hr htt hb))
        all_goals
          go_wp2
          go_meet
          first | exact VdT.behind HV.out HR.out ht0 HU.out | exact VdT.early HV.out HR.out HL.out (Nat.le_refl _) ht0 ht1 HU.out

      clear KJ0 KJ1 KP y0 y1
      obtain ⟨D, ok, late, R, t, rfl, rfl, hL, hr, hv, hD, htt, hne, hb⟩ := hcut
      rw [← HN.out] at hL
      have HV6 := Lib.hid hL
      have HR6 := Lib.hid hr
      have HD := Lib.hid hv
      have HLR : Hid (R.length = n) := Lib.hid (by rw [HN.out]; exact hv.len)
      have HB6 := Lib.hid (HBC.out.tells hb)
      have HL6 := Lib.hid (HLW.out.below hb HLW.out.lt)
      have HT6 := Lib.hid (HTW.out.below (Nat.le_refl _) hb)
      clear hL hr hv hD htt hne hb HLB HBC HLW HTW KJ
      generalize wc = X2 at HV6 HR6 HB6 HL6 HT6 ⊢
      have KJ2 : Hid (∀ W, Below X2.heap.size X2 W → Calls Try.prog 13 #[.agg #[.int .i64 b, .slice Aw n cw], .int .i64 gp] W (Judged b gp (turned k l) W)) := Lib.hid (fun W hb => by
        have := judge b gp (w := W) (turned_right HRR.out hkl) (HT6.out.below (Nat.le_refl _) hb) gp0 gp1
        rw [turned_len, ← HN.out] at this
        exact this)
      have y0 : X2.cell? ⟨gw, 0, none⟩ = some (.int .i64 b) := HL6.out.cell 0
      have y1 : X2.cell? ⟨gw, 1, none⟩ = some (.slice Aw n cw) := HL6.out.cell 1
      have hbl : gw < X2.heap.size := HL6.out.lt
      have KP : Hid (∀ w', Below X2.heap.size X2 w' → w'.cell? ⟨gw, 0, none⟩ = some (.int .i64 b) ∧ w'.cell? ⟨gw, 1, none⟩ = some (.slice Aw n cw)) := Lib.hid (fun w' hw' => by
        have h : ∀ c, c < X2.heap.size → ∀ k, w'.cell? ⟨c, k, none⟩ = X2.cell? ⟨c, k, none⟩ := fun c hc k => hw'.cell (p := ⟨c, k, none⟩) hc
        exact ⟨(h _ hbl _).trans y0, (h _ hbl _).trans y1⟩)
      have KJ0 := Lib.hid (KJ2.out _ (below_d0 X2))
      have KJ1 := Lib.hid (KJ2.out _ (below_d1 X2 (.cells Zvd 29)))
      go_upto_region 7 with fail
      go_cut [12, 13] (fun s3 s4 wx => VdT X2 b gp (turned k l) (turned k l).length s3 s4 wx)
      case first =>
        go_region_held3 (fun w' => w'.cell? ⟨gw, 0, none⟩ = some (.int .i64 b) ∧ w'.cell? ⟨gw, 1, none⟩ = some (.slice Aw n cw)) (first | (with_reducible exact KP.out _ (below_d0 _)) | (with_reducible exact KP.out _ (below_d1 _ _)) | (with_reducible exact KP.out _ HU.out) | (with_reducible exact KP.out _ (HU.out.alloc HU.out.size _)) | (with_reducible exact KP.out _ (early_below (Nat.le_refl _) HU.out _ _ _)) | go_keep) (first | ((with_reducible refine (KG.out _).mono ?_); rintro en u ⟨rfl, rfl⟩) | ((with_reducible refine KJ0.out.mono ?_); rintro en u ⟨ok, late, R, t, rfl, hv, hr, htt, hb⟩; have HU := Lib.hid (late_from hb); have HV := Lib.hid hv; have HR := Lib.hid hr; have ht0 : X2.heap.size ≤ t := htt; clear hv hr htt hb) | ((with_reducible refine KJ1.out.mono ?_); rintro en u ⟨ok, late, R, t, rfl, hv, hr, htt, hb⟩; have HU := Lib.hid (early_from hb); have HL := Lib.hid (early_lies hb); have HV := Lib.hid hv; have HR := Lib.hid hr; have ht0 := (early_ge htt).1; have ht1 := (early_ge htt).2; have d0 : u.cell? ⟨X2.heap.size, 0, none⟩ = some (.bool false) := HL.out.cell 0; have d1 : u.cell? ⟨X2.heap.size, 1, none⟩ = some (.int .i64 0) := HL.out.cell 1; have d2 : u.cell? ⟨X2.heap.size, 2, none⟩ = some (.slice none 0 0) := HL.out.cell 2; have f0 := HL.out.thawed 0; have f1 := HL.out.thawed 1; have f2 := HL.out.thawed 2; clear hv hr htt hb))
        all_goals
          go_wp2
          go_meet
          first | exact VdT.behind HV.out HR.out ht0 HU.out | exact VdT.early HV.out HR.out HL.out (Nat.le_refl _) ht0 ht1 HU.out

      clear KJ0 KJ1 KP y0 y1
      obtain ⟨D2, ok2, late2, R2, t2, rfl, rfl, hL, hr, hv, hD, htt, hne, hb⟩ := hcut
      rw [turned_len, ← HN.out] at hL
      obtain ⟨late', hv', hlate⟩ := HD.out.turn hkl
      obtain ⟨rfl, rfl, rfl⟩ := hv'.same (good_of (turned_right HRR.out hkl)).dist hv
      have HU8 := Lib.hid hL
      have HQ8 := Lib.hid hr
      have HV8 := Lib.hid (HV6.out.below hb HV6.out.lt)
      have HR8 := Lib.hid (HR6.out.tells hb)
      have HB8 := Lib.hid (HB6.out.tells hb)
      have HL8 := Lib.hid (HL6.out.below hb HL6.out.lt)
      have HT8 := Lib.hid (HT6.out.below (Nat.le_refl _) hb)
      have HS8 := Lib.hid (HT.out.below (Nat.le_refl _) HB8.out.below)
      have HLT := Lib.hid hlate
      clear hL hr hv hv' hlate hD htt hne hb HV6 HR6 HB6 HL6 HT6 KJ2 HT HD
      generalize wc = X9 at HU8 HQ8 HV8 HR8 HB8 HL8 HT8 HS8 ⊢
      obtain ⟨v0, v1, v2⟩ := vd_cells HV8.out
      obtain ⟨u0, u1, u2⟩ := vd_cells HU8.out
      have e1 : (ok != ok) = false := by cases ok <;> rfl
      have e2 : (ok == ok) = true := by cases ok <;> rfl
      go_wp2
      go_loopw [14] (fun i W => OrdRel n X9 i W) (fun i _ => n - (intOf i).toNat)
      case atStart => exact ⟨0, 0, by omega, rfl, rfl⟩
      case round =>
        obtain ⟨i, q, hi, rfl, rfl⟩ := hrel
        by_cases hlt : i < n
        · have d1 : decide ((i : Int) < (n : Int)) = true := by simp; omega
          obtain ⟨j, hj⟩ : ∃ j, j = frm n k i := ⟨_, rfl⟩
          have hjn : j < n := by rw [hj]; exact frm_lt q3 hlt
          have tm2 : ((i : Int) + (k : Int)).tmod (n : Int) = (j : Int) := by rw [Int.tmod_eq_emod_of_nonneg (by omega), frm_mod hk hlt, hj]
          have wm : IntKind.i64.wrap ((i : Int) + (k : Int)) = (i : Int) + (k : Int) := IntWalk.i64_in _ ⟨by omega, by omega⟩
          have hx : R[j]? = some (R[j]'(by rw [HLR.out]; exact hjn)) := List.getElem?_eq_getElem _
          have hy : (turned k R)[i]? = some (R[j]'(by rw [HLR.out]; exact hjn)) := by rw [turned_at HLR.out q3 hlt, ← hj]; exact hx
          have cx := HR8.out.cell hx
          have cy := HQ8.out.cell hy
          clear hx hy hj
          generalize R[j]'_ = r at cx cy
          have p0 : (0 : Int) ≤ (i : Int) := by omega
          have p1 : (i : Int) < (n : Int) := by omega
          have p2 : (0 : Int) ≤ (j : Int) := by omega
          have p3 : (j : Int) < (n : Int) := by omega
          go_wp2
          go_quiet (fail)
          go_wp2
          go_roundw
          case rel => first | exact ⟨i + 1, _, by omega, by go_num, rfl⟩ | exact ⟨i + 1, _, by omega, by go_num, World.drewN_drewN _ _ _⟩
          case measure => simp [intOf]; omega
        · have d1 : decide ((i : Int) < (n : Int)) = false := by simp; omega
          have d1' : decide (i < n) = false := by simp; omega
          cases ok
          · obtain ⟨m, i', o, rfl, ho, rfl, ho'⟩ := HLT.out rfl
            have hmn := (List.getElem?_eq_some_iff.1 ho).1
            have hin := (List.getElem?_eq_some_iff.1 ho').1
            rw [← HN.out] at hmn
            rw [turned_len, ← HN.out] at hin
            have m0 : (0 : Int) ≤ (m : Int) := by omega
            have m1 : (m : Int) < (n : Int) := by omega
            have i0 : (0 : Int) ≤ (i' : Int) := by omega
            have i1 : (i' : Int) < (n : Int) := by omega
            obtain ⟨s0, s1⟩ := HB8.out.cells
            have y1 : X9.cell? ⟨gw, 1, none⟩ = some (.slice Aw n cw) := HL8.out.cell 1
            obtain ⟨b1, o1, e3, -, x0, -⟩ := HS8.out.cells ho
            cases e3
            obtain ⟨b2, o2, rfl, -, z0, -⟩ := HT8.out.cells ho'
            clear ho ho' HLT HN
            generalize o.name = nm0 at x0 z0
            go_wp2
            go_quiet (fail)
            go_wp2
            go_ret
            exact ⟨by simp, below_drewN (below_drewN HB8.out.below _) _⟩
          · go_wp2
            go_quiet (fail)
            go_wp2
            go_ret
            exact ⟨rfl, below_drewN (below_drewN HB8.out.below _) _⟩
end Go.Proofs.Ytklnokhabomnfaa
