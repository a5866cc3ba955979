/- The statements' own parts: made by appends. -/
import Derived.Test.YtbebmmjnfdphbaaPt
namespace Go.Proofs.Ytbebmmjnfdphbaa
open Go.RowKit

theorem pl_one {d c : Int} : pl d c d 1 = [d + c] := by
  have : pf d c d 0 = d + c := by unfold pf; simp
  simp [pl, List.range_succ, this]
def MadeRel (s c d : Int) (B : Nat) (W0 : World) (v X : Value) (W : World) : Prop :=
  ∃ (k : Nat) (e : Int), v = .int .i64 e ∧ e = d - (k : Int) * s ∧ 1 ≤ e ∧ W.ownsRow B 3 1 X k (cellsI (pl s c d k)) ∧ Below B W0 W
theorem places_few {k : Nat} {s d e : Int} (hs : 1 ≤ s) (he : e = d - (k : Int) * s) (h1 : 1 ≤ e) : (k : Int) ≤ d := by
  have := Int.mul_le_mul_of_nonneg_left (a := 1) (b := s) (c := (k : Int)) hs (by omega)
  omega
set_option maxHeartbeats 4000000 in
theorem refRetry (nm : ByteArray) (tT tD tC tA tS tc tM tK tP d : Int) {n : Nat} (hc : Cuts d tS n) (hd : d ≤ 3000) (hd1 : 1 ≤ d) (hs : tS ≤ 3000) (hc0 : 0 ≤ tc) (hc1 : tc ≤ 1000) (w : World) :
    Calls Try.prog 14 #[aggK ⟨nm, tT, tD, tC, tA, tS, tc, tM, tK, 1, tP⟩, .int .i64 d] w (Parted (pl tS tc d n) w) := by
  have hs1 := hc.2.1
  have HC := Lib.hid hc
  have HB := Lib.hid (Box.made w ⟨nm, tT, tD, tC, tA, tS, tc, tM, tK, 1, tP⟩)
  have B0 := Lib.hid (Below.refl (w.heap.size + 1) (w.alloc (.cells (boxT ⟨nm, tT, tD, tC, tA, tS, tc, tM, tK, 1, tP⟩) 23)))
  simp only [boxT] at HB B0
  simp only [aggK]
  clear hc
  go_enter Try.func14, Try.ntmps14
  go_wp2
  go_loopw [1, 5] (fun v X W => MadeRel tS tc d (w.heap.size + 1) (w.alloc (.cells #[.string nm, .int .i64 tT, .int .i64 tD, .int .i64 tC, .int .i64 tA, .int .i64 tS, .int .i64 tc, .int .i64 tM, .int .i64 tK, .int .i64 1, .int .i64 tP] 23)) v X W) (fun v _ _ => (intOf v).toNat)
  case atStart => exact ⟨0, d, rfl, by simp, hd1, ⟨rfl, .inl ⟨rfl, rfl⟩⟩, B0.out⟩
  case round =>
    obtain ⟨k, e, rfl, he, e1, hown, hb⟩ := hrel
    have HK := Lib.hid (places_few hs1 he e1)
    have hk3 : k ≤ 3000 := by have := HK.out; omega
    have HL := Lib.hid (HB.out.lies.below hb (by omega))
    have HO := Lib.hid hown
    have HW := Lib.hid hb
    have hed : e ≤ 3000 := by have := Int.mul_nonneg (a := (k : Int)) (b := tS) (by omega) (by omega); omega
    have hsz : w.heap.size + 1 ≤ wr.heap.size := by have := hb.size; simpa using this
    have HE := Lib.hid he
    clear hown hb he
    have y5 : wr.cell? ⟨w.heap.size, 5, none⟩ = some (.int .i64 tS) := HL.out.cell 5
    have y6 : wr.cell? ⟨w.heap.size, 6, none⟩ = some (.int .i64 tc) := HL.out.cell 6
    by_cases hlt : tS < e
    · have HP := Lib.hid (show pf tS tc d k = tS + tc from pf_full (by have := HE.out; omega))
      go_wp2_with (at_builtin; first
        | (refine append_one _ rfl _ _ rfl (w.heap.size + 1) _ k (pl tS tc d k) rfl (HO.out.alloc _) _ (tS + tc) rfl (one_int wr (tS + tc)) (by omega) (by simp; omega) ?_
           intro v2 w2 o2 g2
           rw [← HP.out, ← pl_succ] at o2
           have H2 : Hid (MadeRel tS tc d (w.heap.size + 1) (w.alloc (.cells #[.string nm, .int .i64 tT, .int .i64 tD, .int .i64 tC, .int .i64 tA, .int .i64 tS, .int .i64 tc, .int .i64 tM, .int .i64 tK, .int .i64 1, .int .i64 tP] 23)) (.int .i64 (e - tS)) v2 w2) :=
             Lib.hid ⟨k + 1, e - tS, rfl, by rw [HE.out, show ((k + 1 : Nat) : Int) = (k : Int) + 1 by omega, Int.add_mul, Int.one_mul]; omega, by omega, o2, (HW.out.alloc hsz _).grown g2 (by simp; omega) (own_from HO.out)⟩
           have z5 : w2.cell? ⟨w.heap.size, 5, none⟩ = some (.int .i64 tS) := (HB.out.lies.below H2.out.choose_spec.choose_spec.2.2.2.2 (by omega)).cell 5
           clear o2 g2))
      go_roundw
      case rel => exact H2.out
      case measure => simp [intOf]; omega
    · have HP := Lib.hid (show pf tS tc d k = e + tc by rw [HE.out]; exact pf_rest (by have := HE.out; omega))
      obtain rfl : n = k + 1 := HC.out.same ⟨by omega, hs1, by rw [show ((k + 1 : Nat) : Int) = (k : Int) + 1 by omega, Int.add_mul, Int.one_mul]; have := HE.out; omega, by rw [show ((k + 1 : Nat) : Int) = (k : Int) + 1 by omega, Int.add_mul, Int.one_mul]; have := HE.out; omega⟩
      go_wp2_with (at_builtin; first
        | (refine append_one _ rfl _ _ rfl (w.heap.size + 1) _ k (pl tS tc d k) rfl (HO.out.alloc _) _ (e + tc) rfl (one_int wr (e + tc)) (by omega) (by simp; omega) ?_
           intro v2 w2 o2 g2
           rw [← HP.out, ← pl_succ] at o2
           have H2 := Lib.hid ((HW.out.alloc hsz (.cells #[.int .i64 (e + tc)] 3)).grown g2 (by simp; omega) (own_from HO.out))
           obtain ⟨g, c2, rfl, hg, hgc, hrest⟩ := own_rest o2 (by omega)
           have HR := Lib.hid hrest
           clear o2 g2 hrest))
      go_ret
      refine ⟨g, c2, ?_, by omega, by rw [length_pl]; exact hgc, HR.out, ?_⟩
      · rw [length_pl]; rfl
      · exact HB.out.below.trans (H2.out.mono (by omega))
set_option maxHeartbeats 2000000 in
theorem refOne (nm : ByteArray) (tT tD tC tA tS tc tM tK tO tP d : Int) (hO : tO = 2 ∨ tO = 3) (hd : d ≤ 3000) (hd1 : 1 ≤ d) (hc0 : 0 ≤ tc) (hc1 : tc ≤ 1000) (w : World) :
    Calls Try.prog 14 #[aggK ⟨nm, tT, tD, tC, tA, tS, tc, tM, tK, tO, tP⟩, .int .i64 d] w (Parted (pl d tc d 1) w) := by
  have HB := Lib.hid (Box.made w ⟨nm, tT, tD, tC, tA, tS, tc, tM, tK, tO, tP⟩)
  rw [pl_one]
  simp only [boxT] at HB
  simp only [aggK]
  have HI := Lib.hid (Lies.made (w.alloc (.cells (boxT ⟨nm, tT, tD, tC, tA, tS, tc, tM, tK, tO, tP⟩) 23)) 3 #[.int .i64 (d + tc)])
  have HB2 := Lib.hid (HB.out.below.alloc (by simp) (.cells #[.int .i64 (d + tc)] 3))
  simp only [boxT] at HI
  rcases hO with rfl | rfl <;>
  · go_enter Try.func14, Try.ntmps14
    go_wp2
    go_ret
    refine ⟨w.heap.size + 1, 1, rfl, by omega, Nat.le_refl _, ⟨_, by have := HI.out; simpa using this, by simp, fun i x _ hx => ?_⟩, HB2.out⟩
    have hj : i = 0 := by have := (List.getElem?_eq_some_iff.1 hx).1; simp at this; omega
    subst hj
    simp at hx
    subst hx
    rfl
theorem refParts {t : Tk} {d s : Int} {n : Nat} (h : Fine t) (hw : Ways t d n s) (hd : d ≤ t.C) (hC : t.C ≤ 3000) (w : World) : Calls Try.prog 14 #[aggK t, .int .i64 d] w (Parted (pl s t.Cost d n) w) := by
  obtain ⟨b1, b2, b3, b4, _, _⟩ := h.nums
  have hp := hw.pos
  rcases h.mode with ⟨m1, a, b, _⟩ | ⟨hO, _, _, _⟩
  · obtain rfl := hw.retry m1
    have key := refRetry t.name t.T t.D t.C t.A t.Seg t.Cost t.M t.K t.Prio d hw.cuts (by omega) hp (by omega) b3 b4 w
    rw [show (⟨t.name, t.T, t.D, t.C, t.A, t.Seg, t.Cost, t.M, t.K, 1, t.Prio⟩ : Tk) = t by rw [← m1]] at key
    exact key
  · obtain ⟨rfl, rfl⟩ := hw.whole (by omega)
    exact refOne t.name t.T t.D t.C t.A t.Seg t.Cost t.M t.K t.Mode t.Prio s hO (by omega) hp b3 b4 w
end Go.Proofs.Ytbebmmjnfdphbaa
