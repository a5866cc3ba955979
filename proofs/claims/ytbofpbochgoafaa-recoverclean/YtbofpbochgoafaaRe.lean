/- A run behind a part that passed. -/
import Derived.Test.YtbofpbochgoafaaRd
namespace Go.Proofs.Ytbofpbochgoafaa
open Go.RowKit

theorem beh_last {t : Tk} {d s : Int} {n k : Nat} (h : Sm t d n s) (hk : IsPart t n k) (hl : n ≤ k + 1) : behV t d k = 0 := by
  unfold behV
  by_cases hm : t.Mode = 1
  · rw [if_pos hm]
    have hlt : k < n := by rcases hk with hk | hk
                           · exact hk
                           · exact absurd hm hk.1
    have h1 := h.end_ (k := k) (by omega)
    rw [h.ways.retry hm] at h1
    unfold pieceV
    rw [if_pos hm]
    generalize (k : Int) * t.Seg = x at *
    split <;> omega
  · rw [if_neg hm]
theorem beh_more {t : Tk} {d s : Int} {n k : Nat} (h : Sm t d n s) (hl : k + 1 < n) : behV t d k = d - (k : Int) * s - s ∧ 1 ≤ behV t d k ∧ behV t d k ≤ 500 := by
  obtain ⟨h1, h2, h3, h4, h5, h6, h7⟩ := h.nums
  have h0 := (h.span (k := k) (by omega)).1
  have hm : t.Mode = 1 := by
    by_cases hm : t.Mode = 1
    · exact hm
    · have := (h.single hm).1; omega
  have h8 := h.mid hl
  unfold behV
  rw [if_pos hm]
  unfold pieceV
  rw [if_pos hm]
  rw [h.ways.retry hm] at *
  generalize (k : Int) * t.Seg = x at *
  rw [if_neg (by omega)]
  omega
set_option maxRecDepth 100000 in
set_option maxHeartbeats 4000000 in
theorem passed_last {t : Tk} {d s l f : Int} {n k : Nat} {b : Bool} (h : Sm t d n s) (hk : IsPart t n k) (hl : n ≤ k + 1) (w : World) :
    Calls Try.prog 19 #[aggR t d (k : Int) l b f] w (Gives (.tuple #[aggR t d k l b f, .int .i64 4]) w) := by
  have HB := Lib.hid (RTwo.made w t d k l b f)
  have KH := Lib.hid (fun W => behind (l := l) (f := f) (b := b) h hk W)
  rw [beh_last h hk hl] at KH
  simp only [boxR, t00] at HB
  simp only [aggR] at KH ⊢
  clear h hk hl
  go_enter Try.func19, Try.ntmps19
  go_wp2_with (fail)
  with_reducible refine (KH.out _).mono ?_
  rintro e w2 ⟨rfl, hb⟩
  have H2 := Lib.hid (HB.out.tells hb)
  clear hb HB
  obtain ⟨y0, y1, y2, y3, y4, y5, y6, y7, y8, y9, y10, y11, y12, y13, y14, y15⟩ := runs_cells H2.out.lies
  have HT := Lib.hid (run_there H2.out.res)
  have H9 := Lib.hid (H2.out.tell (t' := t) (d' := d) (p' := k) (l' := l) (s' := b) (f' := f))
  go_wp2_with ((with_reducible refine store_run ?_ (.tmp 2) (.tmp 7) ?_ (w.heap.size + 1) t d k l b f ?_ ?_ HT.out ?_); rfl; rfl; rfl; rfl)
  (try simp only [Exit.inBlock, Exit.then])
  refine bodyPost_ret (results_run2 rfl _ _ (w.heap.size + 1) _ rfl H9.out.res rfl) rfl ?_
  exact ⟨rfl, H9.out.below⟩
set_option maxRecDepth 100000 in
set_option maxHeartbeats 4000000 in
theorem passed_more {t : Tk} {d s l f : Int} {n k : Nat} {b : Bool} (h : Sm t d n s) (hl : k + 1 < n) (w : World) :
    Calls Try.prog 19 #[aggR t d (k : Int) l b f] w (Gives (.tuple #[aggR t d ((k : Int) + 1) (lenV t s d (k + 1)) false f, .int .i64 1]) w) := by
  have hk : IsPart t n k := .inl (by omega)
  have hk1 : IsPart t n (k + 1) := .inl hl
  have HB := Lib.hid (RTwo.made w t d k l b f)
  have KH := Lib.hid (fun W => behind (l := l) (f := f) (b := b) h hk W)
  obtain ⟨_, b1, b2⟩ := beh_more h hl
  have KB : Hid (∀ W, Calls Try.prog 17 #[aggR t d k l b f, .int .i64 ((k : Int) + 1)] W (Gives (aggR t d ((k : Int) + 1) (lenV t s d (k + 1)) false f) W)) := Lib.hid (fun W => begun (p := (k : Int)) (l := l) (f := f) (b := b) h hk1 W)
  obtain ⟨_, _, _, _, n1, n2, _⟩ := h.nums
  have hkn : k + 1 < 500 := by omega
  simp only [boxR, t00] at HB
  generalize behV t d k = bv at *
  generalize lenV t s d (k + 1) = v at *
  simp only [aggR] at KH KB ⊢
  clear h hk hl hk1
  go_enter Try.func19, Try.ntmps19
  go_wp2_with (fail)
  with_reducible refine (KH.out _).mono ?_
  rintro e w2 ⟨rfl, hb⟩
  have H2 := Lib.hid (HB.out.tells hb)
  clear hb HB
  obtain ⟨y0, y1, y2, y3, y4, y5, y6, y7, y8, y9, y10, y11, y12, y13, y14, y15⟩ := runs_cells H2.out.lies
  go_wp2_with (fail)
  with_reducible refine (KB.out _).mono ?_
  rintro e w3 ⟨rfl, hb⟩
  have H3 := Lib.hid (H2.out.tells hb)
  clear hb H2
  have HT := Lib.hid (run_there H3.out.res)
  have H9 := Lib.hid (H3.out.tell (t' := t) (d' := d) (p' := ((k : Int) + 1)) (l' := v) (s' := false) (f' := f))
  go_wp2_with ((with_reducible refine store_run ?_ (.tmp 2) (.tmp 12) ?_ (w.heap.size + 1) t d ((k : Int) + 1) v false f ?_ ?_ HT.out ?_); rfl; rfl; rfl; rfl)
  (try simp only [Exit.inBlock, Exit.then])
  refine bodyPost_ret (results_run2 rfl _ _ (w.heap.size + 1) _ rfl H9.out.res rfl) rfl ?_
  exact ⟨rfl, H9.out.below⟩
end Go.Proofs.Ytbofpbochgoafaa
