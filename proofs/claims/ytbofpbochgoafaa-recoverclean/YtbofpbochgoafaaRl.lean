/- How long a part is: the program's own. -/
import Derived.Test.YtbofpbochgoafaaRc
import Derived.Deep.RegionHeld3
namespace Go.Proofs.Ytbofpbochgoafaa
open Go.RowKit

/-- As Parted, so many of them. -/
def PartedN (n : Nat) (l : List Int) (w : World) (e : Ending) (w' : World) : Prop := ∃ g c, e = .returned (.slice (some ⟨g, 0, none⟩) n c) ∧ w.heap.size ≤ g ∧ n ≤ c ∧ Rest w' g 0 l ∧ Below w.heap.size w w'
theorem partsN {t : Tk} {d s : Int} {n : Nat} (h : Fine t) (hw : Ways t d n s) (hd : d ≤ t.C) (hC : t.C ≤ 3000) (w : World) : Calls Try.prog 12 #[aggK t, .int .i64 d] w (PartedN n (pl s t.Cost d n) w) :=
  (parts h hw hd hC w).mono (by
    rintro e w' ⟨g, c, h1, h2, h3, h4, h5⟩
    rw [length_pl] at h1 h3
    exact ⟨g, c, h1, h2, h3, h4, h5⟩)
/-- The one part of a part's own piece is as long as the part. -/
theorem piece_parts {t : Tk} {d s : Int} {n k : Nat} (h : Sm t d n s) (hk : k < n) (w : World) : Calls Try.prog 12 #[aggK t, .int .i64 (pieceV t d k)] w (PartedN 1 [lenV t s d k] w) := by
  obtain ⟨h1, h2, h3, h4, h5, h6, h7⟩ := h.nums
  obtain ⟨r0, r1⟩ := h.span hk
  have hC := h.C
  have hdC := h.dC
  by_cases hm : t.Mode = 1
  · have hs := h.ways.retry hm
    have hpv : pieceV t d k = if d - (k : Int) * s < s then d - (k : Int) * s else s := by unfold pieceV; rw [if_pos hm, hs]
    have hp1 : 1 ≤ pieceV t d k ∧ pieceV t d k ≤ s ∧ pieceV t d k ≤ d := by rw [hpv]; split <;> omega
    have hw : Ways t (pieceV t d k) 1 s := ⟨⟨Nat.le_refl _, h3, by simp; omega, by simp; omega⟩, fun _ => hs, fun hn => absurd hm hn⟩
    have key := partsN h.fine hw (by omega) (by omega) w
    have e1 : pl s t.Cost (pieceV t d k) 1 = [lenV t s d k] := by
      rw [len_first (.inr hm)]
      have : pf s t.Cost (pieceV t d k) 0 = pf s t.Cost d k := by
        have e0 : pf s t.Cost (pieceV t d k) 0 = (if pieceV t d k < s then pieceV t d k else s) + t.Cost := by unfold pf; simp
        rw [e0]
        unfold pf
        rw [hpv]
        generalize (k : Int) * s = x
        by_cases hlt : d - x < s
        · rw [if_pos hlt, if_pos hlt]
        · rw [if_neg hlt, if_neg (by omega)]
      simp [pl, List.range_succ, this]
    rw [e1] at key
    exact key
  · obtain ⟨hn, hs⟩ := h.single hm
    have hk0 : k = 0 := by omega
    subst hk0
    have hpv : pieceV t d ((0 : Nat) : Int) = d := by unfold pieceV; rw [if_neg hm]
    rw [hpv]
    have key := partsN h.fine (h.ways) hdC (by omega) w
    rw [hn, hs] at key
    rw [pl_one] at key
    have e1 : lenV t s d 0 = d + t.Cost := by
      rw [len_first (.inl rfl), hs]
      unfold pf; simp
    rw [e1]
    exact key
set_option maxRecDepth 100000 in
set_option maxHeartbeats 4000000 in
theorem length {t : Tk} {d s l f : Int} {n k : Nat} {b : Bool} (h : Sm t d n s) (hk : IsPart t n k) (w : World) :
    Calls Try.prog 25 #[aggR t d (k : Int) l b f] w (Gives (.int .i64 (lenV t s d k)) w) := by
  have HB := Lib.hid (RBox.made w t d k l b f)
  simp only [boxR] at HB
  by_cases hc : t.Mode ≠ 1 ∧ k = 1
  · obtain ⟨hm, hk1⟩ := hc
    have KX := Lib.hid (fun W => extra h.fine W)
    have HV : Hid (lenV t s d k = extraV t) := Lib.hid (by unfold lenV extraV; rw [if_pos ⟨hm, hk1⟩, if_neg hm])
    rw [HV.out]
    have t1 := mode_no hm
    have t1' : (t.Mode != 1) = true := by simp [hm]
    subst hk1
    clear hm h hk
    simp only [aggR]
    simp only [aggK] at KX
    generalize extraV t = v at *
    go_enter Try.func25, Try.ntmps25
    go_wp2_with (fail)
    with_reducible refine (KX.out _).mono ?_
    rintro e w2 ⟨rfl, hb⟩
    have H2 := Lib.hid (HB.out.tells hb)
    clear hb
    go_wp2
    go_ret
    exact ⟨rfl, H2.out.below⟩
  · have hlt : k < n := by rcases hk with hk | hk
                           · exact hk
                           · exact absurd hk hc
    have KP := Lib.hid (fun W => piece (l := l) (f := f) (b := b) h hk W)
    have KQ := Lib.hid (fun W => piece_parts h hlt W)
    have hl := h.len hk
    have hdis : t.Mode = 1 ∨ (t.Mode ≠ 1 ∧ k = 0) := by
      by_cases hm : t.Mode = 1
      · exact .inl hm
      · have := (h.single hm).1
        exact .inr ⟨hm, by omega⟩
    simp only [aggR] at KP ⊢
    simp only [aggK] at KQ
    clear h hk hc hlt
    generalize lenV t s d k = v at *
    rcases hdis with hm | ⟨hm, hk0⟩
    · have t1 := mode_yes hm
      have t1' : (t.Mode != 1) = false := by simp [hm]
      clear hm
      generalize pieceV t d k = pv at *
      generalize hw1 : w.alloc (.cells #[.string t.name, .int .i64 t.T, .int .i64 t.D, .int .i64 t.C, .int .i64 t.A, .int .i64 t.Seg, .int .i64 t.Cost, .int .i64 t.M, .int .i64 t.K, .int .i64 t.Mode, .int .i64 t.Prio, .int .i64 d, .int .i64 (k : Int), .int .i64 l, .bool b, .int .i64 f] 28) = w1 at HB
      obtain ⟨y0, y1, y2, y3, y4, y5, y6, y7, y8, y9, y10, y11, y12, y13, y14, y15⟩ := runs_cells HB.out.lies
      go_enter Try.func25, Try.ntmps25
      go_wp2
      go_region_held3 (fun W' => W'.cell? ⟨w.heap.size, 0, none⟩ = some (.string t.name) ∧ W'.cell? ⟨w.heap.size, 1, none⟩ = some (.int .i64 t.T) ∧ W'.cell? ⟨w.heap.size, 2, none⟩ = some (.int .i64 t.D) ∧ W'.cell? ⟨w.heap.size, 3, none⟩ = some (.int .i64 t.C) ∧ W'.cell? ⟨w.heap.size, 4, none⟩ = some (.int .i64 t.A) ∧ W'.cell? ⟨w.heap.size, 5, none⟩ = some (.int .i64 t.Seg) ∧ W'.cell? ⟨w.heap.size, 6, none⟩ = some (.int .i64 t.Cost) ∧ W'.cell? ⟨w.heap.size, 7, none⟩ = some (.int .i64 t.M) ∧ W'.cell? ⟨w.heap.size, 8, none⟩ = some (.int .i64 t.K) ∧ W'.cell? ⟨w.heap.size, 9, none⟩ = some (.int .i64 t.Mode) ∧ W'.cell? ⟨w.heap.size, 10, none⟩ = some (.int .i64 t.Prio) ∧ W'.cell? ⟨w.heap.size, 11, none⟩ = some (.int .i64 d) ∧ W'.cell? ⟨w.heap.size, 12, none⟩ = some (.int .i64 (k : Int)) ∧ W'.cell? ⟨w.heap.size, 13, none⟩ = some (.int .i64 l) ∧ W'.cell? ⟨w.heap.size, 14, none⟩ = some (.bool b) ∧ W'.cell? ⟨w.heap.size, 15, none⟩ = some (.int .i64 f)) (first | go_keep | exact runs_cells U2.out.lies | exact runs_cells U1.out.lies | exact runs_cells (HB.out.drewN 1).lies)
        (first
          | (with_reducible refine (KP.out _).mono ?_
             rintro en u1 ⟨rfl, hb1⟩
             have U1 := Lib.hid ((HB.out.drewN 1).tells hb1)
             clear hb1)
          | (with_reducible refine (KQ.out _).mono ?_
             rintro en u2 ⟨g, c, rfl, hg, hc, hr, hb2⟩
             have U2 := Lib.hid (U1.out.tells hb2)
             have v0 := hr.cell (i := 0) (x := v) (Nat.le_refl _) rfl
             clear hb2 hr hg hc))
      all_goals
        go_wp2
        go_ret
        exact ⟨rfl, U2.out.below⟩
    · have t1 := mode_no hm
      have t1' : (t.Mode != 1) = true := by simp [hm]
      subst hk0
      clear hm HB
      generalize pieceV t d ((0 : Nat) : Int) = pv at *
      have KP : Hid (∀ W, Calls Try.prog 29 #[.agg #[.string t.name, .int .i64 t.T, .int .i64 t.D, .int .i64 t.C, .int .i64 t.A, .int .i64 t.Seg, .int .i64 t.Cost, .int .i64 t.M, .int .i64 t.K, .int .i64 t.Mode, .int .i64 t.Prio, .int .i64 d, .int .i64 0, .int .i64 l, .bool b, .int .i64 f]] W (Gives (.int .i64 pv) W)) := KP
      have HB := Lib.hid (RBox.made w t d 0 l b f)
      simp only [boxR] at HB
      generalize hw1 : w.alloc (.cells #[.string t.name, .int .i64 t.T, .int .i64 t.D, .int .i64 t.C, .int .i64 t.A, .int .i64 t.Seg, .int .i64 t.Cost, .int .i64 t.M, .int .i64 t.K, .int .i64 t.Mode, .int .i64 t.Prio, .int .i64 d, .int .i64 0, .int .i64 l, .bool b, .int .i64 f] 28) = w1 at HB
      obtain ⟨y0, y1, y2, y3, y4, y5, y6, y7, y8, y9, y10, y11, y12, y13, y14, y15⟩ := runs_cells HB.out.lies
      show Calls Try.prog 25 #[.agg #[.string t.name, .int .i64 t.T, .int .i64 t.D, .int .i64 t.C, .int .i64 t.A, .int .i64 t.Seg, .int .i64 t.Cost, .int .i64 t.M, .int .i64 t.K, .int .i64 t.Mode, .int .i64 t.Prio, .int .i64 d, .int .i64 0, .int .i64 l, .bool b, .int .i64 f]] w _
      go_enter Try.func25, Try.ntmps25
      go_wp2
      go_region_held3 (fun W' => W'.cell? ⟨w.heap.size, 0, none⟩ = some (.string t.name) ∧ W'.cell? ⟨w.heap.size, 1, none⟩ = some (.int .i64 t.T) ∧ W'.cell? ⟨w.heap.size, 2, none⟩ = some (.int .i64 t.D) ∧ W'.cell? ⟨w.heap.size, 3, none⟩ = some (.int .i64 t.C) ∧ W'.cell? ⟨w.heap.size, 4, none⟩ = some (.int .i64 t.A) ∧ W'.cell? ⟨w.heap.size, 5, none⟩ = some (.int .i64 t.Seg) ∧ W'.cell? ⟨w.heap.size, 6, none⟩ = some (.int .i64 t.Cost) ∧ W'.cell? ⟨w.heap.size, 7, none⟩ = some (.int .i64 t.M) ∧ W'.cell? ⟨w.heap.size, 8, none⟩ = some (.int .i64 t.K) ∧ W'.cell? ⟨w.heap.size, 9, none⟩ = some (.int .i64 t.Mode) ∧ W'.cell? ⟨w.heap.size, 10, none⟩ = some (.int .i64 t.Prio) ∧ W'.cell? ⟨w.heap.size, 11, none⟩ = some (.int .i64 d) ∧ W'.cell? ⟨w.heap.size, 12, none⟩ = some (.int .i64 0) ∧ W'.cell? ⟨w.heap.size, 13, none⟩ = some (.int .i64 l) ∧ W'.cell? ⟨w.heap.size, 14, none⟩ = some (.bool b) ∧ W'.cell? ⟨w.heap.size, 15, none⟩ = some (.int .i64 f)) (first | go_keep | exact runs_cells U2.out.lies | exact runs_cells U1.out.lies | exact runs_cells (HB.out.drewN 1).lies)
        (first
          | (with_reducible refine (KP.out _).mono ?_
             rintro en u1 ⟨rfl, hb1⟩
             have U1 := Lib.hid ((HB.out.drewN 1).tells hb1)
             clear hb1)
          | (with_reducible refine (KQ.out _).mono ?_
             rintro en u2 ⟨g, c, rfl, hg, hc, hr, hb2⟩
             have U2 := Lib.hid (U1.out.tells hb2)
             have v0 := hr.cell (i := 0) (x := v) (Nat.le_refl _) rfl
             clear hb2 hr hg hc))
      all_goals
        go_wp2
        go_ret
        exact ⟨rfl, U2.out.below⟩
end Go.Proofs.Ytbofpbochgoafaa
