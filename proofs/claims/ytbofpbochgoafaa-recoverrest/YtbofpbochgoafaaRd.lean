/- A run behind a part that failed, behind one that passed. -/
import Derived.Test.YtbofpbochgoafaaRb
namespace Go.Proofs.Ytbofpbochgoafaa
open Go.RowKit

/-- The part that runs behind one that failed. -/
def backK (t : Tk) (k : Nat) : Nat := if t.Mode = 1 then k else 1
/-- What a part that failed comes to. -/
def evV (t : Tk) (k : Nat) : Int := if t.Mode = 3 ∧ k ≠ 1 then 3 else 2
theorem back_part {t : Tk} {n k : Nat} (h : IsPart t n k) : IsPart t n (backK t k) := by
  unfold backK
  by_cases hm : t.Mode = 1
  · rw [if_pos hm]; exact h
  · rw [if_neg hm]; exact .inr ⟨hm, rfl⟩
set_option maxRecDepth 100000 in
set_option maxHeartbeats 4000000 in
theorem failed {t : Tk} {d s l f : Int} {n k : Nat} {b : Bool} (h : Sm t d n s) (hk : IsPart t n k) (f0 : 0 ≤ f) (f1 : f ≤ 1000000000) (w : World) :
    Calls Try.prog 18 #[aggR t d (k : Int) l b f] w (Gives (.tuple #[aggR t d (backK t k : Nat) (lenV t s d (backK t k)) false (f + 1), .int .i64 (evV t k)]) w) := by
  have HB := Lib.hid (RTwo.made w t d k l b (f + 1))
  have KB := Lib.hid (fun W => begun (p := (k : Int)) (l := l) (f := f + 1) (b := b) h (back_part hk) W)
  have hl := h.len (back_part hk)
  have hn := h.single
  have hmo := h.fine.again
  simp only [boxR, t00] at HB
  generalize hv : lenV t s d (backK t k) = v at *
  clear hv h
  by_cases hm : t.Mode = 1
  · have e1 : backK t k = k := if_pos hm
    have e2 : evV t k = 2 := if_neg (by omega)
    rw [e1] at KB ⊢
    rw [e2]
    have t1 := mode_yes hm
    clear e1 e2 hm hk hn hmo
    simp only [aggR] at KB ⊢
    go_enter Try.func18, Try.ntmps18
    go_wp2_with (fail)
    with_reducible refine (KB.out _).mono ?_
    rintro e w2 ⟨rfl, hb⟩
    have H2 := Lib.hid (HB.out.tells hb)
    clear hb HB
    have HT := Lib.hid (run_there H2.out.res)
    have H9 := Lib.hid (H2.out.tell (t' := t) (d' := d) (p' := k) (l' := v) (s' := false) (f' := f + 1))
    go_wp2_with ((with_reducible refine store_run ?_ (.tmp 2) (.tmp 16) ?_ (w.heap.size + 1) t d k v false (f + 1) ?_ ?_ HT.out ?_); rfl; rfl; rfl; rfl)
    (try simp only [Exit.inBlock, Exit.then])
    refine bodyPost_ret (results_run2 rfl _ _ (w.heap.size + 1) _ rfl H9.out.res rfl) rfl ?_
    exact ⟨rfl, H9.out.below⟩
  · obtain ⟨hn1, _⟩ := hn hm
    have e1 : backK t k = 1 := if_neg hm
    have t1 := mode_no hm
    have hkk : k = 0 ∨ k = 1 := by unfold IsPart at hk; omega
    rw [e1] at KB ⊢
    have KB : Hid (∀ W, Calls Try.prog 17 #[aggR t d k l b (f + 1), .int .i64 1] W (Gives (aggR t d 1 v false (f + 1)) W)) := KB
    show Calls Try.prog 18 #[aggR t d (k : Int) l b f] w (Gives (.tuple #[aggR t d 1 v false (f + 1), .int .i64 (evV t k)]) w)
    by_cases h3 : t.Mode = 3
    · have t3 : (t.Mode == 3) = true := by simp [h3]
      rcases hkk with rfl | rfl
      · have e2 : evV t 0 = 3 := if_pos ⟨h3, by omega⟩
        have KB : Hid (∀ W, Calls Try.prog 17 #[aggR t d 0 l b (f + 1), .int .i64 1] W (Gives (aggR t d 1 v false (f + 1)) W)) := KB
        show Calls Try.prog 18 #[aggR t d 0 l b f] w (Gives (.tuple #[aggR t d 1 v false (f + 1), .int .i64 (evV t 0)]) w)
        have HB := Lib.hid (RTwo.made w t d 0 l b (f + 1))
        simp only [boxR, t00] at HB
        rw [e2]
        clear e1 e2 hm hk hn hmo h3
        simp only [aggR] at KB ⊢
        go_enter Try.func18, Try.ntmps18
        go_wp2_with (fail)
        with_reducible refine (KB.out _).mono ?_
        rintro e w2 ⟨rfl, hb⟩
        have H2 := Lib.hid (HB.out.tells hb)
        clear hb HB
        have HT := Lib.hid (run_there H2.out.res)
        have H9 := Lib.hid (H2.out.tell (t' := t) (d' := d) (p' := 1) (l' := v) (s' := false) (f' := (f + 1)))
        go_wp2_with ((with_reducible refine store_run ?_ (.tmp 2) (.tmp 28) ?_ (w.heap.size + 1) t d 1 v false (f + 1) ?_ ?_ HT.out ?_); rfl; rfl; rfl; rfl)
        (try simp only [Exit.inBlock, Exit.then])
        refine bodyPost_ret (results_run2 rfl _ _ (w.heap.size + 1) _ rfl H9.out.res rfl) rfl ?_
        exact ⟨rfl, H9.out.below⟩
      · have e2 : evV t 1 = 2 := if_neg (by omega)
        have KB : Hid (∀ W, Calls Try.prog 17 #[aggR t d 1 l b (f + 1), .int .i64 1] W (Gives (aggR t d 1 v false (f + 1)) W)) := KB
        show Calls Try.prog 18 #[aggR t d 1 l b f] w (Gives (.tuple #[aggR t d 1 v false (f + 1), .int .i64 (evV t 1)]) w)
        have HB := Lib.hid (RTwo.made w t d 1 l b (f + 1))
        simp only [boxR, t00] at HB
        rw [e2]
        clear e1 e2 hm hk hn hmo h3
        simp only [aggR] at KB ⊢
        go_enter Try.func18, Try.ntmps18
        go_wp2_with (fail)
        with_reducible refine (KB.out _).mono ?_
        rintro e w2 ⟨rfl, hb⟩
        have H2 := Lib.hid (HB.out.tells hb)
        clear hb HB
        have HT := Lib.hid (run_there H2.out.res)
        have H9 := Lib.hid (H2.out.tell (t' := t) (d' := d) (p' := 1) (l' := v) (s' := false) (f' := (f + 1)))
        go_wp2_with ((with_reducible refine store_run ?_ (.tmp 2) (.tmp 30) ?_ (w.heap.size + 1) t d 1 v false (f + 1) ?_ ?_ HT.out ?_); rfl; rfl; rfl; rfl)
        (try simp only [Exit.inBlock, Exit.then])
        refine bodyPost_ret (results_run2 rfl _ _ (w.heap.size + 1) _ rfl H9.out.res rfl) rfl ?_
        exact ⟨rfl, H9.out.below⟩
    · have t3 : (t.Mode == 3) = false := by simp [h3]
      have e2 : evV t k = 2 := if_neg (by omega)
      rw [e2]
      clear e1 e2 hm hk hn hmo h3 hkk
      simp only [aggR] at KB ⊢
      go_enter Try.func18, Try.ntmps18
      go_wp2_with (fail)
      with_reducible refine (KB.out _).mono ?_
      rintro e w2 ⟨rfl, hb⟩
      have H2 := Lib.hid (HB.out.tells hb)
      clear hb HB
      have HT := Lib.hid (run_there H2.out.res)
      have H9 := Lib.hid (H2.out.tell (t' := t) (d' := d) (p' := 1) (l' := v) (s' := false) (f' := (f + 1)))
      go_wp2_with ((with_reducible refine store_run ?_ (.tmp 2) (.tmp 30) ?_ (w.heap.size + 1) t d 1 v false (f + 1) ?_ ?_ HT.out ?_); rfl; rfl; rfl; rfl)
      (try simp only [Exit.inBlock, Exit.then])
      refine bodyPost_ret (results_run2 rfl _ _ (w.heap.size + 1) _ rfl H9.out.res rfl) rfl ?_
      exact ⟨rfl, H9.out.below⟩
end Go.Proofs.Ytbofpbochgoafaa
