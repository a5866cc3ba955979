/- The walk of BurstKeeps; what opens each statement over faults that come in. -/
import Derived.Test.YtckdnnmkookedaaC1
namespace Go.Proofs.Ytckdnnmkookedaa
open Go.RowKit

/-- Block o, from place k on, holds the numbers of l. -/
def Rest (W : World) (o : Nat) (n : Nat) : Prop := ∃ cs : Array Value, Lies W o 3 cs ∧ n ≤ cs.size
theorem Rest.lt {W : World} {o n : Nat} (h : Rest W o n) : o < W.heap.size := by obtain ⟨cs, h1, _⟩ := h; exact h1.lt
theorem Rest.thawed {W : World} {o n : Nat} (h : Rest W o n) (i : Nat) : W.frozen? ⟨o, i, none⟩ = false := by obtain ⟨cs, h1, _⟩ := h; exact h1.thawed i
theorem Rest.some {W : World} {o n : Nat} (h : Rest W o n) {i : Nat} (hi : i < n) : ∃ v, W.cell? ⟨o, i, none⟩ = some v := by
  obtain ⟨cs, h1, h2⟩ := h
  exact ⟨_, by rw [h1.cell]; exact Array.getElem?_eq_getElem (by omega)⟩
theorem Rest.put {W : World} {o n : Nat} (h : Rest W o n) (j : Nat) (v : Value) : Rest (W.setCell ⟨o, j, none⟩ v) o n := by
  obtain ⟨cs, h1, h2⟩ := h
  exact ⟨_, h1.here j v, by simpa using h2⟩
theorem own_rest {w : World} {base : Nat} {v : Value} {n : Nat} {l : List Int} (h : w.ownsRow base 3 1 v n (cellsI l)) (h0 : 0 < n) : ∃ g c, v = .slice (some ⟨g, 0, none⟩) n c ∧ base ≤ g ∧ n ≤ c ∧ Rest w g n := by
  rcases h.2 with ⟨_, rfl⟩ | ⟨g, cap, cur, rfl, hbb, hg, hnc, _, hcs, ht⟩
  · omega
  · exact ⟨g, cap, rfl, hbb, hnc, cur, hg, by omega⟩
/-- Places are written over; only the call's own row turns. -/
def OverRel (A : Option Addr) (n B : Nat) (w1 : World) (i : Value) (W : World) : Prop := ∃ k : Nat, k ≤ n ∧ i = .int .i64 (k : Int) ∧ (∀ g, A = some ⟨g, 0, none⟩ → Rest W g n) ∧ Below B w1 W
set_option maxHeartbeats 4000000 in
theorem keeps {A : Option Addr} {c n : Nat} {l : List Int} (b : Int) (w : World) (h : Ints w A c l) (hn : l.length = n) (b0 : 0 ≤ b) (b1 : b < 256) :
    Calls Try.prog 6 #[.slice A n c, .int .u8 b] w (Woke w) := by
  have KA := Lib.hid (fun W => awake W)
  by_cases hl : n ≤ 300
  · have t1 : decide ((300 : Int) < (n : Int)) = false := by simp; omega
    have t1' : decide (300 < n) = false := by simp; omega
    have HI := Lib.hid h
    clear h
    go_enter Try.func6, Try.ntmps6
    go_wp2_with (fail)
    with_reducible refine (KA.out _).mono ?_
    rintro e w1 ⟨rfl, hb1⟩
    have HB1 := Lib.hid hb1
    have HI1 := Lib.hid (HI.out.tells hb1)
    have KR := Lib.hid (right HI1.out hn (by omega))
    clear hb1
    go_wp2_with (fail)
    with_reducible refine KR.out.mono ?_
    rintro e w2 ⟨r, rfl, hr, m, rfl⟩
    clear KR
    cases r
    · go_wp2_with (fail)
      with_reducible refine (KA.out _).mono ?_
      rintro e w2 ⟨rfl, hb2⟩
      have HB2 := Lib.hid ((below_drewN HB1.out m).trans (hb2.mono HB1.out.size))
      clear hb2
      go_wp2
      go_ret
      exact ⟨rfl, HB2.out⟩
    · have HG := Lib.hid (hr rfl)
      clear hr KA
      obtain ⟨X, hX⟩ : ∃ X, X = w1.drewN m := ⟨_, rfl⟩
      have HI2 : Hid (Ints X A c l) := Lib.hid (by rw [hX]; exact HI1.out.drewN m)
      have HB2 : Hid (Below w.heap.size w X) := Lib.hid (by rw [hX]; exact below_drewN HB1.out m)
      rw [← hX]
      clear hX
      clear HI1 HB1
      have HI3 := Lib.hid (HI2.out.alloc (.cells #[] 3))
      have HE := Lib.hid (World.ownsRow_lit (e := 3) (size := 1) X #[] 0 (Nat.le_refl _) (by unfold maxLen; omega) rfl)
      go_wp2_with (at_builtin; first
        | (refine append_ints _ rfl _ _ rfl X.heap.size _ 0 [] rfl HE.out _ n c l rfl hn HI3.out (by omega) (by simp) ?_
           intro v2 w2 o2 g2
           rw [List.nil_append] at o2
           obtain ⟨_, A2, c2, hv2, hJ⟩ := own_ints o2
           subst hv2
           have HJ := Lib.hid hJ
           have HXB : Hid (Below X.heap.size X w2) := Lib.hid ((below_new X (.cells #[] 3)).grown g2 (by simp) (own_from HE.out))
           have HB3 := Lib.hid (HB2.out.trans (HXB.out.mono HB2.out.size))
           have HI4 := Lib.hid (HI2.out.tells HXB.out)
           have KS := Lib.hid (starts (1 + b) HI4.out hn (by omega) HG.out.1 (by omega) (by omega))
           clear o2 g2 hJ))
      have hq : (startsF (1 + b) l).length ≤ 300 := by have := starts_len (1 + b) l; omega
      generalize startsF (1 + b) l = S at *
      with_reducible refine KS.out.mono ?_
      rintro e w3 ⟨v, rfl, ho, hb3⟩
      have HO := Lib.hid ho
      have HW := Lib.hid hb3
      obtain ⟨_, A3, c3, rfl, _⟩ := own_ints ho
      clear ho hb3 KS
      have HR : Hid (0 < S.length → ∃ g, A3 = some ⟨g, 0, none⟩ ∧ w2.heap.size ≤ g ∧ Rest w3 g S.length) := Lib.hid (fun h0 => by
        obtain ⟨g, c4, e, h1, _, h3⟩ := own_rest HO.out h0
        cases e
        exact ⟨g, rfl, h1, h3⟩)
      have HR2 : Hid (∀ g, A3 = some ⟨g, 0, none⟩ → Rest w3 g S.length) := Lib.hid (fun g e => by
        rcases HO.out.2 with ⟨e2, _⟩ | ⟨g', cap, cur, e2, hbb, hg, hnc, _, hcs, ht⟩
        · simp only [Value.slice.injEq] at e2; rw [e2.1] at e; cases e
        · cases e2; cases e; exact ⟨cur, hg, by omega⟩)
      generalize S.length = q at *
      clear HO
      go_wp2
      go_loopw [7] (fun i W => OverRel A3 q w2.heap.size w3 i W) (fun i _ => q - (intOf i).toNat)
      case atStart => exact ⟨0, by omega, rfl, HR2.out, Below.refl _ _⟩
      case round =>
        obtain ⟨k, hk, rfl, hrr, hbw⟩ := hrel
        have HRR := Lib.hid hrr
        have HBW := Lib.hid hbw
        clear hrr hbw
        by_cases hlt : k < q
        · have t2 : decide ((k : Int) < (q : Int)) = true := by simp; omega
          obtain ⟨g, rfl, hg, _⟩ := HR.out (by omega)
          have hrg := HRR.out g rfl
          have hgl := hrg.lt
          have hgf := hrg.thawed k
          obtain ⟨u, hu⟩ := hrg.some hlt
          have HN : Hid (OverRel (some ⟨g, 0, none⟩) q w2.heap.size w3 (.int .i64 ((k : Int) + 1)) (wr.setCell ⟨g, k, none⟩ (.int .i64 (-1)))) := Lib.hid ⟨k + 1, by omega, by go_num, fun g' e => by cases e; exact hrg.put k _, HBW.out.setCell hg _⟩
          clear hrg
          go_wp2
          go_roundw
          case rel => exact HN.out
          case measure => simp [intOf]; omega
        · have t2 : decide ((k : Int) < (q : Int)) = false := by simp; omega
          have t2' : decide (k < q) = false := by simp; omega
          have HT := Lib.hid (HW.out.trans HBW.out)
          have KE := Lib.hid (refSame hn (by omega) (HI4.out.tells HT.out) (HJ.out.tells HT.out))
          go_wp2_with (fail)
          with_reducible refine KE.out.mono ?_
          rintro e w5 ⟨rfl, m5, rfl⟩
          go_wp2
          go_ret
          exact ⟨rfl, below_drewN (HB3.out.trans (HT.out.mono HB3.out.size)) _⟩
  · have t1 : decide ((300 : Int) < (n : Int)) = true := by simp; omega
    have t1' : decide (300 < n) = true := by simp; omega
    clear h
    go_enter Try.func6, Try.ntmps6
    go_wp2_with (fail)
    with_reducible refine (KA.out _).mono ?_
    rintro e w1 ⟨rfl, hb1⟩
    have HB1 := Lib.hid hb1
    clear hb1
    go_wp2_with (fail)
    with_reducible refine (KA.out _).mono ?_
    rintro e w2 ⟨rfl, hb2⟩
    have HB2 := Lib.hid (HB1.out.trans (hb2.mono HB1.out.size))
    clear hb2
    go_wp2
    go_ret
    exact ⟨rfl, HB2.out⟩
end Go.Proofs.Ytckdnnmkookedaa
