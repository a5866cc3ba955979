/- The walk of the statement on one tick that is struck. -/
import Derived.Test.YtbofpbochgoafaaSt
import Derived.Test.YtbofpbochgoafaaSz
namespace Go.Proofs.Ytbofpbochgoafaa
open Go.RowKit

def PlaceRel (t : Tk) (d s : Int) (n : Nat) (z : Int) (w : World) (pv fv : Value) (W : World) : Prop :=
  ∃ p : Nat, pv = .int .i64 (p : Int) ∧ fv = .int .i64 (uptoV s t.Cost d n p) ∧ p < n ∧ uptoV s t.Cost d n p ≤ z ∧ W = w
def HitRel (w : World) (t : Tk) (g : Nat) (d s : Int) (n p : Nat) (z : Int) (iv : Value) (W : World) : Prop :=
  ∃ (k : Nat) (l : Int) (b : Bool) (f : Int) (i : Nat), iv = .int .i64 (i : Int) ∧ St w t g d k l b f W ∧ (HitI t d s n p z k l b f i ∨ ((i : Int) = (pl s t.Cost d n).sum + moreV t s d p ∧ f = 1))
set_option maxRecDepth 100000 in
set_option maxHeartbeats 8000000 in
theorem coreHits (t : Tk) (d at_ : Int) (w : World) (a0 : 0 ≤ at_) (a1 : at_ < 65536) : Calls Try.prog 6 #[aggK t, .int .i64 d, .int .u16 at_] w (Woke w) := by
  have HB := Lib.hid (Box.made w t)
  have KS := Lib.hid (fun W => smallCall t d W)
  simp only [boxT] at HB
  simp only [aggK] at KS ⊢
  go_enter Try.func6, Try.ntmps6
  go_wp2_with (fail)
  refine (awake _).mono ?_
  rintro e w1 ⟨rfl, hb1⟩
  have HB1 := Lib.hid (HB.out.tells hb1)
  clear hb1 HB
  obtain ⟨y0, y1, y2, y3, y4, y5, y6, y7, y8, y9, y10⟩ := HB1.out.cells
  go_wp2_with (fail)
  with_reducible refine (KS.out _).mono ?_
  rintro e w2 ⟨rfl, hb2⟩
  have HB2 := Lib.hid (HB1.out.tells hb2)
  clear hb2 y0 y1 y2 y3 y4 y5 y6 y7 y8 y9 y10 HB1 KS
  obtain ⟨y0, y1, y2, y3, y4, y5, y6, y7, y8, y9, y10⟩ := HB2.out.cells
  cases hR : smallT t d with
  | false =>
    clear hR
    go_wp2_with (fail)
    refine (awake _).mono ?_
    rintro e w9 ⟨rfl, hb9⟩
    have H9 := Lib.hid (HB2.out.tells hb9)
    clear hb9
    go_wp2
    go_ret
    exact ⟨rfl, H9.out.below⟩
  | true =>
    obtain ⟨n, s, h⟩ := small_of hR
    clear hR
    have KP := Lib.hid (fun W => partsN h.fine h.ways h.dC (by have := h.C; omega) W)
    have HPS := Lib.hid (pl_small h.fine h.ways h.dC (by have := h.C; omega))
    have LP := Lib.hid (length_pl s t.Cost d n)
    obtain ⟨b1, b2, b3, b4, b5, b6, b7⟩ := h.nums
    obtain ⟨s1, s2⟩ := h.sum
    have hA5 := h.A
    have hCo := h.Cost
    go_wp2_with (first
     | (with_reducible refine load_task ?_ (.tmp 3) ?_ ?_ HB2.out.lies ?_
        rfl
        rfl
        rfl))
    with_reducible refine (KP.out _).mono ?_
    rintro en w5 ⟨gp, cp, rfl, hgp, hcp, hrp, hb5⟩
    have HB5 := Lib.hid (HB2.out.tells hb5)
    have HR5 := Lib.hid hrp
    have cSum := sumG (v := (pl s t.Cost d n).sum) LP.out (by omega) HPS.out hcp hrp rfl
    clear hb5 hrp hgp HB2 KP y0 y1 y2 y3 y4 y5 y6 y7 y8 y9 y10
    go_wp2_with (fail)
    with_reducible refine cSum.mono ?_
    rintro en w6 ⟨rfl, hb6⟩
    have HB6 := Lib.hid (HB5.out.tells hb6)
    have HR6 := Lib.hid (HR5.out.tells hb6)
    clear hb6 cSum HB5 HR5
    obtain ⟨S0, hS0⟩ : ∃ S0, S0 = (pl s t.Cost d n).sum := ⟨_, rfl⟩
    rw [← hS0] at s1 s2 ⊢
    have HSS := Lib.hid hS0
    have r0 := Int.emod_nonneg at_ (show S0 ≠ 0 by omega)
    have r1 := Int.emod_lt_of_pos at_ (show 0 < S0 by omega)
    have hne : (S0 == 0) = false := by simp; omega
    have HC := Lib.hid (fun (i : Nat) (x : Int) (hx : (pl s t.Cost d n)[i]? = some x) => HR6.out.cell (i := i) (Nat.zero_le _) hx)
    clear hS0
    go_wp2
    obtain ⟨z, hz⟩ : ∃ z, z = at_ % S0 := ⟨_, rfl⟩
    rw [← hz] at r0 r1 ⊢
    clear hz
    go_loopw [10, 11] (fun pv fv W => PlaceRel t d s n z w6 pv fv W) (fun pv _ _ => n - (intOf pv).toNat)
    case atStart => exact ⟨0, rfl, by rw [upto_zero], by omega, by rw [upto_zero]; exact r0, rfl⟩
    case round =>
      obtain ⟨p, rfl, rfl, hpn, hlow, rfl⟩ := hrel
      have v0 := HC.out p _ (pl_at hpn)
      have hnx := upto_next (s := s) (c := t.Cost) (d := d) (n := n) hpn
      have hpp := h.part_pos hpn
      have hu0 := h.upto_mono (show 0 ≤ p by omega) (by omega)
      have hu1 := h.upto_mono (show p ≤ n by omega) (Nat.le_refl _)
      rw [upto_zero] at hu0
      rw [upto_all, ← HSS.out] at hu1
      by_cases hle : uptoV s t.Cost d n p + pf s t.Cost d p ≤ z
      · have q1 : decide (uptoV s t.Cost d n p + pf s t.Cost d p ≤ z) = true := decide_eq_true hle
        have hp1 : p + 1 < n := by
          by_cases hpe : p + 1 = n
          · have h3 : uptoV s t.Cost d n (p + 1) = (pl s t.Cost d n).sum := by rw [hpe]; exact upto_all _
            rw [hnx, ← HSS.out] at h3
            omega
          · omega
        have HNX := Lib.hid hnx
        generalize uptoV s t.Cost d n p = up at *
        generalize pf s t.Cost d p = pp at *
        clear hnx
        go_wp2
        go_roundw
        case rel => exact ⟨p + 1, by go_num, by rw [HNX.out], hp1, by rw [HNX.out]; exact hle, rfl⟩
        case measure => simp [intOf]; omega
      · have q1 : decide (uptoV s t.Cost d n p + pf s t.Cost d p ≤ z) = false := decide_eq_false hle
        have hP : HitP t d s n p z := ⟨hpn, hlow, by rw [hnx]; omega⟩
        clear hnx hlow
        obtain ⟨y0, y1, y2, y3, y4, y5, y6, y7, y8, y9, y10⟩ := HB6.out.cells
        by_cases hm : t.Mode = 1
        · have t1' : (t.Mode != 1) = false := by simp [hm]
          have t1 := mode_yes hm
          have HMO := Lib.hid (show moreV t s d p = pf s t.Cost d p from if_pos hm)
          clear hm
          generalize uptoV s t.Cost d n p = up at *
          generalize pf s t.Cost d p = mo at *
          have KB := Lib.hid (fun W => begin_ h W)
          go_wp2_with (first
           | (with_reducible refine load_task ?_ (.tmp 3) ?_ ?_ HB6.out.lies ?_
              rfl
              rfl
              rfl))
          with_reducible refine (KB.out _).mono ?_
          rintro e w7 ⟨rfl, hb3⟩
          have HB7 := Lib.hid (HB6.out.tells hb3)
          clear hb3 KB
          go_wp2_with (first
           | (with_reducible refine lay_run ?_ ?_ ?_
              rfl
              rfl
              intro g V hg hb hz)
           | (with_reducible apply write_run (x := .tmp 13) (y := .tmp 68) (hL := hz)
              rfl
              rfl
              rfl
              rfl
              intro W4 hw hl
              have HS := Lib.hid (St.begun HB7.out hg hb hw hl)
              clear hw hl hz hb hg))
          go_wp2
          obtain ⟨M, hM⟩ : ∃ M : Int, 600000 ≤ M := ⟨600000, Int.le_refl _⟩
          go_loopw [15] (fun iv W => HitRel w t g d s n p z iv W) (fun iv _ => (M - intOf iv).toNat)
          case atStart => exact ⟨0, _, _, _, 0, rfl, HS.out, .inl (HitI.first h hP)⟩
          case round =>
            obtain ⟨k, l, b, f, i, rfl, hst, hc⟩ := hrel
            clear HS
            have HS := Lib.hid hst
            clear hst
            rw [HMO.out] at hc
            rcases hc with hc | ⟨hi, hf⟩
            · obtain ⟨g1, g2, g3, g4, g5, g6⟩ := hc.good h hP
              rw [HMO.out, ← HSS.out] at g6
              have q1 : decide ((i : Int) < S0 + mo) = true := decide_eq_true (by omega)
              have KT : Hid (∀ W, Calls Try.prog 10 #[aggR t d (k : Int) l b f, .bool ((i : Int) == z)] W (Stepped t d s n k l b f ((i : Int) == z) W)) := Lib.hid (fun W => step ((i : Int) == z) h g1 g2 g3 g4 (by omega) W)
              have HGo := Lib.hid (fun (k' : Nat) (l' : Int) (b' : Bool) (f' ev : Int) (st : Stp t d s n k l b f ((i : Int) == z) k' l' b' f' ev) => hc.goes h hP rfl st)
              clear hc
              go_wp2_with (first
               | (with_reducible refine load_run ?_ (.tmp 13) ?_ ?_ HS.out.lies ?_
                  rfl
                  rfl
                  rfl))
              with_reducible refine (KT.out _).mono ?_
              rintro en w8 ⟨k', l', b', f', ev, rfl, hb2, hst2⟩
              have HS2 := Lib.hid (HS.out.tells hb2)
              have hcs := HGo.out _ _ _ _ _ hst2
              rw [HMO.out, ← HSS.out] at hcs
              clear hb2 HS KT HGo hst2
              rcases hcs with ⟨rfl, hend, hf1⟩ | ⟨he, hlt, hN⟩
              · have v5 : ((i : Int) == S0 + mo - 1) = true := by simp; omega
                have v5' : (i : Int) = S0 + mo - 1 := by omega
                go_wp2_with (first
                 | (with_reducible refine lay_run ?_ ?_ ?_
                    rfl
                    rfl
                    intro gx Vx hgx hbx hzx)
                 | (with_reducible apply write_run (x := .tmp 16) (y := .tmp 85) (hL := hzx)
                    rfl
                    rfl
                    rfl
                    rfl
                    intro Wx hwx hlx
                    have HS3 := Lib.hid (HS2.out.aside hgx hbx hwx)
                    clear hwx hzx hbx hgx)
                 | (with_reducible refine load_run ?_ (.tmp 16) ?_ ?_ hlx ?_
                    rfl
                    rfl
                    rfl)
                 | (with_reducible apply write_run (x := .tmp 13) (y := .tmp 87) (hL := HS3.out.lies)
                    rfl
                    rfl
                    rfl
                    rfl
                    intro Wy hwy hly
                    have HS4 := Lib.hid (HS3.out.wrote hwy hly)
                    clear hwy hly hlx HS3))
                go_roundw
                case rel => exact ⟨_, _, _, _, i + 1, by go_num, HS4.out, .inr ⟨by rw [HMO.out, ← HSS.out]; omega, by first | rfl | exact hf1⟩⟩
                case measure => simp only [intOf]; omega
              · have v4 : (ev == 4) = false := by simp [he]
                have v5 : ((i : Int) == S0 + mo - 1) = false := by simp; omega
                have HN := Lib.hid hN
                clear hN
                go_wp2_with (first
                 | (with_reducible refine lay_run ?_ ?_ ?_
                    rfl
                    rfl
                    intro gx Vx hgx hbx hzx)
                 | (with_reducible apply write_run (x := .tmp 16) (y := .tmp 85) (hL := hzx)
                    rfl
                    rfl
                    rfl
                    rfl
                    intro Wx hwx hlx
                    have HS3 := Lib.hid (HS2.out.aside hgx hbx hwx)
                    clear hwx hzx hbx hgx)
                 | (with_reducible refine load_run ?_ (.tmp 16) ?_ ?_ hlx ?_
                    rfl
                    rfl
                    rfl)
                 | (with_reducible apply write_run (x := .tmp 13) (y := .tmp 87) (hL := HS3.out.lies)
                    rfl
                    rfl
                    rfl
                    rfl
                    intro Wy hwy hly
                    have HS4 := Lib.hid (HS3.out.wrote hwy hly)
                    clear hwy hly hlx HS3))
                go_roundw
                case rel => exact ⟨_, _, _, _, i + 1, by go_num, HS4.out, .inl HN.out⟩
                case measure => simp only [intOf]; omega
            · rw [← HSS.out] at hi
              have q1 : decide ((i : Int) < S0 + mo) = false := decide_eq_false (by omega)
              subst hf
              have x15 := HS.out.fails
              go_wp2
              go_ret
              exact ⟨rfl, HS.out.below⟩
        · have t1' : (t.Mode != 1) = true := by simp [hm]
          have t1 := mode_no hm
          have HMO := Lib.hid (show moreV t s d p = t.A + t.Cost from if_neg hm)
          have hmo := h.more_pos hpn
          rw [HMO.out] at hmo
          have hA0 : 0 ≤ t.A := by rcases h.fine.again with ⟨m, _, _⟩ | ⟨_, m, _⟩ <;> omega
          clear hm
          generalize uptoV s t.Cost d n p = up at *
          generalize pf s t.Cost d p = mo at *
          have KB := Lib.hid (fun W => begin_ h W)
          go_wp2_with (first
           | (with_reducible refine load_task ?_ (.tmp 3) ?_ ?_ HB6.out.lies ?_
              rfl
              rfl
              rfl))
          with_reducible refine (KB.out _).mono ?_
          rintro e w7 ⟨rfl, hb3⟩
          have HB7 := Lib.hid (HB6.out.tells hb3)
          clear hb3 KB
          go_wp2_with (first
           | (with_reducible refine lay_run ?_ ?_ ?_
              rfl
              rfl
              intro g V hg hb hz)
           | (with_reducible apply write_run (x := .tmp 13) (y := .tmp 68) (hL := hz)
              rfl
              rfl
              rfl
              rfl
              intro W4 hw hl
              have HS := Lib.hid (St.begun HB7.out hg hb hw hl)
              clear hw hl hz hb hg))
          go_wp2
          obtain ⟨M, hM⟩ : ∃ M : Int, 600000 ≤ M := ⟨600000, Int.le_refl _⟩
          go_loopw [15] (fun iv W => HitRel w t g d s n p z iv W) (fun iv _ => (M - intOf iv).toNat)
          case atStart => exact ⟨0, _, _, _, 0, rfl, HS.out, .inl (HitI.first h hP)⟩
          case round =>
            obtain ⟨k, l, b, f, i, rfl, hst, hc⟩ := hrel
            clear HS
            have HS := Lib.hid hst
            clear hst
            rw [HMO.out] at hc
            rcases hc with hc | ⟨hi, hf⟩
            · obtain ⟨g1, g2, g3, g4, g5, g6⟩ := hc.good h hP
              rw [HMO.out, ← HSS.out] at g6
              have q1 : decide ((i : Int) < S0 + (t.A + t.Cost)) = true := decide_eq_true (by omega)
              have KT : Hid (∀ W, Calls Try.prog 10 #[aggR t d (k : Int) l b f, .bool ((i : Int) == z)] W (Stepped t d s n k l b f ((i : Int) == z) W)) := Lib.hid (fun W => step ((i : Int) == z) h g1 g2 g3 g4 (by omega) W)
              have HGo := Lib.hid (fun (k' : Nat) (l' : Int) (b' : Bool) (f' ev : Int) (st : Stp t d s n k l b f ((i : Int) == z) k' l' b' f' ev) => hc.goes h hP rfl st)
              clear hc
              go_wp2_with (first
               | (with_reducible refine load_run ?_ (.tmp 13) ?_ ?_ HS.out.lies ?_
                  rfl
                  rfl
                  rfl))
              with_reducible refine (KT.out _).mono ?_
              rintro en w8 ⟨k', l', b', f', ev, rfl, hb2, hst2⟩
              have HS2 := Lib.hid (HS.out.tells hb2)
              have hcs := HGo.out _ _ _ _ _ hst2
              rw [HMO.out, ← HSS.out] at hcs
              clear hb2 HS KT HGo hst2
              rcases hcs with ⟨rfl, hend, hf1⟩ | ⟨he, hlt, hN⟩
              · have v5 : ((i : Int) == S0 + (t.A + t.Cost) - 1) = true := by simp; omega
                have v5' : (i : Int) = S0 + (t.A + t.Cost) - 1 := by omega
                go_wp2_with (first
                 | (with_reducible refine lay_run ?_ ?_ ?_
                    rfl
                    rfl
                    intro gx Vx hgx hbx hzx)
                 | (with_reducible apply write_run (x := .tmp 16) (y := .tmp 85) (hL := hzx)
                    rfl
                    rfl
                    rfl
                    rfl
                    intro Wx hwx hlx
                    have HS3 := Lib.hid (HS2.out.aside hgx hbx hwx)
                    clear hwx hzx hbx hgx)
                 | (with_reducible refine load_run ?_ (.tmp 16) ?_ ?_ hlx ?_
                    rfl
                    rfl
                    rfl)
                 | (with_reducible apply write_run (x := .tmp 13) (y := .tmp 87) (hL := HS3.out.lies)
                    rfl
                    rfl
                    rfl
                    rfl
                    intro Wy hwy hly
                    have HS4 := Lib.hid (HS3.out.wrote hwy hly)
                    clear hwy hly hlx HS3))
                go_roundw
                case rel => exact ⟨_, _, _, _, i + 1, by go_num, HS4.out, .inr ⟨by rw [HMO.out, ← HSS.out]; omega, by first | rfl | exact hf1⟩⟩
                case measure => simp only [intOf]; omega
              · have v4 : (ev == 4) = false := by simp [he]
                have v5 : ((i : Int) == S0 + (t.A + t.Cost) - 1) = false := by simp; omega
                have HN := Lib.hid hN
                clear hN
                go_wp2_with (first
                 | (with_reducible refine lay_run ?_ ?_ ?_
                    rfl
                    rfl
                    intro gx Vx hgx hbx hzx)
                 | (with_reducible apply write_run (x := .tmp 16) (y := .tmp 85) (hL := hzx)
                    rfl
                    rfl
                    rfl
                    rfl
                    intro Wx hwx hlx
                    have HS3 := Lib.hid (HS2.out.aside hgx hbx hwx)
                    clear hwx hzx hbx hgx)
                 | (with_reducible refine load_run ?_ (.tmp 16) ?_ ?_ hlx ?_
                    rfl
                    rfl
                    rfl)
                 | (with_reducible apply write_run (x := .tmp 13) (y := .tmp 87) (hL := HS3.out.lies)
                    rfl
                    rfl
                    rfl
                    rfl
                    intro Wy hwy hly
                    have HS4 := Lib.hid (HS3.out.wrote hwy hly)
                    clear hwy hly hlx HS3))
                go_roundw
                case rel => exact ⟨_, _, _, _, i + 1, by go_num, HS4.out, .inl HN.out⟩
                case measure => simp only [intOf]; omega
            · rw [← HSS.out] at hi
              have q1 : decide ((i : Int) < S0 + (t.A + t.Cost)) = false := decide_eq_false (by omega)
              subst hf
              have x15 := HS.out.fails
              go_wp2
              go_ret
              exact ⟨rfl, HS.out.below⟩
end Go.Proofs.Ytbofpbochgoafaa
