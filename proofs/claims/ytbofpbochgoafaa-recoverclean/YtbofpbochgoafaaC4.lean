/- The walk of the statement on runs without faults, and with nothing else. -/
import Derived.Test.YtbofpbochgoafaaSt
import Derived.Test.YtbofpbochgoafaaSz
namespace Go.Proofs.Ytbofpbochgoafaa
open Go.RowKit

/-- The task, a run at g, another at g2, the parts' row at gp. -/
structure Duo (w : World) (t : Tk) (g g2 gp : Nat) (d : Int) (k : Nat) (l : Int) (b : Bool) (f : Int) (k2 : Nat) (l2 : Int) (c2 : Bool) (f2 : Int) (ls : List Int) (W : World) : Prop where
  r : St w t g d k l b f W
  q : Lies W g2 28 (boxR t d k2 l2 c2 f2)
  row : Rest W gp 0 ls
  ne : g2 ≠ g
  gt : w.heap.size < g2
  ng : gp ≠ g
  nq : gp ≠ g2
section
variable {w W V W' : World} {t : Tk} {g g2 gp x : Nat} {d : Int} {k : Nat} {l : Int} {b : Bool} {f : Int} {k2 : Nat} {l2 : Int} {c2 : Bool} {f2 : Int} {ls : List Int} {k' : Nat} {l' : Int} {b' : Bool} {f' : Int}
theorem Duo.tells (h : Duo w t g g2 gp d k l b f k2 l2 c2 f2 ls W) (hb : Below W.heap.size W W') : Duo w t g g2 gp d k l b f k2 l2 c2 f2 ls W' := ⟨h.r.tells hb, h.q.below hb h.q.lt, h.row.tells hb, h.ne, h.gt, h.ng, h.nq⟩
theorem Duo.aside (h : Duo w t g g2 gp d k l b f k2 l2 c2 f2 ls W) (hx : W.heap.size ≤ x) (hb : Below W.heap.size W V) (hw : Wrote x V W') : Duo w t g g2 gp d k l b f k2 l2 c2 f2 ls W' := h.tells (hw.below _ _ hx hb)
theorem Duo.wroteR (h : Duo w t g g2 gp d k l b f k2 l2 c2 f2 ls W) {p : Int} (hp : p = (k' : Int)) (hw : Wrote g W W') (hl : Lies W' g 28 (boxR t d p l' b' f')) : Duo w t g g2 gp d k' l' b' f' k2 l2 c2 f2 ls W' := by
  subst hp
  obtain ⟨cs, h1, h2⟩ := h.row
  exact ⟨h.r.wrote hw hl, hw.others _ _ _ h.ne h.q, ⟨cs, hw.others _ _ _ h.ng h1, h2⟩, h.ne, h.gt, h.ng, h.nq⟩
theorem Duo.wroteQ (h : Duo w t g g2 gp d k l b f k2 l2 c2 f2 ls W) (hw : Wrote g2 W W') (hl : Lies W' g2 28 (boxR t d k' l' b' f')) : Duo w t g g2 gp d k l b f k' l' b' f' ls W' := by
  obtain ⟨cs, h1, h2⟩ := h.row
  exact ⟨⟨⟨hw.below _ _ (by have := h.gt; omega) h.r.box.below, hw.others _ _ _ (by have := h.gt; omega) h.r.box.lies⟩, h.r.gt, hw.others _ _ _ (fun he => h.ne he.symm) h.r.lies⟩, hl, ⟨cs, hw.others _ _ _ h.nq h1, h2⟩, h.ne, h.gt, h.ng, h.nq⟩
end
def CleanRel (w : World) (t : Tk) (g g2 gp : Nat) (d s : Int) (n : Nat) (iv : Value) (W : World) : Prop :=
  ∃ (i k : Nat) (l : Int) (b : Bool) (f : Int) (k2 : Nat) (l2 : Int) (c2 : Bool) (f2 : Int), iv = .int .i64 (i : Int) ∧ i ≤ n ∧ f = 0 ∧ (i < n → k = i ∧ l = pf s t.Cost d i ∧ b = false)
    ∧ Good t d s n k2 l2 f2 ∧ f2 ≤ uptoV s t.Cost d n i ∧ Duo w t g g2 gp d k l b f k2 l2 c2 f2 (pl s t.Cost d n) W
def InnerRel (w : World) (t : Tk) (g g2 gp : Nat) (d s : Int) (n i : Nat) (kv : Value) (W : World) : Prop :=
  ∃ (kk : Int) (k : Nat) (l : Int) (b : Bool) (f : Int) (k2 : Nat) (l2 : Int) (c2 : Bool) (f2 : Int), kv = .int .i64 kk ∧ 1 ≤ kk ∧ kk ≤ pf s t.Cost d i + 1 ∧ f = 0
    ∧ (kk ≤ pf s t.Cost d i → k = i ∧ l = pf s t.Cost d i - kk + 1 ∧ b = false) ∧ (kk = pf s t.Cost d i + 1 → i + 1 < n → k = i + 1 ∧ l = pf s t.Cost d (i + 1) ∧ b = false)
    ∧ Good t d s n k2 l2 f2 ∧ f2 ≤ uptoV s t.Cost d n i + kk - 1 ∧ Duo w t g g2 gp d k l b f k2 l2 c2 f2 (pl s t.Cost d n) W
theorem Stp.hit {t : Tk} {d s l f l' f' ev : Int} {n k k' : Nat} {b b' : Bool} (st : Stp t d s n k l b f true k' l' b' f' ev) : ev ≠ 4 ∧ ev ≠ 1 := by
  cases st with
  | runs hl => exact ⟨by omega, by omega⟩
  | fails hl hb ev hev => exact ⟨by omega, by omega⟩
  | done hl hb hk => simp at hb
  | passed hl hb hk => simp at hb
set_option maxRecDepth 100000 in
set_option maxHeartbeats 8000000 in
theorem coreClean (t : Tk) (d : Int) (w : World) : Calls Try.prog 5 #[aggK t, .int .i64 d] w (Woke w) := by
  have HB := Lib.hid (Box.made w t)
  have KS := Lib.hid (fun W => smallCall t d W)
  simp only [boxT] at HB
  simp only [aggK] at KS ⊢
  go_enter Try.func5, Try.ntmps5
  go_wp2_with (fail)
  refine (awake _).mono ?_
  rintro e w1 ⟨rfl, hb1⟩
  have HB1 := Lib.hid (HB.out.tells hb1)
  clear hb1 HB
  obtain ⟨y0, y1, y2, y3, y4, y5, y6, y7, y8, y9, y10⟩ := HB1.out.cells
  go_wp2_with (fail)
  with_reducible refine (KS.out _).mono ?_
  rintro e w2 ⟨rfl, hb2⟩
  have HB2 := Lib.hid (HB1.out.tells hb2)
  clear hb2 y0 y1 y2 y3 y4 y5 y6 y7 y8 y9 y10 HB1 KS
  obtain ⟨y0, y1, y2, y3, y4, y5, y6, y7, y8, y9, y10⟩ := HB2.out.cells
  cases hR : smallT t d with
  | false =>
    clear hR
    go_wp2_with (fail)
    refine (awake _).mono ?_
    rintro e w9 ⟨rfl, hb9⟩
    have H9 := Lib.hid (HB2.out.tells hb9)
    clear hb9
    go_wp2
    go_ret
    exact ⟨rfl, H9.out.below⟩
  | true =>
    obtain ⟨n, s, h⟩ := small_of hR
    clear hR
    have KB := Lib.hid (fun W => begin_ h W)
    have KP := Lib.hid (fun W => partsN h.fine h.ways h.dC (by have := h.C; omega) W)
    obtain ⟨b1, b2, b3, b4, b5, b6, b7⟩ := h.nums
    obtain ⟨s1, s2⟩ := h.sum
    clear y0 y1 y2 y3 y4 y5 y6 y7 y8 y9 y10
    go_wp2_with (first
     | (with_reducible refine load_task ?_ (.tmp 2) ?_ ?_ HB2.out.lies ?_
        rfl
        rfl
        rfl))
    with_reducible refine (KB.out _).mono ?_
    rintro e w3 ⟨rfl, hb3⟩
    have HB3 := Lib.hid (HB2.out.tells hb3)
    clear hb3 HB2 KB
    go_wp2_with (first
     | (with_reducible apply write_run (x := .tmp 7) (y := .tmp 31) (hL := hz2)
        rfl
        rfl
        rfl
        rfl
        intro W5 hw5 hl5
        have HS5 := Lib.hid (HS.out.aside hg2 hb2' hw5)
        have hgg : g < g2 := Nat.lt_of_lt_of_le HS.out.lies.lt hg2
        clear hw5 hz2 hb2' hg2 HS)
     | (with_reducible apply write_run (x := .tmp 5) (y := .tmp 29) (hL := hz)
        rfl
        rfl
        rfl
        rfl
        intro W4 hw hl
        have HS := Lib.hid (St.begun HB3.out hg hb hw hl)
        clear hw hl hz hb hg)
     | (have HS0 := HS
        with_reducible refine lay_run ?_ ?_ ?_
        rfl
        rfl
        intro g2 V2 hg2 hb2' hz2)
     | (with_reducible refine lay_run ?_ ?_ ?_
        rfl
        rfl
        intro g V hg hb hz)
     | (with_reducible refine load_run ?_ (.tmp 5) ?_ ?_ HS.out.lies ?_
        rfl
        rfl
        rfl)
     | (with_reducible refine load_task ?_ (.tmp 2) ?_ ?_ HS5.out.box.lies ?_
        rfl
        rfl
        rfl))
    with_reducible refine (KP.out _).mono ?_
    rintro en w6 ⟨gp, cp, rfl, hgp, hcp, hrp, hb6⟩
    have HD := Lib.hid (Duo.mk (gp := gp) (ls := pl s t.Cost d n) (HS5.out.tells hb6) (hl5.below hb6 hl5.lt) hrp (by omega) (by have := HS5.out.gt; omega) (by have := HS5.out.lies.lt; omega) (by have := hl5.lt; omega))
    have hw60 := HS5.out.below.size
    clear hb6 hrp HS5 hl5 KP hgp
    go_wp2
    go_loopw [9] (fun iv W => CleanRel w t g g2 gp d s n iv W) (fun iv _ => n - (intOf iv).toNat)
    case atStart => exact ⟨0, 0, _, false, 0, 0, _, false, 0, rfl, by omega, rfl, fun _ => ⟨rfl, len_first (.inl rfl), rfl⟩, Good.first h, by rw [upto_zero]; exact Int.le_refl _, HD.out⟩
    case round =>
      obtain ⟨i, k, l, b, f, k2, l2, c2, f2, rfl, hin, rfl, hr, hq, hq2, hd⟩ := hrel
      clear HD
      have HD := Lib.hid hd
      clear hd
      by_cases hlt : i < n
      · have q1 : decide ((i : Int) < (n : Int)) = true := by simp; omega
        obtain ⟨rfl, hl, rfl⟩ := hr hlt
        have hnx := upto_next (s := s) (c := t.Cost) (d := d) (n := n) hlt
        have hpp := h.part_pos hlt
        have hu1 := h.upto_mono (show k + 1 ≤ n by omega) (Nat.le_refl _)
        rw [upto_all, hnx] at hu1
        have hpi := pl_at (s := s) (c := t.Cost) (d := d) hlt
        obtain ⟨M, hM⟩ : ∃ M : Int, pf s t.Cost d k + 1 ≤ M := ⟨_, Int.le_refl _⟩
        go_wp2
        go_loopw [10] (fun kv W => InnerRel w t g g2 gp d s n k kv W) (fun kv _ => (M - intOf kv).toNat)
        case atStart => exact ⟨1, k, _, false, 0, k2, l2, c2, f2, rfl, by omega, by omega, rfl, fun _ => ⟨rfl, by omega, rfl⟩, fun he => by omega, hq, by omega, HD.out⟩
        case round =>
          clear HD hq hq2 hr hl
          obtain ⟨kk, k', l, b, f, k2, l2, c2, f2, rfl, hk1, hk2, rfl, hr, hr2, hq, hq2, hd⟩ := hrel
          have HD := Lib.hid hd
          clear hd
          have v0 := HD.out.row.cell (Nat.zero_le k) hpi
          have hq0 := hq.f0
          have hqm := hq.most h
          by_cases hle : kk ≤ pf s t.Cost d k
          · have c0 : decide (kk ≤ pf s t.Cost d k) = true := decide_eq_true hle
            obtain ⟨rfl, hl, rfl⟩ := hr hle
            have KQ := Lib.hid (fun W => step (f := f2) (b := c2) true h hq.part hq.l1 hqm hq.f0 (by omega) W)
            clear hr hr2
            have hki : IsPart t n k' := .inl hlt
            by_cases hend : kk = pf s t.Cost d k'
            · have c1 : (kk == pf s t.Cost d k') = true := by simp [hend]
              obtain rfl : l = 1 := by omega
              clear hl
              by_cases hlast : k' + 1 < n
              · have c2' : ((k' : Int) == (n : Int) - 1) = false := by simp; omega
                have KA := Lib.hid (fun W => step_passed (f := 0) h hlast W)
                have hlf := len_first (t := t) (s := s) (d := d) (k := k' + 1) (.inr (h.many hlast))
                have HK := Lib.hid hend
                clear hend
                go_wp2_with (first
                 | (with_reducible refine load_run ?_ (.tmp 5) ?_ ?_ HD.out.r.lies ?_
                    rfl
                    rfl
                    rfl))
                with_reducible refine (KA.out _).mono ?_
                rintro en w6 ⟨rfl, hb2⟩
                have HD2 := Lib.hid (HD.out.tells hb2)
                clear hb2 HD KA
                go_wp2_with (first
                 | (with_reducible refine lay_run ?_ ?_ ?_
                    rfl
                    rfl
                    intro gx Vx hgx hbx hzx)
                 | (with_reducible apply write_run (x := .tmp 11) (y := .tmp 54) (hL := hzx)
                    rfl
                    rfl
                    rfl
                    rfl
                    intro Wx hwx hlx
                    have HD3 := Lib.hid (HD2.out.aside hgx hbx hwx)
                    clear hwx hzx hbx hgx)
                 | (with_reducible refine load_run ?_ (.tmp 11) ?_ ?_ hlx ?_
                    rfl
                    rfl
                    rfl)
                 | (with_reducible apply write_run (x := .tmp 5) (y := .tmp 56) (hL := HD3.out.r.lies)
                    rfl
                    rfl
                    rfl
                    rfl
                    intro Wy hwy hly
                    have HD4 := Lib.hid (HD3.out.wroteR (k' := k' + 1) (by first | rfl | omega) hwy hly)
                    have v1 := HD4.out.row.cell (Nat.zero_le _) hpi
                    clear hwy hly hlx HD3)
                 | (with_reducible refine load_run ?_ (.tmp 7) ?_ ?_ HD4.out.q ?_
                    rfl
                    rfl
                    rfl))
                with_reducible refine (KQ.out _).mono ?_
                rintro en w7 ⟨k3, l3, b3, f3, ev, rfl, hb3, hst3⟩
                have HD5 := Lib.hid (HD4.out.tells hb3)
                obtain ⟨e4, e1⟩ := hst3.hit
                obtain ⟨gq3, gq4, gq5⟩ := hq.goes h hst3 e4
                have v4 : (ev == 4) = false := by simp [e4]
                have v1' : (ev == 1) = false := by simp [e1]
                clear hb3 HD4 KQ hst3 v1
                go_wp2_with (first
                 | (with_reducible refine lay_run ?_ ?_ ?_
                    rfl
                    rfl
                    intro gy Vy hgy hby hzy)
                 | (with_reducible apply write_run (x := .tmp 14) (y := .tmp 82) (hL := hzy)
                    rfl
                    rfl
                    rfl
                    rfl
                    intro Wz hwz hlz
                    have HD6 := Lib.hid (HD5.out.aside hgy hby hwz)
                    clear hwz hzy hby hgy)
                 | (with_reducible refine load_run ?_ (.tmp 14) ?_ ?_ hlz ?_
                    rfl
                    rfl
                    rfl)
                 | (with_reducible apply write_run (x := .tmp 7) (y := .tmp 84) (hL := HD6.out.q)
                    rfl
                    rfl
                    rfl
                    rfl
                    intro Wq hwq hlq
                    have HD7 := Lib.hid (HD6.out.wroteQ hwq hlq)
                    clear hwq hlq hlz HD6))
                go_roundw
                case rel => exact ⟨_, _, _, _, _, _, _, _, _, by go_num, by omega, by omega, rfl, fun hh => absurd hh (by have := HK.out; omega), fun _ _ => ⟨rfl, by first | rfl | exact hlf, rfl⟩, gq3, by omega, HD7.out⟩
                case measure => simp only [intOf]; omega
              · have c2' : ((k' : Int) == (n : Int) - 1) = true := by simp; omega
                have KA := Lib.hid (fun W => step_done (f := 0) h hki (by omega) W)
                have HK := Lib.hid hend
                clear hend
                go_wp2_with (first
                 | (with_reducible refine load_run ?_ (.tmp 5) ?_ ?_ HD.out.r.lies ?_
                    rfl
                    rfl
                    rfl))
                with_reducible refine (KA.out _).mono ?_
                rintro en w6 ⟨rfl, hb2⟩
                have HD2 := Lib.hid (HD.out.tells hb2)
                clear hb2 HD KA
                go_wp2_with (first
                 | (with_reducible refine lay_run ?_ ?_ ?_
                    rfl
                    rfl
                    intro gx Vx hgx hbx hzx)
                 | (with_reducible apply write_run (x := .tmp 11) (y := .tmp 54) (hL := hzx)
                    rfl
                    rfl
                    rfl
                    rfl
                    intro Wx hwx hlx
                    have HD3 := Lib.hid (HD2.out.aside hgx hbx hwx)
                    clear hwx hzx hbx hgx)
                 | (with_reducible refine load_run ?_ (.tmp 11) ?_ ?_ hlx ?_
                    rfl
                    rfl
                    rfl)
                 | (with_reducible apply write_run (x := .tmp 5) (y := .tmp 56) (hL := HD3.out.r.lies)
                    rfl
                    rfl
                    rfl
                    rfl
                    intro Wy hwy hly
                    have HD4 := Lib.hid (HD3.out.wroteR (k' := k') (by first | rfl | omega) hwy hly)
                    have v1 := HD4.out.row.cell (Nat.zero_le _) hpi
                    clear hwy hly hlx HD3)
                 | (with_reducible refine load_run ?_ (.tmp 7) ?_ ?_ HD4.out.q ?_
                    rfl
                    rfl
                    rfl))
                with_reducible refine (KQ.out _).mono ?_
                rintro en w7 ⟨k3, l3, b3, f3, ev, rfl, hb3, hst3⟩
                have HD5 := Lib.hid (HD4.out.tells hb3)
                obtain ⟨e4, e1⟩ := hst3.hit
                obtain ⟨gq3, gq4, gq5⟩ := hq.goes h hst3 e4
                have v4 : (ev == 4) = false := by simp [e4]
                have v1' : (ev == 1) = false := by simp [e1]
                clear hb3 HD4 KQ hst3 v1
                go_wp2_with (first
                 | (with_reducible refine lay_run ?_ ?_ ?_
                    rfl
                    rfl
                    intro gy Vy hgy hby hzy)
                 | (with_reducible apply write_run (x := .tmp 14) (y := .tmp 82) (hL := hzy)
                    rfl
                    rfl
                    rfl
                    rfl
                    intro Wz hwz hlz
                    have HD6 := Lib.hid (HD5.out.aside hgy hby hwz)
                    clear hwz hzy hby hgy)
                 | (with_reducible refine load_run ?_ (.tmp 14) ?_ ?_ hlz ?_
                    rfl
                    rfl
                    rfl)
                 | (with_reducible apply write_run (x := .tmp 7) (y := .tmp 84) (hL := HD6.out.q)
                    rfl
                    rfl
                    rfl
                    rfl
                    intro Wq hwq hlq
                    have HD7 := Lib.hid (HD6.out.wroteQ hwq hlq)
                    clear hwq hlq hlz HD6))
                go_roundw
                case rel => exact ⟨_, _, _, _, _, _, _, _, _, by go_num, by omega, by omega, rfl, fun hh => absurd hh (by have := HK.out; omega), fun _ hh => absurd hh hlast, gq3, by omega, HD7.out⟩
                case measure => simp only [intOf]; omega
            · have c1 : (kk == pf s t.Cost d k') = false := by simp [hend]
              have KA : Hid (∀ W, Calls Try.prog 10 #[aggR t d (k' : Int) l false 0, .bool false] W (Gives (.tuple #[aggR t d k' (l - 1) false 0, .int .i64 0]) W)) := Lib.hid (fun W => step_runs false (by omega) (by omega) W)
              have HLK := Lib.hid hl
              clear hl
              go_wp2_with (first
               | (with_reducible refine load_run ?_ (.tmp 5) ?_ ?_ HD.out.r.lies ?_
                  rfl
                  rfl
                  rfl))
              with_reducible refine (KA.out _).mono ?_
              rintro en w6 ⟨rfl, hb2⟩
              have HD2 := Lib.hid (HD.out.tells hb2)
              clear hb2 HD KA
              go_wp2_with (first
               | (with_reducible refine lay_run ?_ ?_ ?_
                  rfl
                  rfl
                  intro gx Vx hgx hbx hzx)
               | (with_reducible apply write_run (x := .tmp 11) (y := .tmp 54) (hL := hzx)
                  rfl
                  rfl
                  rfl
                  rfl
                  intro Wx hwx hlx
                  have HD3 := Lib.hid (HD2.out.aside hgx hbx hwx)
                  clear hwx hzx hbx hgx)
               | (with_reducible refine load_run ?_ (.tmp 11) ?_ ?_ hlx ?_
                  rfl
                  rfl
                  rfl)
               | (with_reducible apply write_run (x := .tmp 5) (y := .tmp 56) (hL := HD3.out.r.lies)
                  rfl
                  rfl
                  rfl
                  rfl
                  intro Wy hwy hly
                  have HD4 := Lib.hid (HD3.out.wroteR (k' := k') (by first | rfl | omega) hwy hly)
                  have v1 := HD4.out.row.cell (Nat.zero_le _) hpi
                  clear hwy hly hlx HD3)
               | (with_reducible refine load_run ?_ (.tmp 7) ?_ ?_ HD4.out.q ?_
                  rfl
                  rfl
                  rfl))
              with_reducible refine (KQ.out _).mono ?_
              rintro en w7 ⟨k3, l3, b3, f3, ev, rfl, hb3, hst3⟩
              have HD5 := Lib.hid (HD4.out.tells hb3)
              obtain ⟨e4, e1⟩ := hst3.hit
              obtain ⟨gq3, gq4, gq5⟩ := hq.goes h hst3 e4
              have v4 : (ev == 4) = false := by simp [e4]
              have v1' : (ev == 1) = false := by simp [e1]
              clear hb3 HD4 KQ hst3 v1
              go_wp2_with (first
               | (with_reducible refine lay_run ?_ ?_ ?_
                  rfl
                  rfl
                  intro gy Vy hgy hby hzy)
               | (with_reducible apply write_run (x := .tmp 14) (y := .tmp 82) (hL := hzy)
                  rfl
                  rfl
                  rfl
                  rfl
                  intro Wz hwz hlz
                  have HD6 := Lib.hid (HD5.out.aside hgy hby hwz)
                  clear hwz hzy hby hgy)
               | (with_reducible refine load_run ?_ (.tmp 14) ?_ ?_ hlz ?_
                  rfl
                  rfl
                  rfl)
               | (with_reducible apply write_run (x := .tmp 7) (y := .tmp 84) (hL := HD6.out.q)
                  rfl
                  rfl
                  rfl
                  rfl
                  intro Wq hwq hlq
                  have HD7 := Lib.hid (HD6.out.wroteQ hwq hlq)
                  clear hwq hlq hlz HD6))
              go_roundw
              case rel => exact ⟨_, _, _, _, _, _, _, _, _, by go_num, by omega, by omega, rfl, fun hh => ⟨rfl, by have := HLK.out; omega, rfl⟩, fun hh => absurd hh (by omega), gq3, by omega, HD7.out⟩
              case measure => simp only [intOf]; omega
          · have c0 : decide (kk ≤ pf s t.Cost d k) = false := decide_eq_false hle
            have HR2 := Lib.hid (fun (hh : k + 1 < n) => hr2 (by omega) hh)
            have HX := Lib.hid hnx
            clear hr hr2
            go_wp2
            go_roundw
            case rel => exact ⟨k + 1, _, _, _, _, _, _, _, _, by go_num, by omega, rfl, HR2.out, hq, by rw [HX.out]; omega, HD.out⟩
            case measure => simp [intOf]; omega
      · have q1 : decide ((i : Int) < (n : Int)) = false := by simp; omega
        have x15 := HD.out.r.fails
        go_wp2
        go_ret
        exact ⟨rfl, HD.out.r.below⟩
end Go.Proofs.Ytbofpbochgoafaa
