/- The walk of the statement on how many ticks a run takes yet. -/
import Derived.Test.YtbofpbochgoafaaSt
import Derived.Test.YtbofpbochgoafaaSy
import Derived.Test.YtbofpbochgoafaaWj
import Derived.Deep.RegionHeld3
namespace Go.Proofs.Ytbofpbochgoafaa
open Go.RowKit

def RestRel (w : World) (t : Tk) (g : Nat) (d s : Int) (n N : Nat) (iv : Value) (W : World) : Prop :=
  ∃ (k : Nat) (l : Int) (b : Bool) (f : Int) (i : Nat), iv = .int .i64 (i : Int) ∧ i ≤ N ∧ St w t g d k l b f W ∧ GoodI t d s n k l f i
def LeftRel (w : World) (t : Tk) (g : Nat) (d s : Int) (n : Nat) (m : Int) (kv : Value) (W : World) : Prop :=
  ∃ (k : Nat) (l : Int) (f : Int) (i : Nat), kv = .int .i64 (i : Int) ∧ St w t g d k l false f W ∧ RestI t d s n k l f m i
theorem St.unstruck {w W : World} {t : Tk} {d p l f : Int} {s : Bool} {g : Nat} (h : St w t g d p l s f W) : St w t g d p l false f (W.setCell ⟨g, 14, none⟩ (.bool false)) :=
  ⟨⟨h.box.below.setCell (by show w.heap.size ≤ g; have := h.gt; omega) _, h.box.lies.there (by show w.heap.size ≠ g; have := h.gt; omega) _⟩, h.gt, lies_struck h.lies false⟩
set_option maxRecDepth 100000 in
set_option maxHeartbeats 8000000 in
theorem coreRest (t : Tk) (d : Int) (a : Option Addr) (N cap : Nat) (L : List Bool) (hL : L.length = N) (w : World) (hBo : Bools w a cap L) : Calls Try.prog 4 #[aggK t, .int .i64 d, .slice a N cap] w (Woke w) := by
  have HBo := Lib.hid hBo
  clear hBo
  have HB := Lib.hid (Box.made w t)
  have KS := Lib.hid (fun W => smallCall t d W)
  simp only [boxT] at HB
  simp only [aggK] at KS ⊢
  go_enter Try.func4, Try.ntmps4
  go_wp2_with (fail)
  refine (awake _).mono ?_
  rintro e w1 ⟨rfl, hb1⟩
  have HB1 := Lib.hid (HB.out.tells hb1)
  clear hb1 HB
  obtain ⟨y0, y1, y2, y3, y4, y5, y6, y7, y8, y9, y10⟩ := HB1.out.cells
  by_cases hN : 300 < N
  · have q1 : decide ((300 : Int) < (N : Int)) = true := decide_eq_true (by omega)
    have q1' : decide (300 < N) = true := decide_eq_true hN
    go_wp2_with (fail)
    refine (awake _).mono ?_
    rintro e w9 ⟨rfl, hb9⟩
    have H9 := Lib.hid (HB1.out.tells hb9)
    clear hb9
    go_wp2
    go_ret
    exact ⟨rfl, H9.out.below⟩
  · have q1 : decide ((300 : Int) < (N : Int)) = false := decide_eq_false (by omega)
    have q1' : decide (300 < N) = false := decide_eq_false hN
    have hN3 : N ≤ 300 := by omega
    go_wp2_with (fail)
    with_reducible refine (KS.out _).mono ?_
    rintro e w2 ⟨rfl, hb2⟩
    have HB2 := Lib.hid (HB1.out.tells hb2)
    clear hb2 y0 y1 y2 y3 y4 y5 y6 y7 y8 y9 y10 HB1 KS q1 q1' hN
    obtain ⟨y0, y1, y2, y3, y4, y5, y6, y7, y8, y9, y10⟩ := HB2.out.cells
    cases hR : smallT t d with
    | false =>
      clear hR
      go_wp2_with (fail)
      refine (awake _).mono ?_
      rintro e w9 ⟨rfl, hb9⟩
      have H9 := Lib.hid (HB2.out.tells hb9)
      clear hb9
      go_wp2
      go_ret
      exact ⟨rfl, H9.out.below⟩
    | true =>
      obtain ⟨n, s, h⟩ := small_of hR
      clear hR
      have KB := Lib.hid (fun W => begin_ h W)
      simp only [aggK] at KB
      go_wp2_with (fail)
      with_reducible refine (KB.out _).mono ?_
      rintro e w3 ⟨rfl, hb3⟩
      have HB3 := Lib.hid (HB2.out.tells hb3)
      clear hb3 HB2 KB y0 y1 y2 y3 y4 y5 y6 y7 y8 y9 y10
      go_wp2_with (first
       | (with_reducible refine lay_run ?_ ?_ ?_
          rfl
          rfl
          intro g V hg hb hz)
       | (with_reducible apply write_run (x := .tmp 7) (y := .tmp 35) (hL := hz)
          rfl
          rfl
          rfl
          rfl
          intro W4 hw hl
          have HS := Lib.hid (St.begun HB3.out hg hb hw hl)
          clear hw hl hz hb hg))
      go_wp2
      go_loopw [9] (fun iv W => RestRel w t g d s n N iv W) (fun iv _ => N - (intOf iv).toNat)
      case atStart => exact ⟨0, _, _, _, 0, rfl, by omega, HS.out, GoodI.first h⟩
      case round =>
        obtain ⟨k, l, b, f, i, rfl, hiN, hst, hc⟩ := hrel
        clear HS
        have HS := Lib.hid hst
        have hG := hc.good
        have hG0 := hG.f0
        have hfi := hc.few
        clear hst
        by_cases hlt : i < N
        · have q1 : decide ((i : Int) < (N : Int)) = true := by simp; omega
          have hx : L[i]? = some (L[i]'(by omega)) := List.getElem?_eq_getElem _
          obtain ⟨bb, off, rfl, hbb, hcell⟩ := HBo.out.at_ hx
          have HCell := Lib.hid hcell
          have cb := hcell _ HS.out.below
          clear hcell hx
          generalize L[i]'_ = q at cb HCell
          have KT := Lib.hid (fun W => step (f := f) (b := b) q h hG.part hG.l1 (hG.most h) hG.f0 (by omega) W)
          obtain ⟨Y, hY⟩ : ∃ Y, Y = wr.drew := ⟨_, rfl⟩
          have HY : Hid (St w t g d k l b f Y) := by rw [hY]; exact HS.out.tells (below_drewN (Below.refl _ _) 1)
          have HYE := Lib.hid hY
          clear hY cb
          go_wp2_with (fail)
          refine wp_region_held_drew (S := fun wS => St w t g d k l b f wS) (by kernel_rfl) (by rw [← HYE.out]; exact HY.out) (fun hHeld => ?_)
          rw [← HYE.out] at hHeld ⊢
          refine wpAnyH_take (i := 0) (oi := ⟨some 46, .load 28 (.tmp 7), _, _, _, none⟩) (v := ?_) rfl (by kernel_rfl) (by kernel_rfl) (by kernel_rfl) (fun _ _ _ h => h) ?_ hHeld ?_
          rotate_left
          · refine load_yields ?_ (.tmp 7) ?_ ?_ (fun _ hS => St.lies hS)
            · rfl
            · rfl
            · rfl
          (try simp only [Act.put, List.setIfInBounds_toArray, List.set_cons_zero, List.set_cons_succ])
          refine wpAnyH_take (i := 1) (oi := ⟨some 47, .move (.tmp 2), _, _, _, none⟩) (v := ?_) rfl (by kernel_rfl) (by kernel_rfl) (by kernel_rfl) (fun _ _ _ h => h) (Or.inl ⟨by rfl, ?_⟩) hHeld ?_
          rotate_left
          · intro wS hSw
            (try dsimp only at hSw)
            go_simp
            (try with_reducible rfl)
          (try simp only [Act.put, List.setIfInBounds_toArray, List.set_cons_zero, List.set_cons_succ])
          refine wpAnyH_take (i := 2) (oi := ⟨some 48, .move (.tmp 9), _, _, _, none⟩) (v := ?_) rfl (by kernel_rfl) (by kernel_rfl) (by kernel_rfl) (fun _ _ _ h => h) (Or.inl ⟨by rfl, ?_⟩) hHeld ?_
          rotate_left
          · intro wS hSw
            (try dsimp only at hSw)
            go_simp
            (try with_reducible rfl)
          (try simp only [Act.put, List.setIfInBounds_toArray, List.set_cons_zero, List.set_cons_succ])
          refine wpAnyH_take (i := 3) (oi := ⟨some 49, .indexAddr 24 (.tmp 47) (.tmp 48), _, _, _, none⟩) (v := ?_) rfl (by kernel_rfl) (by kernel_rfl) (by kernel_rfl) (fun _ _ _ h => h) (Or.inl ⟨by rfl, ?_⟩) hHeld ?_
          rotate_left
          · intro wS hSw
            (try dsimp only at hSw)
            go_simp
            (try with_reducible rfl)
          (try simp only [Act.put, List.setIfInBounds_toArray, List.set_cons_zero, List.set_cons_succ])
          refine wpAnyH_take (i := 4) (oi := ⟨some 50, .load 4 (.tmp 49), _, _, _, none⟩) (v := ?_) rfl (by kernel_rfl) (by kernel_rfl) (by kernel_rfl) (fun _ _ _ h => h) (Or.inl ⟨by rfl, ?_⟩) hHeld ?_
          rotate_left
          · intro wS hSw
            (try dsimp only at hSw)
            have cb := HCell.out _ hSw.below
            go_simp
            (try with_reducible rfl)
          (try simp only [Act.put, List.setIfInBounds_toArray, List.set_cons_zero, List.set_cons_succ])
          refine wpAnyH_ready (rs := [5, 9]) (by kernel_rfl) (by simp) ?_
          refine AllReadyH.cons (o := ⟨some 51, .call { callee := .value (.func 10), args := #[.tmp 46, .tmp 50], argTypes := #[28, 4] }, _, _, _, none⟩) rfl (fun K hK => ?_) ?_
          rotate_left
          refine AllReadyH.cons (o := ⟨some 10, .alloc 28, _, _, _, none⟩) rfl (fun K hK => ?_) ?_
          rotate_left
          · exact AllReadyH.nil
          · go_simp
            go_at_call 10
            with_reducible refine (KT.out _).mono ?_
            rintro en w5 ⟨k', l', b', f', ev, rfl, hb2, hst2⟩
            have HS2 := Lib.hid (HY.out.tells hb2)
            have HST := Lib.hid hst2
            clear hb2
            clear hst2
            (try go_simp)
            refine hK.out _ _ HS2.out (fun hHeld => ?_)
            clear hK K
            (try simp only [Act.put, List.setIfInBounds_toArray, List.set_cons_zero, List.set_cons_succ])
            refine wpAnyH_take (i := 6) (oi := ⟨some 45, .move (.tmp 51), _, _, _, none⟩) (v := ?_) rfl (by kernel_rfl) (by kernel_rfl) (by kernel_rfl) (fun _ _ _ h => h) (Or.inl ⟨by rfl, ?_⟩) hHeld ?_
            rotate_left
            · intro wS hSw
              (try dsimp only at hSw)
              go_simp
              (try with_reducible rfl)
            (try simp only [Act.put, List.setIfInBounds_toArray, List.set_cons_zero, List.set_cons_succ])
            refine wpAnyH_take (i := 7) (oi := ⟨some 52, .extract (.tmp 45) 0, _, _, _, none⟩) (v := ?_) rfl (by kernel_rfl) (by kernel_rfl) (by kernel_rfl) (fun _ _ _ h => h) (Or.inl ⟨by rfl, ?_⟩) hHeld ?_
            rotate_left
            · intro wS hSw
              (try dsimp only at hSw)
              go_simp
              (try with_reducible rfl)
            (try simp only [Act.put, List.setIfInBounds_toArray, List.set_cons_zero, List.set_cons_succ])
            refine wpAnyH_take (i := 8) (oi := ⟨some 53, .extract (.tmp 45) 1, _, _, _, none⟩) (v := ?_) rfl (by kernel_rfl) (by kernel_rfl) (by kernel_rfl) (fun _ _ _ h => h) (Or.inl ⟨by rfl, ?_⟩) hHeld ?_
            rotate_left
            · intro wS hSw
              (try dsimp only at hSw)
              go_simp
              (try with_reducible rfl)
            (try simp only [Act.put, List.setIfInBounds_toArray, List.set_cons_zero, List.set_cons_succ])
            refine wpAnyH_ready (rs := [9]) (by kernel_rfl) (by simp) ?_
            refine AllReadyH.cons (o := ⟨some 10, .alloc 28, _, _, _, none⟩) rfl (fun K hK => ?_) ?_
            rotate_left
            · exact AllReadyH.nil
            refine lay_step rfl rfl ?_
            intro gx Vx hgx hbx hzx
            have HSx := Lib.hid (HS2.out.tells hbx)
            have hgt : g < gx := Nat.lt_of_lt_of_le HS2.out.lies.lt hgx
            refine hK.out _ _ HSx.out (fun hHeld => ?_)
            clear hK K
            (try simp only [Act.put, List.setIfInBounds_toArray, List.set_cons_zero, List.set_cons_succ])
            refine wpAnyH_ready (rs := [10]) (by kernel_rfl) (by simp) ?_
            refine AllReadyH.cons (o := ⟨none, .store 28 (.tmp 10) (.tmp 52), _, _, _, none⟩) rfl (fun K hK => ?_) ?_
            rotate_left
            · exact AllReadyH.nil
            apply write_step (x := .tmp 10) (y := .tmp 52) (hL := hzx)
            rfl
            rfl
            rfl
            rfl
            intro Wx hwx hlx
            have HS3 := Lib.hid (St.aside HS2.out hgx hbx hwx)
            clear hwx
            refine hK.out _ _ HS3.out (fun hHeld => ?_)
            clear hK K
            (try simp only [Act.put])
            refine wpAnyH_take (i := 11) (oi := ⟨some 11, .assign (.tmp 53), _, _, _, none⟩) (v := ?_) rfl (by kernel_rfl) (by kernel_rfl) (by kernel_rfl) (fun _ _ _ h => h) (Or.inl ⟨by rfl, ?_⟩) hHeld ?_
            rotate_left
            · intro wS hSw
              (try dsimp only at hSw)
              go_simp
              (try with_reducible rfl)
            (try simp only [Act.put, List.setIfInBounds_toArray, List.set_cons_zero, List.set_cons_succ])
            refine wpAnyH_done (by kernel_rfl) ?_ _
            by_cases he : ev = 4
            · subst he
              go_wp2
              go_ret
              exact ⟨rfl, HS3.out.below⟩
            · have v4 : (ev == 4) = false := by simp [he]
              have HN := Lib.hid (hc.goes h HST.out he)
              clear HST
              go_wp2_with (first
               | (with_reducible refine load_run ?_ (.tmp 10) ?_ ?_ hlx ?_
                  rfl
                  rfl
                  rfl)
               | (with_reducible apply write_run (x := .tmp 7) (y := .tmp 56) (hL := HS3.out.lies)
                  rfl
                  rfl
                  rfl
                  rfl
                  intro Wy hwy hly
                  have HS4 := Lib.hid (HS3.out.wrote hwy hly)
                  clear hwy hly hlx HS3))
              go_roundw
              case rel => exact ⟨_, _, _, _, i + 1, by go_num, by omega, HS4.out, HN.out⟩
              case measure => simp only [intOf]; omega
          · refine lay_step rfl rfl ?_
            intro gx Vx hgx hbx hzx
            have HSx := Lib.hid (HY.out.tells hbx)
            have hgt : g < gx := Nat.lt_of_lt_of_le HY.out.lies.lt hgx
            refine hK.out _ _ HSx.out (fun hHeld => ?_)
            clear hK K
            (try simp only [Act.put, List.setIfInBounds_toArray, List.set_cons_zero, List.set_cons_succ])
            refine wpAnyH_ready (rs := [5]) (by kernel_rfl) (by simp) ?_
            refine AllReadyH.cons (o := ⟨some 51, .call { callee := .value (.func 10), args := #[.tmp 46, .tmp 50], argTypes := #[28, 4] }, _, _, _, none⟩) rfl (fun K hK => ?_) ?_
            rotate_left
            · exact AllReadyH.nil
            go_simp
            go_at_call 10
            with_reducible refine (KT.out _).mono ?_
            rintro en w5 ⟨k', l', b', f', ev, rfl, hb2, hst2⟩
            have HS2 := Lib.hid (HSx.out.tells hb2)
            have HST := Lib.hid hst2
            have hzx := hzx.below hb2 hzx.lt
            have hbx := hbx.trans (hb2.mono hbx.size)
            clear hst2
            (try go_simp)
            refine hK.out _ _ HS2.out (fun hHeld => ?_)
            clear hK K
            (try simp only [Act.put, List.setIfInBounds_toArray, List.set_cons_zero, List.set_cons_succ])
            refine wpAnyH_take (i := 6) (oi := ⟨some 45, .move (.tmp 51), _, _, _, none⟩) (v := ?_) rfl (by kernel_rfl) (by kernel_rfl) (by kernel_rfl) (fun _ _ _ h => h) (Or.inl ⟨by rfl, ?_⟩) hHeld ?_
            rotate_left
            · intro wS hSw
              (try dsimp only at hSw)
              go_simp
              (try with_reducible rfl)
            (try simp only [Act.put, List.setIfInBounds_toArray, List.set_cons_zero, List.set_cons_succ])
            refine wpAnyH_take (i := 7) (oi := ⟨some 52, .extract (.tmp 45) 0, _, _, _, none⟩) (v := ?_) rfl (by kernel_rfl) (by kernel_rfl) (by kernel_rfl) (fun _ _ _ h => h) (Or.inl ⟨by rfl, ?_⟩) hHeld ?_
            rotate_left
            · intro wS hSw
              (try dsimp only at hSw)
              go_simp
              (try with_reducible rfl)
            (try simp only [Act.put, List.setIfInBounds_toArray, List.set_cons_zero, List.set_cons_succ])
            refine wpAnyH_take (i := 8) (oi := ⟨some 53, .extract (.tmp 45) 1, _, _, _, none⟩) (v := ?_) rfl (by kernel_rfl) (by kernel_rfl) (by kernel_rfl) (fun _ _ _ h => h) (Or.inl ⟨by rfl, ?_⟩) hHeld ?_
            rotate_left
            · intro wS hSw
              (try dsimp only at hSw)
              go_simp
              (try with_reducible rfl)
            (try simp only [Act.put, List.setIfInBounds_toArray, List.set_cons_zero, List.set_cons_succ])
            refine wpAnyH_ready (rs := [10]) (by kernel_rfl) (by simp) ?_
            refine AllReadyH.cons (o := ⟨none, .store 28 (.tmp 10) (.tmp 52), _, _, _, none⟩) rfl (fun K hK => ?_) ?_
            rotate_left
            · exact AllReadyH.nil
            apply write_step (x := .tmp 10) (y := .tmp 52) (hL := hzx)
            rfl
            rfl
            rfl
            rfl
            intro Wx hwx hlx
            have HS3 := Lib.hid (St.aside HY.out hgx hbx hwx)
            clear hwx
            refine hK.out _ _ HS3.out (fun hHeld => ?_)
            clear hK K
            (try simp only [Act.put])
            refine wpAnyH_take (i := 11) (oi := ⟨some 11, .assign (.tmp 53), _, _, _, none⟩) (v := ?_) rfl (by kernel_rfl) (by kernel_rfl) (by kernel_rfl) (fun _ _ _ h => h) (Or.inl ⟨by rfl, ?_⟩) hHeld ?_
            rotate_left
            · intro wS hSw
              (try dsimp only at hSw)
              go_simp
              (try with_reducible rfl)
            (try simp only [Act.put, List.setIfInBounds_toArray, List.set_cons_zero, List.set_cons_succ])
            refine wpAnyH_done (by kernel_rfl) ?_ _
            by_cases he : ev = 4
            · subst he
              go_wp2
              go_ret
              exact ⟨rfl, HS3.out.below⟩
            · have v4 : (ev == 4) = false := by simp [he]
              have HN := Lib.hid (hc.goes h HST.out he)
              clear HST
              go_wp2_with (first
               | (with_reducible refine load_run ?_ (.tmp 10) ?_ ?_ hlx ?_
                  rfl
                  rfl
                  rfl)
               | (with_reducible apply write_run (x := .tmp 7) (y := .tmp 56) (hL := HS3.out.lies)
                  rfl
                  rfl
                  rfl
                  rfl
                  intro Wy hwy hly
                  have HS4 := Lib.hid (HS3.out.wrote hwy hly)
                  clear hwy hly hlx HS3))
              go_roundw
              case rel => exact ⟨_, _, _, _, i + 1, by go_num, by omega, HS4.out, HN.out⟩
              case measure => simp only [intOf]; omega

        · obtain rfl : i = N := by omega
          have q1 : decide ((i : Int) < (i : Int)) = false := by simp
          have hm := hG.most h
          have hl1 := hG.l1
          have hlt := h.late k
          have KR := Lib.hid (fun W => rest (l := l) (f := f) (b := b) h hG.part hG.l1 hm W)
          obtain ⟨m, hme⟩ : ∃ m, m = l + lateV s t.Cost d n k := ⟨_, rfl⟩
          rw [← hme] at KR
          have HR0 : Hid (RestI t d s n k l f m 0) := Lib.hid ⟨hG, by omega, by rw [hme]; simp⟩
          have hm1 : m ≤ 300000 := by omega
          clear hme hlt
          go_wp2_with (first
           | (with_reducible refine load_run ?_ (.tmp 7) ?_ ?_ HS.out.lies ?_
              rfl
              rfl
              rfl))
          with_reducible refine (KR.out _).mono ?_
          rintro en w5 ⟨rfl, hb⟩
          have HS5 := Lib.hid (HS.out.tells hb)
          clear hb HS KR
          go_wp2_with (first
           | (with_reducible refine load_run ?_ (.tmp 7) ?_ ?_ HS5.out.lies ?_
              rfl
              rfl
              rfl)
           | (with_reducible refine lay_run ?_ ?_ ?_
              rfl
              rfl
              intro gy Vy hgy hby hzy)
           | (with_reducible apply write_run (x := .tmp 13) (y := .tmp 59) (hL := hzy)
              rfl
              rfl
              rfl
              rfl
              intro W6 hwy hly
              have HY := Lib.hid (St.begun HS5.out.box hgy hby hwy hly)
              have x14 := (runs_cells hly).2.2.2.2.2.2.2.2.2.2.2.2.2.2.1
              have r14 := hly.thawed 14
              have HY2 := Lib.hid HY.out.unstruck
              clear hwy hly hzy hby hgy HS5))
          obtain ⟨M, hM⟩ : ∃ M : Int, 600000 ≤ M := ⟨600000, Int.le_refl _⟩
          go_wp2
          go_loopw [14] (fun kv W => LeftRel w t gy d s n m kv W) (fun kv _ => (M - intOf kv).toNat)
          case atStart => exact ⟨_, _, _, 0, rfl, HY2.out, HR0.out⟩
          case round =>
            clear HY HY2 HR0 x14 r14 hc hG hG0 hfi
            obtain ⟨k, l, f, i, rfl, hst, hc⟩ := hrel
            have HS := Lib.hid hst
            have hG := hc.good
            have hG0 := hG.f0
            obtain ⟨e1, e2⟩ := hc.most h
            have hfew := hc.few
            clear hst
            have q2 : decide ((i : Int) < 1000000) = true := decide_eq_true (by omega)
            have KT := Lib.hid (fun W => step (f := f) (b := false) false h hG.part hG.l1 e2 hG.f0 (by omega) W)
            go_wp2_with (first
             | (with_reducible refine load_run ?_ (.tmp 13) ?_ ?_ HS.out.lies ?_
                rfl
                rfl
                rfl))
            with_reducible refine (KT.out _).mono ?_
            rintro en w5 ⟨k', l', b', f', ev, rfl, hb2, hst2⟩
            have HS2 := Lib.hid (HS.out.tells hb2)
            have HST := Lib.hid hst2
            clear hb2 HS KT
            by_cases he : ev = 4
            · have hend : (i : Int) + 1 = m := by
                cases hst2 with
                | runs hl => cases he
                | fails hl hb ev hev => omega
                | done hl hb hk => subst hl; exact hc.ends hk
                | passed hl hb hk => cases he
              have hend' : ((i : Int) + 1 == m) = true := by simp [hend]
              subst he
              clear hst2 HST
              go_wp2_with (first
               | (with_reducible refine lay_run ?_ ?_ ?_
                  rfl
                  rfl
                  intro gx Vx hgx hbx hzx)
               | (with_reducible apply write_run (x := .tmp 15) (y := .tmp 66) (hL := hzx)
                  rfl
                  rfl
                  rfl
                  rfl
                  intro Wx hwx hlx
                  have HS3 := Lib.hid (HS2.out.aside hgx hbx hwx)
                  clear hwx hzx hbx hgx)
               | (with_reducible refine load_run ?_ (.tmp 15) ?_ ?_ hlx ?_
                  rfl
                  rfl
                  rfl)
               | (with_reducible apply write_run (x := .tmp 13) (y := .tmp 68) (hL := HS3.out.lies)
                  rfl
                  rfl
                  rfl
                  rfl
                  intro Wy hwy hly
                  have HS4 := Lib.hid (HS3.out.wrote hwy hly)
                  clear hwy hly hlx HS3))
              go_ret
              exact ⟨rfl, HS4.out.below⟩
            · have v4 : (ev == 4) = false := by simp [he]
              obtain ⟨hN1, rfl⟩ := hc.goes h HST.out he
              have HN := Lib.hid hN1
              clear HST hN1 hst2
              go_wp2_with (first
               | (with_reducible refine lay_run ?_ ?_ ?_
                  rfl
                  rfl
                  intro gx Vx hgx hbx hzx)
               | (with_reducible apply write_run (x := .tmp 15) (y := .tmp 66) (hL := hzx)
                  rfl
                  rfl
                  rfl
                  rfl
                  intro Wx hwx hlx
                  have HS3 := Lib.hid (HS2.out.aside hgx hbx hwx)
                  clear hwx hzx hbx hgx)
               | (with_reducible refine load_run ?_ (.tmp 15) ?_ ?_ hlx ?_
                  rfl
                  rfl
                  rfl)
               | (with_reducible apply write_run (x := .tmp 13) (y := .tmp 68) (hL := HS3.out.lies)
                  rfl
                  rfl
                  rfl
                  rfl
                  intro Wy hwy hly
                  have HS4 := Lib.hid (HS3.out.wrote hwy hly)
                  clear hwy hly hlx HS3))
              go_roundw
              case rel => exact ⟨_, _, _, i + 1, by go_num, HS4.out, HN.out⟩
              case measure => simp only [intOf]; omega
end Go.Proofs.Ytbofpbochgoafaa
