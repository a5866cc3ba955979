/- A gate is gone through; all gates are as if none was; a new guard. -/
import Derived.Test.YtllihehkceaibaaLf
import Derived.BigRegion
import Derived.Deep.RegionHeld3
namespace Go.Proofs.Ytllihehkceaibaa
open Go.RowKit

/-- It answers v; the guard's gates are gs now; of what was there nothing else has turned. -/
def Acts (v : Value) (p g K : Nat) (gs : List Gt) (w : World) (e : Ending) (w' : World) : Prop := e = .returned v ∧ Grd w' p g K gs ∧ Turns (fun k => k = g) w w'
section
variable {w : World} {p g K : Nat} {gs : List Gt}
set_option maxRecDepth 100000 in
set_option maxHeartbeats 1000000 in
theorem goAt (i t : Int) (h : Grd w p g K gs) (hK : K ≤ 1000000) : Calls Try.prog 11 #[.pointer (some ⟨p, 0, none⟩), .int .i64 i, .int .i64 t] w (Acts (.int .i64 (goV gs i t)) p g (K + 1) (goS gs i t) w) := by
  have KO := Lib.hid (openOf i h)
  have hl := h.l2
  cases hx : gateAt gs i with
  | none =>
    rw [show isV gs i = false by unfold isV; rw [hx]; rfl] at KO
    rw [show goV gs i t = 1 by unfold goV; rw [hx], show goS gs i t = gs by unfold goS; rw [hx]]
    generalize openV gs i = o at KO
    have HG := Lib.hid h
    clear hx h
    go_enter Try.func11, Try.ntmps11
    go_wp2_with (fail)
    with_reducible refine KO.out.mono ?_
    rintro e w1 ⟨rfl, hb⟩
    have HB := Lib.hid hb
    clear hb
    go_wp2
    go_ret
    exact ⟨rfl, (HG.out.tells HB.out).more (by omega), Turns.of_below HB.out⟩
  | some x =>
    rw [show isV gs i = true by unfold isV; rw [hx]; rfl, show openV gs i = openG x by unfold openV; rw [hx]] at KO
    obtain ⟨k, rfl, hk⟩ := gateAt_some hx
    have hlt := (List.getElem?_eq_some_iff.1 hk).1
    have hr := h.ok x (List.mem_of_getElem? hk)
    have HR := Lib.hid hr
    have HK := Lib.hid hk
    have HG := Lib.hid h
    have HV := Lib.hid (show goV gs k t = if t < 0 ∨ 1099511627776 < t then 1 else if t < openG x then 6 else 0 by unfold goV; rw [hx])
    have HS := Lib.hid (show goS gs k t = if t < 0 ∨ 1099511627776 < t then gs else if t < openG x then gs else gs.set k (pass x t) by unfold goS; rw [hx]; simp)
    clear hx hk h hr
    by_cases h1 : t < 0 ∨ 1099511627776 < t
    · rw [HV.out, HS.out, if_pos h1, if_pos h1]
      generalize openG x = o at KO
      have hthree : decide (t < 0) = true ∨ (decide (t < 0) = false ∧ decide (1099511627776 < t) = true) := by
        by_cases h2 : t < 0
        · exact .inl (decide_eq_true h2)
        · exact .inr ⟨decide_eq_false h2, decide_eq_true (by omega)⟩
      clear h1 HV HS
      rcases hthree with t1 | ⟨t1, t2⟩
      all_goals
        go_enter Try.func11, Try.ntmps11
        go_wp2_with (fail)
        with_reducible refine KO.out.mono ?_
        rintro e w1 ⟨rfl, hb⟩
        have HB := Lib.hid hb
        clear hb
        go_wp2
        go_ret
        exact ⟨rfl, (HG.out.tells HB.out).more (by omega), Turns.of_below HB.out⟩
    · have t1 : decide (t < 0) = false := decide_eq_false (by omega)
      have t2 : decide (1099511627776 < t) = false := decide_eq_false (by omega)
      by_cases h2 : t < openG x
      · rw [HV.out, HS.out, if_neg h1, if_neg h1, if_pos h2, if_pos h2]
        have t3 : decide (t < openG x) = true := decide_eq_true h2
        generalize openG x = o at KO t3
        clear h1 h2 HV HS
        go_enter Try.func11, Try.ntmps11
        go_wp2_with (fail)
        with_reducible refine KO.out.mono ?_
        rintro e w1 ⟨rfl, hb⟩
        have HB := Lib.hid hb
        clear hb
        go_wp2
        go_ret
        exact ⟨rfl, (HG.out.tells HB.out).more (by omega), Turns.of_below HB.out⟩
      · rw [HV.out, HS.out, if_neg h1, if_neg h1, if_neg h2, if_neg h2]
        have t3 : decide (t < openG x) = false := decide_eq_false h2
        generalize openG x = o at KO t3
        have HY := Lib.hid (HR.out.pass (t := t) (by omega) (by omega))
        have i1 : (0 : Int) ≤ (k : Int) := by omega
        have i2 : (k : Int) < (gs.length : Int) := by omega
        have hc1 := HR.out.c1
        have hc2 := HR.out.c2
        clear h1 h2 HV HS
        go_enter Try.func11, Try.ntmps11
        go_wp2_with (fail)
        with_reducible refine KO.out.mono ?_
        rintro e w1 ⟨rfl, hb⟩
        have HB := Lib.hid hb
        have HG1 := Lib.hid (HG.out.tells hb)
        clear hb
        obtain ⟨cc, hs⟩ := HG1.out.slice
        have hne := HG1.out.ne
        have hfg := HG1.out.thawed
        have hpl := HG1.out.plt
        have hgl := HG1.out.glt
        obtain ⟨x0, x1, x2⟩ := HG1.out.cells HK.out
        have HW := Lib.hid (HG1.out.two HK.out (by omega) HY.out)
        obtain ⟨a, u, c⟩ := x
        simp only at x0 x1 x2 hc1 hc2
        go_wp2
        go_ret
        exact ⟨rfl, HW.out.1, (Turns.of_below HB.out).trans HW.out.2 (fun _ _ h => h)⟩

/-- The first k gates are as if none was gone through. -/
def zeroK (gs : List Gt) (k : Nat) : List Gt := (gs.take k).map zeroG ++ gs.drop k
theorem length_zeroK (gs : List Gt) (k : Nat) : (zeroK gs k).length = gs.length := by simp [zeroK]; omega
theorem zeroK_zero (gs : List Gt) : zeroK gs 0 = gs := by simp [zeroK]
theorem zeroK_all (gs : List Gt) : zeroK gs gs.length = gs.map zeroG := by simp [zeroK]
theorem zeroK_at {gs : List Gt} {k : Nat} {x : Gt} (h : gs[k]? = some x) : (zeroK gs k)[k]? = some x := by
  have hlt := (List.getElem?_eq_some_iff.1 h).1
  unfold zeroK
  rw [List.getElem?_append_right (by simp; omega)]
  simp only [List.length_map, List.length_take, List.getElem?_drop]
  rw [show k + (k - min k gs.length) = k by omega]; exact h
theorem zeroK_succ {gs : List Gt} {k : Nat} {x : Gt} (h : gs[k]? = some x) : (zeroK gs k).set k (zeroG x) = zeroK gs (k + 1) := by
  have hlt := (List.getElem?_eq_some_iff.1 h).1
  have hx : gs[k] = x := by
    have := List.getElem?_eq_getElem hlt
    rw [h] at this
    exact (Option.some.inj this).symm
  unfold zeroK
  rw [List.set_append_right _ _ (by simp; omega), show k - ((gs.take k).map zeroG).length = 0 by simp; omega, List.drop_eq_getElem_cons hlt, List.set_cons_zero, List.take_succ_eq_append_getElem hlt, hx]
  simp
def ZeroRel (w : World) (p g K : Nat) (gs : List Gt) (i : Value) (W : World) : Prop := ∃ (k : Nat) (X : World), k ≤ gs.length ∧ i = .int .i64 (k : Int) ∧ X = W ∧ Grd X p g K (zeroK gs k) ∧ Turns (fun k => k = g) w X
set_option maxRecDepth 100000 in
set_option maxHeartbeats 1000000 in
theorem resetAt (h : Grd w p g K gs) : Calls Try.prog 14 #[.pointer (some ⟨p, 0, none⟩)] w (Acts (.tuple #[]) p g K (gs.map zeroG) w) := by
  have HG := Lib.hid h
  obtain ⟨c0, hs0⟩ := h.slice
  have hl := h.l2
  clear h
  go_enter Try.func14, Try.ntmps14
  go_wp2
  go_loopw [9] (fun i W => ZeroRel w p g K gs i W) (fun i _ => gs.length - (intOf i).toNat)
  case atStart => exact ⟨0, _, by omega, rfl, rfl, by rw [zeroK_zero]; exact HG.out, Turns.refl _ _⟩
  case round =>
    obtain ⟨k, X, hk, rfl, rfl, hg, ht⟩ := hrel
    have H1 := Lib.hid hg
    have HT := Lib.hid ht
    clear hg ht
    by_cases hlt : k < gs.length
    · have t1 : decide ((k : Int) < (gs.length : Int)) = true := by simp; omega
      have hx : gs[k]? = some gs[k] := List.getElem?_eq_getElem hlt
      have HX := Lib.hid hx
      have hr := HG.out.ok _ (List.mem_of_getElem? hx)
      have HR := Lib.hid hr
      clear hx hr
      generalize gs[k] = x at HX HR
      have HZ := Lib.hid (zeroK_at HX.out)
      obtain ⟨x0, x1, x2⟩ := H1.out.cells HZ.out
      obtain ⟨cc, hs⟩ := H1.out.slice
      rw [length_zeroK] at hs
      have hne := H1.out.ne
      have hfg := H1.out.thawed
      have hpl := H1.out.plt
      have hgl := H1.out.glt
      have i1 : (0 : Int) ≤ (k : Int) := by omega
      have i2 : (k : Int) < (gs.length : Int) := by omega
      have HW := Lib.hid (H1.out.whole (i := k) (zeroG x) (by rw [length_zeroK]; exact hlt) (Nat.le_refl _) HR.out.zero)
      have HQ : Hid (∀ o, Grd ((((X.setCell ⟨g, k * 3, none⟩ (.int .i64 x.1)).setCell ⟨g, k * 3 + 1, none⟩ (.int .i64 0)).setCell ⟨g, k * 3 + 2, none⟩ (.int .i64 0)).alloc o) p g K (zeroK gs (k + 1))) := fun o => by
        rw [← zeroK_succ HX.out]
        exact HW.out.1.tells (below_new _ o)
      have HV : Hid (∀ o, Turns (fun k => k = g) w ((((X.setCell ⟨g, k * 3, none⟩ (.int .i64 x.1)).setCell ⟨g, k * 3 + 1, none⟩ (.int .i64 0)).setCell ⟨g, k * 3 + 2, none⟩ (.int .i64 0)).alloc o)) := fun o =>
        (HT.out.trans HW.out.2 (fun _ _ h => h)).trans (Turns.of_below (below_new _ o)) (fun _ _ h => h)
      obtain ⟨a, u, c⟩ := x
      simp only at x0 x1 x2 HQ HV
      clear HW
      go_wp2
      go_region
      go_wp2
      go_roundw
      case rel => exact ⟨k + 1, _, by omega, by go_num, rfl, (HQ.out _).drewN 1, (HV.out _).drewN 1⟩
      case measure => simp [intOf]; omega
    · have t1 : decide ((k : Int) < (gs.length : Int)) = false := by simp; omega
      have t1' : decide (k < gs.length) = false := by simp; omega
      obtain rfl : k = gs.length := by omega
      have HZ := Lib.hid (zeroK_all gs)
      go_wp2
      go_end0
      exact ⟨rfl, by rw [← HZ.out]; exact H1.out, HT.out⟩
end
end Go.Proofs.Ytllihehkceaibaa
