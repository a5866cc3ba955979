/- Two entries compared: -1, 0, 1; new memory alone is made. -/
import Derived.Test.YtlodfipiodlgdaaMem
import Derived.Test.YtlodfipiodlgdaaSp
import Derived.Deep.RegionHeld3
import Derived.Sort.Grow
import Derived.Deep.DeepCutAuto
namespace Go.Proofs.Ytlodfipiodlgdaa
open Go.RowKit Go.Sort

/-- An entry as a value; its cells. -/
def aggQ (k : Ky) : Value := .agg #[.int .i64 k.1, .int .i64 k.2]
def cellsQ (k : Ky) : List Value := [.int .i64 k.1, .int .i64 k.2]

set_option maxHeartbeats 400000 in
theorem cmpI (a b : Int) (w : World) : Calls Try.prog 30 #[.int .i64 a, .int .i64 b] w (Says (.int .i64 (c1 a b)) w) := by
  rcases c1_cases a b with ⟨h, e⟩ | ⟨h, e⟩ | ⟨h, e⟩
  · have t1 : decide (a < b) = true := by simp; omega
    rw [e]
    clear e
    go_enter Try.func30, Try.ntmps30
    go_wp2
    go_ret
    exact ⟨rfl, rfl⟩
  · have t1 : decide (a < b) = false := by simp; omega
    have t2 : decide (b < a) = true := by simp; omega
    rw [e]
    clear e
    go_enter Try.func30, Try.ntmps30
    go_wp2
    go_ret
    exact ⟨rfl, rfl⟩
  · have t1 : decide (a < b) = false := by simp; omega
    have t2 : decide (b < a) = false := by simp; omega
    rw [e]
    clear e h
    go_enter Try.func30, Try.ntmps30
    go_wp2
    go_ret
    exact ⟨rfl, rfl⟩

/-- The first of n numbers from k on that isn't 0. -/
def orF (X : Nat → Int) : Nat → Nat → Int
  | _, 0 => 0
  | k, n + 1 => pick1 (X k) (orF X (k + 1) n)
def OrRel (X : Nat → Int) (w : World) (i : Value) (W : World) : Prop := ∃ k : Nat, k ≤ 2 ∧ i = .int .i64 (k : Int) ∧ W = w ∧ orF X k (2 - k) = orF X 0 2

set_option maxHeartbeats 1000000 in
theorem or2 (X : Nat → Int) (g : Nat) (w : World) (hg : g < w.heap.size) (hc : ∀ j, j < 2 → w.cell? ⟨g, j, none⟩ = some (.int .i64 (X j))) :
    Calls Try.prog 29 #[.slice (some ⟨g, 0, none⟩) 2 2] w (Says (.int .i64 (orF X 0 2)) w) := by
  have HC := Lib.hid hc
  clear hc
  go_enter Try.func29, Try.ntmps29
  go_wp2
  go_loopw [8] (fun i W => OrRel X w i W) (fun i _ => 2 - (intOf i).toNat)
  case atStart => exact ⟨0, by omega, rfl, rfl, rfl⟩
  case round =>
    obtain ⟨k, hk, rfl, rfl, he⟩ := hrel
    have HE := Lib.hid he
    clear he
    by_cases hlt : k < 2
    · have t1 : decide ((k : Int) < 2) = true := by simp; omega
      have cx := HC.out k hlt
      have HN := Lib.hid (show orF X k (2 - k) = pick1 (X k) (orF X (k + 1) (2 - (k + 1))) by rw [show 2 - k = 2 - (k + 1) + 1 by omega]; rfl)
      generalize hxk : X k = x at cx HN
      clear hxk
      by_cases hx : x = 0
      · have t2 : (x != 0) = false := by simp [hx]
        have HE1 := Lib.hid (show orF X (k + 1) (2 - (k + 1)) = orF X 0 2 by rw [← HE.out, HN.out, hx]; rfl)
        clear hx
        go_wp2
        go_roundw
        case rel => exact ⟨k + 1, by omega, by go_num, rfl, HE1.out⟩
        case measure => simp [intOf]; omega
      · have t2 : (x != 0) = true := by simp [hx]
        have HE1 := Lib.hid (show x = orF X 0 2 by rw [← HE.out, HN.out, pick1, if_neg hx])
        go_wp2
        go_ret
        exact ⟨ret_int HE1.out, rfl⟩
    · have t1 : decide ((k : Int) < 2) = false := by simp; omega
      have t1' : decide (k < 2) = false := by simp; omega
      have HE1 := Lib.hid (show 0 = orF X 0 2 by rw [← HE.out, show 2 - k = 0 by omega]; rfl)
      go_wp2
      go_ret
      exact ⟨ret_int HE1.out, rfl⟩
/-- How the keys compare; blocks are laid behind w. -/
def Cmps (a b : Ky) (w : World) (e : Ending) (w' : World) : Prop := e = .returned (.int .i64 (cmpK a b)) ∧ ∃ q os, w' = grow (w.drewN q) os

theorem or_two (a b : Int) : orF (fun j => if j = 0 then a else b) 0 2 = pick1 a b := by
  simp only [orF, pick1]
  by_cases hb : b = 0
  · simp [hb]
  · simp [hb]

set_option maxRecDepth 100000 in
set_option maxHeartbeats 2000000 in
theorem cmpKeys (a b : Ky) (w : World) : Calls Try.prog 24 #[aggQ a, aggQ b] w (Cmps a b w) := by
  obtain ⟨a0, a1⟩ := a
  obtain ⟨b0, b1⟩ := b
  simp only [aggQ]
  unfold Cmps
  simp only [cmpK]
  have K0 := Lib.hid (fun W => cmpI a0 b0 W)
  have K1 := Lib.hid (fun W => cmpI a1 b1 W)
  generalize c1 a0 b0 = x0 at K0 ⊢
  generalize c1 a1 b1 = x1 at K1 ⊢
  have HO : Hid (∀ W g, g < W.heap.size → Lies W g 3 #[.int .i64 x0, .int .i64 x1] → Calls Try.prog 29 #[.slice (some ⟨g, 0, none⟩) 2 2] W (Says (.int .i64 (pick1 x0 x1)) W)) := fun W g hg hL => by
    rw [← or_two]
    refine or2 _ g W hg (fun j hj => ?_)
    rw [hL.cell j]
    match j, hj with
    | 0, _ => rfl
    | 1, _ => rfl
  generalize pick1 x0 x1 = r at HO ⊢
  have HL : Hid (Lies ((w.alloc (.cells #[.int .i64 a0, .int .i64 a1] 60)).alloc (.cells #[.int .i64 b0, .int .i64 b1] 60)) w.heap.size 60 #[.int .i64 a0, .int .i64 a1]) := (Lies.made _ _ _).alloc _
  have HM := Lib.hid (show Lies ((w.alloc (.cells #[.int .i64 a0, .int .i64 a1] 60)).alloc (.cells #[.int .i64 b0, .int .i64 b1] 60)) (w.heap.size + 1) 60 #[.int .i64 b0, .int .i64 b1] by
    have := Lies.made (w.alloc (.cells #[.int .i64 a0, .int .i64 a1] 60)) 60 #[.int .i64 b0, .int .i64 b1]
    simpa using this)
  have HG : Hid (∃ os, (w.alloc (.cells #[.int .i64 a0, .int .i64 a1] 60)).alloc (.cells #[.int .i64 b0, .int .i64 b1] 60) = grow w os) := ⟨_, by rw [alloc_eq_grow, alloc_eq_grow, grow_grow]⟩
  go_enter Try.func24, Try.ntmps24
  go_upto_region 1 with fail
  generalize (w.alloc (.cells #[.int .i64 a0, .int .i64 a1] 60)).alloc (.cells #[.int .i64 b0, .int .i64 b1] 60) = V at HL HM HG ⊢
  have y0 : V.cell? ⟨w.heap.size, 0, none⟩ = some (.int .i64 a0) := HL.out.cell 0
  have y1 : V.cell? ⟨w.heap.size, 1, none⟩ = some (.int .i64 a1) := HL.out.cell 1
  have z0 : V.cell? ⟨w.heap.size + 1, 0, none⟩ = some (.int .i64 b0) := HM.out.cell 0
  have z1 : V.cell? ⟨w.heap.size + 1, 1, none⟩ = some (.int .i64 b1) := HM.out.cell 1
  have hs1 : w.heap.size < V.heap.size := HL.out.lt
  have hs2 : w.heap.size + 1 < V.heap.size := HM.out.lt
  have HLT : Hid (∀ n, Lies ((V.drewN n).alloc (.cells #[.int .i64 x0, .int .i64 x1] 3)) V.heap.size 3 #[.int .i64 x0, .int .i64 x1]) := fun n => Lies.made (V.drewN n) _ _
  go_region_held3 (fun w' => w'.cell? ⟨w.heap.size, 0, none⟩ = some (.int .i64 a0) ∧ w'.cell? ⟨w.heap.size, 1, none⟩ = some (.int .i64 a1) ∧ w'.cell? ⟨w.heap.size + 1, 0, none⟩ = some (.int .i64 b0) ∧ w'.cell? ⟨w.heap.size + 1, 1, none⟩ = some (.int .i64 b1)) (go_keep)
    (first
      | (go_at_call 30; first | (with_reducible refine (K0.out _).mono ?_) | (with_reducible refine (K1.out _).mono ?_)
         rintro e w' ⟨rfl, rfl⟩)
      | (go_at_call 29; refine (HO.out _ V.heap.size (by simp) (by first | exact HLT.out _ | exact HLT.out 1)).mono ?_; rintro e w' ⟨rfl, rfl⟩))
  obtain ⟨os, hos⟩ := HG.out
  have HF : Hid (∃ q os, (V.alloc (.cells #[.int .i64 x0, .int .i64 x1] 3)).drew = grow (w.drewN q) os) := ⟨1, os ++ #[.cells #[.int .i64 x0, .int .i64 x1] 3], by rw [hos, alloc_eq_grow, grow_grow]; rfl⟩
  clear hos
  go_wp2
  go_ret
  exact ⟨rfl, HF.out⟩
end Go.Proofs.Ytlodfipiodlgdaa
