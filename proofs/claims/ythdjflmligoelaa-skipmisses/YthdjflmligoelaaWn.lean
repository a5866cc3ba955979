/- Contracts of a window: a new one; what is asked of it. -/
import Derived.Test.YthdjflmligoelaaVT
import Derived.Test.YthdjflmligoelaaRN
import Derived.Test.YthdjflmligoelaaRB
import Derived.Test.YthdjflmligoelaaSp
namespace Go.Proofs.Ythdjflmligoelaa
open Go.RowKit

/-- A window at p, its jobs at g. -/
def Win (s : Hd) (m : Nat) (w : World) (p g n : Nat) (xs : List Bool) : Prop := xs.length = n ∧ 1 ≤ m ∧ m ≤ n ∧ n ≤ 64 ∧ ∃ f, V.Is s m w p g n f xs
section
variable {s : Hd} {m n p g : Nat} {w w' : World} {xs : List Bool}
theorem Win.cm (h : Win s m w p g n xs) : w.cell? ⟨p, 5, none⟩ = some (.int .i64 (m : Int)) := by
  obtain ⟨_, _, _, _, f, hr⟩ := h
  rw [hr.head.cell]; rfl
theorem Win.drewN (h : Win s m w p g n xs) (k : Nat) : Win s m (w.drewN k) p g n xs := by
  obtain ⟨h1, h2, h3, h4, f, hr⟩ := h
  exact ⟨h1, h2, h3, h4, f, hr.drewN k⟩
theorem Win.tells (h : Win s m w p g n xs) (hb : Below w.heap.size w w') : Win s m w' p g n xs := by
  obtain ⟨h1, h2, h3, h4, f, hr⟩ := h
  exact ⟨h1, h2, h3, h4, f, hr.below_all hb⟩
theorem Win.ltp (h : Win s m w p g n xs) : p < w.heap.size := by
  obtain ⟨h1, h2, h3, h4, f, hr⟩ := h
  exact hr.ltp
theorem Win.ltg (h : Win s m w p g n xs) : g < w.heap.size := by
  obtain ⟨h1, h2, h3, h4, f, hr⟩ := h
  exact hr.ltg
theorem Win.turns {q r : Nat} (h : Win s m w p g n xs) (ht : Turns q r w w') (h1 : p ≠ q) (h2 : p ≠ r) (h3 : g ≠ q) (h4 : g ≠ r) : Win s m w' p g n xs := by
  obtain ⟨a1, a2, a3, a4, f, hr⟩ := h
  obtain ⟨cs, hl, hs⟩ := hr.body
  exact ⟨a1, a2, a3, a4, f, hr.ne, hr.n1, hr.n2, hr.f1, hr.len, hr.head.turns ht h1 h2, cs, hl.turns ht h3 h4, hs⟩
end

set_option maxHeartbeats 400000 in
theorem wasMet {s : Hd} {m n p g : Nat} {xs : List Bool} {w : World} (h : Win s m w p g n xs) (k : Nat) (x : Bool) (hx : xs[k]? = some x) :
    Calls Try.prog 27 #[.pointer (some ⟨p, 5, none⟩), .int .i64 (k : Int)] w (Saw (.bool x) w) := by
  obtain ⟨_, _, _, _, f, hr⟩ := h
  have K := Lib.hid (V.at_some k x hx hr)
  clear hr hx
  go_enter Try.func27, Try.ntmps27
  go_wp2_with (fail)
  with_reducible refine K.out.mono ?_
  rintro e w' ⟨rfl, q, rfl⟩
  go_wp2
  go_ret
  exact ⟨rfl, _, rfl⟩

def MetRel (xs : List Bool) (w : World) (c i : Value) (W : World) : Prop :=
  ∃ k q : Nat, k ≤ xs.length ∧ i = .int .i64 (k : Int) ∧ c = .int .i64 ((mets (xs.take k) : Nat) : Int) ∧ W = w.drewN q
set_option maxHeartbeats 1000000 in
theorem met {s : Hd} {m n p g : Nat} {xs : List Bool} {w : World} (h : Win s m w p g n xs) :
    Calls Try.prog 31 #[.pointer (some ⟨p, 5, none⟩)] w (Saw (.int .i64 (mets xs : Nat)) w) := by
  have hn := h.1
  have hn4 := h.2.2.2.1
  have H := Lib.hid h
  have KL := Lib.hid (let ⟨_, _, _, _, _, hr⟩ := h; V.size hr)
  clear h
  go_enter Try.func31, Try.ntmps31
  go_wp2_with (fail)
  with_reducible refine KL.out.mono ?_
  rintro e w' ⟨rfl, rfl⟩
  clear KL
  go_wp2
  go_loopw [3, 9] (fun c i W => MetRel xs w c i W) (fun _ i _ => xs.length - (intOf i).toNat)
  case atStart => exact ⟨0, 0, by omega, rfl, by simp [mets], rfl⟩
  case round =>
    obtain ⟨k, q, hk, rfl, rfl, rfl⟩ := hrel
    by_cases hlt : k < xs.length
    · have t1 : decide ((k : Int) < (xs.length : Int)) = true := by simp; omega
      have hx : xs[k]? = some xs[k] := by simp
      have hm := mets_le (xs.take k)
      have hm2 : (xs.take k).length ≤ 64 := by rw [List.length_take]; omega
      have HM := Lib.hid (mets_at hx).1
      have K := Lib.hid (wasMet (H.out.drewN q) k _ hx)
      clear hx
      generalize xs[k] = x at HM K
      generalize mets (xs.take k) = c at hm HM
      go_wp2_with (fail)
      with_reducible refine K.out.mono ?_
      rintro e w' ⟨rfl, q2, rfl⟩
      clear K
      cases x
      · go_wp2
        go_roundw
        case rel => exact ⟨k + 1, _, by omega, by go_num, by rw [HM.out]; simp, rfl⟩
        case measure => simp [intOf]; omega
      · go_wp2
        go_roundw
        case rel => exact ⟨k + 1, _, by omega, by go_num, by rw [HM.out]; go_num, rfl⟩
        case measure => simp [intOf]; omega
    · have t1 : decide ((k : Int) < (xs.length : Int)) = false := by simp; omega
      obtain rfl : k = xs.length := by omega
      rw [List.take_length]
      go_wp2
      go_ret
      exact ⟨rfl, _, rfl⟩
set_option maxHeartbeats 400000 in
theorem fails {s : Hd} {m n p g : Nat} {xs : List Bool} {w : World} (h : Win s m w p g n xs) :
    Calls Try.prog 23 #[.pointer (some ⟨p, 5, none⟩)] w (Saw (.bool (decide (mets xs < m))) w) := by
  have cm := h.cm
  have K := Lib.hid (fun q => met (h.drewN q))
  clear h
  go_enter Try.func23, Try.ntmps23
  go_wp2_with (fail)
  go_quiet ((go_at_call 31; exact Calls.quiet_of (K.out _)))
  go_wp2
  go_ret
  exact ⟨rfl, _, rfl⟩

def DistRel (m : Nat) (xs : List Bool) (w : World) (c i : Value) (W : World) : Prop :=
  ∃ (k q a : Nat), k ≤ xs.length ∧ a < m ∧ a = mets (xs.drop k) ∧ i = .int .i64 ((k : Int) - 1) ∧ c = .int .i64 (a : Int) ∧ W = w.drewN q
set_option maxHeartbeats 1000000 in
theorem distance {s : Hd} {m n p g : Nat} {xs : List Bool} {w : World} (h : Win s m w p g n xs) :
    Calls Try.prog 19 #[.pointer (some ⟨p, 5, none⟩)] w (Saw (.int .i64 (dist m xs : Nat)) w) := by
  have hl : xs.length ≤ 64 := by have := h.1; have := h.2.2.2.1; omega
  have m1 := h.2.1
  have hm : m ≤ 64 := by have := h.2.2.1; have := h.2.2.2.1; omega
  have cm := h.cm
  have H := Lib.hid h
  have KL := Lib.hid (let ⟨_, _, _, _, _, hr⟩ := h; V.size hr)
  clear h
  go_enter Try.func19, Try.ntmps19
  go_wp2_with (fail)
  with_reducible refine KL.out.mono ?_
  rintro e w' ⟨rfl, rfl⟩
  clear KL
  go_wp2
  go_loopw [3, 4] (fun c i W => DistRel m xs w c i W) (fun _ i _ => (intOf i + 1).toNat)
  case atStart => exact ⟨xs.length, 0, 0, by omega, by omega, by simp [mets], rfl, rfl, rfl⟩
  case round =>
    obtain ⟨k, q, a, hk, ham, ha, rfl, rfl, rfl⟩ := hrel
    have HA := Lib.hid ha
    clear ha
    by_cases hlt : 1 ≤ k
    · have t1 : decide ((0 : Int) ≤ (k : Int) - 1) = true := by simp; omega
      obtain ⟨j, rfl⟩ : ∃ j, k = j + 1 := ⟨k - 1, by omega⟩
      have hx : xs[j]? = some xs[j] := by simp
      have HM := Lib.hid (mets_at hx).2
      have K := Lib.hid (wasMet (H.out.drewN q) j _ hx)
      clear hx
      generalize xs[j] = x at HM K
      have ej : ((j + 1 : Nat) : Int) - 1 = (j : Int) := by omega
      rw [ej]
      rw [ej] at t1
      clear ej
      go_wp2_with (fail)
      with_reducible refine K.out.mono ?_
      rintro e w' ⟨rfl, q2, rfl⟩
      clear K
      cases x
      · have t2 : ((a : Int) == (m : Int)) = false := by rw [beq_eq_false_iff_ne]; omega
        go_wp2
        go_roundw
        case rel => exact ⟨j, _, a, by omega, ham, by rw [HM.out, ← HA.out]; simp, by go_num, rfl, rfl⟩
        case measure => simp [intOf]
      · by_cases ham2 : a + 1 = m
        · have t2 : ((a : Int) + 1 == (m : Int)) = true := by rw [beq_iff_eq]; omega
          have HD := Lib.hid (dist_at m1 (l := xs) (j := j) (by rw [← HA.out]; exact ham) (by rw [HM.out, ← HA.out]; simp; omega))
          clear ham2
          go_wp2
          go_ret
          exact ⟨by rw [HD.out]; rfl, _, rfl⟩
        · have t2 : ((a : Int) + 1 == (m : Int)) = false := by rw [beq_eq_false_iff_ne]; omega
          go_wp2
          go_roundw
          case rel => exact ⟨j, _, a + 1, by omega, by omega, by rw [HM.out, ← HA.out]; simp; omega, by go_num, by go_num, rfl⟩
          case measure => simp [intOf]
    · obtain rfl : k = 0 := by omega
      have t1 : decide ((0 : Int) ≤ ((0 : Nat) : Int) - 1) = false := by simp
      have HD := Lib.hid (dist_zero m1 (l := xs) (by have := HA.out; rw [List.drop_zero] at this; omega))
      go_wp2
      go_ret
      exact ⟨by rw [HD.out]; rfl, _, rfl⟩
end Go.Proofs.Ythdjflmligoelaa
