/- The function that the Once calls: the row is made, and each place of it is written. -/
import Derived.Test.YtfialaigkcgncaaRo
namespace Go.Proofs.Ytfialaigkcgncaa
open Go.RowKit Nu

/-- What the function reads: the numbers of the pattern, each in a variable of its own; and the row's own variable. -/
structure Vars (X : World) (kb rb qb mb : Nat) (kind m : Int) (K : Nat) (row : Value) : Prop where
  hk : Lies X kb 3 #[.int .i64 (K : Int)]
  hq : Lies X qb 3 #[.int .i64 kind]
  hm : Lies X mb 3 #[.int .i64 m]
  hr : Lies X rb 27 #[row]
  n1 : kb ≠ rb
  n2 : qb ≠ rb
  n3 : mb ≠ rb
section
variable {X X' : World} {kb rb qb mb : Nat} {kind m : Int} {K : Nat} {row : Value} {S : Nat → Prop}
theorem Vars.turns (h : Vars X kb rb qb mb kind m K row) (ht : Turns S X X') (s1 : ¬ S kb) (s2 : ¬ S qb) (s3 : ¬ S mb) (s4 : ¬ S rb) : Vars X' kb rb qb mb kind m K row :=
  ⟨h.hk.turns ht s1, h.hq.turns ht s2, h.hm.turns ht s3, h.hr.turns ht s4, h.n1, h.n2, h.n3⟩
theorem Vars.drewN (h : Vars X kb rb qb mb kind m K row) (n : Nat) : Vars (X.drewN n) kb rb qb mb kind m K row :=
  ⟨h.hk.drewN n, h.hq.drewN n, h.hm.drewN n, h.hr.drewN n, h.n1, h.n2, h.n3⟩
theorem Vars.made (h : Vars X kb rb qb mb kind m K row) (o : Obj) : Vars (X.alloc o) kb rb qb mb kind m K row :=
  ⟨h.hk.alloc o, h.hq.alloc o, h.hm.alloc o, h.hr.alloc o, h.n1, h.n2, h.n3⟩
theorem Vars.put (h : Vars X kb rb qb mb kind m K row) (v : Value) : Vars (X.setCell ⟨rb, 0, none⟩ v) kb rb qb mb kind m K v :=
  ⟨h.hk.there h.n1 v, h.hq.there h.n2 v, h.hm.there h.n3 v, h.hr.here 0 v, h.n1, h.n2, h.n3⟩
theorem Vars.there (h : Vars X kb rb qb mb kind m K row) {a : Addr} (v : Value) (a1 : kb ≠ a.block) (a2 : qb ≠ a.block) (a3 : mb ≠ a.block) (a4 : rb ≠ a.block) : Vars (X.setCell a v) kb rb qb mb kind m K row :=
  ⟨h.hk.there a1 v, h.hq.there a2 v, h.hm.there a3 v, h.hr.there a4 v, h.n1, h.n2, h.n3⟩
end
/-- The first j places are written. -/
def rowF (kind m : Int) (K j : Nat) (i : Nat) : Value := if i < j then .bool (must kind i m K) else .bool false
theorem rowF_next (kind m : Int) (K j i : Nat) (_ : i < K) : rowF kind m K (j + 1) i = if i = j then .bool (must kind (j : Int) m K) else rowF kind m K j i := by
  unfold rowF
  by_cases e : i = j
  · subst e
    rw [if_pos (by omega), if_pos rfl]
  · rw [if_neg e]
    by_cases h : i < j
    · rw [if_pos (by omega), if_pos h]
    · rw [if_neg (by omega), if_neg h]
def ClRel (kb rb qb mb b : Nat) (kind m : Int) (K : Nat) (X0 : World) (i : Value) (W : World) : Prop := ∃ (j : Nat) (Z : World), j ≤ K ∧ i = .int .i64 (j : Int) ∧ Z = W ∧ Vars Z kb rb qb mb kind m K (.slice (some ⟨b, 0, none⟩) K K) ∧ Row Z b 4 K (rowF kind m K j) ∧ Turns (fun i => i = rb) X0 Z
/-- The row is there. -/
def Made (kb rb qb mb : Nat) (kind m : Int) (K : Nat) (X : World) (e : Ending) (X' : World) : Prop :=
  e = .returned (.tuple #[]) ∧ ∃ b, X.heap.size ≤ b ∧ Vars X' kb rb qb mb kind m K (.slice (some ⟨b, 0, none⟩) K K) ∧ Row X' b 4 K (fun i => .bool (must kind i m K)) ∧ Turns (fun i => i = rb) X X'

set_option maxRecDepth 100000 in
set_option maxHeartbeats 4000000 in
theorem fills {X : World} {kb rb qb mb : Nat} {kind m : Int} {K : Nat} {row : Value} (h : Vars X kb rb qb mb kind m K row) (hp : Pat kind m K) :
    Calls Try.prog 19 #[.pointer (some ⟨kb, 0, none⟩), .pointer (some ⟨rb, 0, none⟩), .pointer (some ⟨qb, 0, none⟩), .pointer (some ⟨mb, 0, none⟩)] X (Made kb rb qb mb kind m K X) := by
  have hK : K ≤ 64 := by have := hp.k2; omega
  have KM := make_bools K (by omega) X
  have V1 := Lib.hid ((h.put (.slice (some ⟨X.heap.size, 0, none⟩) K K)).made (.cells (madeCells #[.bool false] K) 4))
  have c0 := h.hk.cell 0
  have c1 := h.hr.cell 0
  have z1 := h.hr.thawed 0
  have hlt := h.hr.lt
  have hkl := h.hk.lt
  have hql := h.hq.lt
  have hml := h.hm.lt
  have HS : (X.setCell ⟨rb, 0, none⟩ (.slice (some ⟨X.heap.size, 0, none⟩) K K)).heap.size = X.heap.size := by simp [World.setCell]
  have R1 : Hid (Row ((X.setCell ⟨rb, 0, none⟩ (.slice (some ⟨X.heap.size, 0, none⟩) K K)).alloc (.cells (madeCells #[.bool false] K) 4)) X.heap.size 4 K (rowF kind m K 0)) := Lib.hid (by
    have := (Row.made (X.setCell ⟨rb, 0, none⟩ (.slice (some ⟨X.heap.size, 0, none⟩) K K)) 4 K (.bool false)).eq (f' := rowF kind m K 0) (fun i _ => by unfold rowF; rw [if_neg (by omega)])
    rw [HS] at this
    exact this)
  have T1 : Hid (Turns (fun i => i = rb) X ((X.setCell ⟨rb, 0, none⟩ (.slice (some ⟨X.heap.size, 0, none⟩) K K)).alloc (.cells (madeCells #[.bool false] K) 4))) := Lib.hid
    (((Turns.refl (fun i => i = rb) X).setCell (.inr rfl) _).trans (Turns.of_below (S := fun i => i = rb) (below_new _ _)) (fun _ _ h => h))
  clear HS
  have HP := Lib.hid hp
  have HX := Lib.hid (Nat.le_refl X.heap.size)
  obtain ⟨b, hb⟩ : ∃ b, b = X.heap.size := ⟨_, rfl⟩
  have HB := Lib.hid hb
  clear hb
  simp only [List.getElem?_toArray, List.getElem?_cons_zero] at c0 c1
  clear h hp
  go_enter Try.func19, Try.ntmps19
  go_wp2
  go_loopw [9] (fun i W => ClRel kb rb qb mb b kind m K X i W) (fun i _ => K - (intOf i).toNat)
  case atStart =>
    rw [HB.out]
    exact ⟨0, _, by omega, rfl, rfl, V1.out, R1.out, T1.out⟩
  case round =>
    obtain ⟨j, Z, hj, rfl, rfl, hv, hr, ht⟩ := hrel
    have V2 := Lib.hid hv
    have R2 := Lib.hid hr
    have T2 := Lib.hid ht
    have HB2 := Lib.hid (show b ≠ rb ∧ b ≠ kb ∧ b ≠ qb ∧ b ≠ mb by have := HB.out; refine ⟨?_, ?_, ?_, ?_⟩ <;> omega)
    clear hv hr ht V1 R1 T1 KM c0 c1 z1
    by_cases hlt2 : j < K
    · have t1 : decide ((j : Int) < (K : Int)) = true := by simp; omega
      have i1 : (0 : Int) ≤ (j : Int) := by omega
      have i2 : (j : Int) < (K : Int) := by omega
      have x0 := V2.out.hk.cell 0
      have x1 := V2.out.hq.cell 0
      have x2 := V2.out.hm.cell 0
      have x3 := V2.out.hr.cell 0
      have x4 := R2.out.cell hlt2
      have x5 := R2.out.thawed j
      simp only [List.getElem?_toArray, List.getElem?_cons_zero] at x0 x1 x2 x3
      have KU := Lib.hid (fun W => mustAt HP.out (j : Int) W i1 (by omega))
      obtain ⟨n1, n2, n3, n4⟩ := HB2.out
      go_wp2_with (fail)
      go_region_held3 (fun W => W.cell? ⟨kb, 0, none⟩ = some (.int .i64 (K : Int)) ∧ W.cell? ⟨qb, 0, none⟩ = some (.int .i64 kind) ∧ W.cell? ⟨mb, 0, none⟩ = some (.int .i64 m) ∧ W.cell? ⟨rb, 0, none⟩ = some (.slice (some ⟨b, 0, none⟩) K K)) (go_keep)
        (first | (go_at_call 13; refine (KU.out _).mono ?_; rintro e w4 ⟨rfl, q, rfl⟩))
      go_wp2
      go_roundw
      case rel => exact ⟨j + 1, _, by omega, by go_num, rfl, (V2.out.drewN _).there _ (fun h => n2 h.symm) (fun h => n3 h.symm) (fun h => n4 h.symm) (fun h => n1 h.symm), (R2.out.drewN _).set (rowF_next kind m K j), (T2.out.drewN _).setCell (.inl (by have := HB.out; simp only; omega)) _⟩
      case measure => simp [intOf]; omega
    · have t1 : decide ((j : Int) < (K : Int)) = false := by simp; omega
      obtain rfl : j = K := by omega
      go_wp2
      go_end0
      exact ⟨rfl, b, by have := HB.out; omega, V2.out, R2.out.eq (fun i hi => by unfold rowF; rw [if_pos hi]), T2.out⟩
end Go.Proofs.Ytfialaigkcgncaa
