/- A Once that wasn't done: its function is called, once; then it is done, and its lock is free. -/
import Derived.Test.YtfialaigkcgncaaCl
namespace Go.Proofs.Ytfialaigkcgncaa
open Go.RowKit Nu Go.MuLone

/-- What a Once holds that wasn't done, and whose lock is free. -/
def Fresh (w : World) (o : Nat) : Prop := Lies w o 45 #[.int .u32 0, .int .i32 0, .int .u32 0]
/-- The row is there; but for its variable and the Once nothing has turned. -/
def MadeO (o rb : Nat) (kind m : Int) (K : Nat) (X : World) (e : Ending) (X' : World) : Prop :=
  e = .returned (.tuple #[]) ∧ ∃ b, X.heap.size ≤ b ∧ Lies X' rb 27 #[.slice (some ⟨b, 0, none⟩) K K] ∧ Row X' b 4 K (fun i => .bool (must kind i m K)) ∧ Turns (fun i => i = rb ∨ i = o) X X'

set_option maxRecDepth 100000 in
set_option maxHeartbeats 4000000 in
theorem slow {w : World} {o kb rb qb mb : Nat} {kind m : Int} {K : Nat} {row : Value} (ho : Fresh w o) (h : Vars w kb rb qb mb kind m K row) (hp : Pat kind m K) (d1 : kb ≠ o) (d2 : rb ≠ o) (d3 : qb ≠ o) (d4 : mb ≠ o) :
    Calls Try.prog 23 #[.pointer (some ⟨o, 0, none⟩), .func (.func 19) #[] #[.pointer (some ⟨kb, 0, none⟩), .pointer (some ⟨rb, 0, none⟩), .pointer (some ⟨qb, 0, none⟩), .pointer (some ⟨mb, 0, none⟩)]] w (MadeO o rb kind m K w) := by
  have O1 : Lies (w.setCell ⟨o, 1, none⟩ (.int .i32 1)) o 45 #[.int .u32 0, .int .i32 1, .int .u32 0] := ho.here 1 _
  have KL := Lib.hid (lock_free lib ⟨o, 1, none⟩ w (ho.cell 1) (ho.thawed 1))
  have KD := Lib.hid (notDone ⟨o, 0, none⟩ _ (O1.cell 0))
  have KF := Lib.hid (fills (h.there (a := ⟨o, 1, none⟩) (.int .i32 1) d1 d3 d4 d2) hp)
  have T1 := Lib.hid ((Turns.refl (fun i => i = rb ∨ i = o) w).setCell (a := ⟨o, 1, none⟩) (.inr (.inr rfl)) (.int .i32 1))
  have HO := Lib.hid O1
  have hs : (w.setCell ⟨o, 1, none⟩ (.int .i32 1)).heap.size = w.heap.size := by simp [World.setCell]
  have HS := Lib.hid hs
  have hol := ho.lt
  clear ho h hp O1 hs
  generalize w.setCell ⟨o, 1, none⟩ (.int .i32 1) = w1 at KL KD KF T1 HO HS
  go_enter_defers Try.func23, Try.ntmps23
  go_wp2_with (fail)
  with_reducible refine KL.out.mono ?_
  rintro e w2 ⟨rfl, rfl⟩
  go_wp2_with (fail)
  with_reducible refine KD.out.mono ?_
  rintro e w2 ⟨rfl, rfl⟩
  go_wp2_with (fail)
  with_reducible refine KF.out.mono ?_
  rintro e w2 ⟨rfl, b, hb, hv, hr, ht⟩
  have HV := Lib.hid hv
  have HR := Lib.hid hr
  have HT := Lib.hid ht
  have HO2 := Lib.hid (HO.out.turns ht (fun h => d2 h.symm))
  have hbo : b ≠ o := by have := HS.out; omega
  clear hv hr ht
  go_wp2_with (fail)
  -- the two deferred calls, the last laid first
  refine leaves_cons (f := 28) (args := #[.pointer (some ⟨o, 0, none⟩), .bool true]) (by simp) (by simp [go_sem]) ?_
  refine (done_deferred ⟨o, 0, none⟩ _ .returning _ (HO2.out.cell 0) (HO2.out.thawed 0)).mono ?_
  rintro e u' w3 ⟨rfl, rfl, rfl⟩
  have HO3 : Hid (Lies (w2.drew.setCell ⟨o, 0, none⟩ (.int .u32 1)) o 45 #[.int .u32 1, .int .i32 1, .int .u32 0]) := Lib.hid ((HO2.out.drewN 1).here 0 _)
  refine leaves_cons (f := 27) (args := #[.pointer (some ⟨o, 1, none⟩)]) (by simp [settle]) (by simp [go_sem]) ?_
  refine (unlock_deferred lib ⟨o, 1, none⟩ _ _ (HO3.out.cell 1) (HO3.out.thawed 1)).mono ?_
  rintro e u' w4 ⟨rfl, rfl, rfl⟩
  refine ⟨_, results_none rfl _ _ _, rfl, b, by have := HS.out; omega, ?_, ?_, ?_⟩
  · exact ((HV.out.hr.drewN 1).there (a := ⟨o, 0, none⟩) d2 _).there (a := ⟨o, 1, none⟩) d2 _
  · exact ((HR.out.drewN 1).there (a := ⟨o, 0, none⟩) hbo _).there (a := ⟨o, 1, none⟩) hbo _
  · exact (((T1.out.trans (S := fun i => i = rb ∨ i = o) HT.out (fun i _ h => .inl h)).drewN 1).setCell (a := ⟨o, 0, none⟩) (.inr (.inr rfl)) _).setCell (a := ⟨o, 1, none⟩) (.inr (.inr rfl)) _

set_option maxRecDepth 100000 in
set_option maxHeartbeats 4000000 in
theorem once {w : World} {o kb rb qb mb : Nat} {kind m : Int} {K : Nat} {row : Value} (ho : Fresh w o) (h : Vars w kb rb qb mb kind m K row) (hp : Pat kind m K) (d1 : kb ≠ o) (d2 : rb ≠ o) (d3 : qb ≠ o) (d4 : mb ≠ o) :
    Calls Try.prog 18 #[.pointer (some ⟨o, 0, none⟩), .func (.func 19) #[] #[.pointer (some ⟨kb, 0, none⟩), .pointer (some ⟨rb, 0, none⟩), .pointer (some ⟨qb, 0, none⟩), .pointer (some ⟨mb, 0, none⟩)]] w (MadeO o rb kind m K w) := by
  have KD := Lib.hid (notDone ⟨o, 0, none⟩ _ (ho.cell 0))
  have KS := Lib.hid (slow ho h hp d1 d2 d3 d4)
  clear ho h hp
  go_enter Try.func18, Try.ntmps18
  go_wp2_with (fail)
  with_reducible refine KD.out.mono ?_
  rintro e w2 ⟨rfl, rfl⟩
  go_wp2_with (fail)
  with_reducible refine KS.out.mono ?_
  rintro e w2 ⟨rfl, H⟩
  go_wp2
  go_end0
  exact ⟨rfl, H⟩
end Go.Proofs.Ytfialaigkcgncaa
