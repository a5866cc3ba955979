/- Gaps; a verdict in a variable of its own, made before the verdict or behind it. -/
import Derived.Test.YtklnokhabomnfaaVj
import Derived.Test.YtklnokhabomnfaaGr
namespace Go.Proofs.Ytklnokhabomnfaa
open Go.RowKit

set_option maxHeartbeats 1000000 in
theorem gap {g : Int} (g0 : 0 ≤ g) (g1 : g ≤ 4294967295) (w : World) : Calls Try.prog 17 #[.int .u32 g] w (Says (.int .i64 (1 + g % 1049576)) w) := by
  have tx : g.tmod 1049576 = g % 1049576 := Int.tmod_eq_emod_of_nonneg g0
  obtain ⟨x, hx⟩ : ∃ x, x = g % 1049576 := ⟨_, rfl⟩
  have x0 : 0 ≤ x := by rw [hx]; exact Int.emod_nonneg _ (by omega)
  have x1 : x < 1049576 := by rw [hx]; exact Int.emod_lt_of_pos g (by omega)
  rw [← hx] at tx ⊢
  clear hx
  have cv : IntKind.i64.wrap g = g := IntWalk.i64_in _ ⟨by omega, by omega⟩
  have sv : IntKind.i64.wrap (1 + x) = 1 + x := IntWalk.i64_in _ ⟨by omega, by omega⟩
  have xv : IntKind.i64.wrap x = x := IntWalk.i64_in _ ⟨by omega, by omega⟩
  go_enter Try.func17, Try.ntmps17
  go_wp2
  go_ret
  exact ⟨rfl, rfl⟩

abbrev Zvd : Array Value := #[.bool false, .int .i64 0, .slice none 0 0]
/-- A verdict in a variable of its own, its row apart. -/
def VdT (X : World) (b g : Int) (l : List Tk) (n : Nat) (s e : Value) (W : World) : Prop :=
  ∃ (D : Nat) (ok : Bool) (late : Int) (R : List Int) (t : Nat), s = .pointer (some ⟨D, 0, none⟩) ∧ e = .int .i64 0 ∧ Lies W D 29 #[.bool ok, .int .i64 late, .slice (some ⟨t, 0, none⟩) n n] ∧ Row W t R ∧ Verd b g l ok late R ∧ X.heap.size ≤ D ∧ X.heap.size ≤ t ∧ t ≠ D ∧ Below X.heap.size X W
section
variable {X V U : World} {b g : Int} {l : List Tk} {n t D : Nat} {ok : Bool} {late : Int} {R : List Int}
theorem VdT.behind (hv : Verd b g l ok late R) (hr : Row U t R) (ht : X.heap.size ≤ t) (hb : Below X.heap.size X U) :
    VdT X b g l n (.pointer (some ⟨U.heap.size, 0, none⟩)) (.int .i64 0) (U.alloc (.cells #[.bool ok, .int .i64 late, .slice (some ⟨t, 0, none⟩) n n] 29)) := by
  have hlt : t < U.heap.size := Lies.lt hr
  exact ⟨_, ok, late, R, t, rfl, rfl, Lies.made _ _ _, hr.tells (below_new _ _), hv, hb.size, ht, by omega, hb.alloc hb.size _⟩
theorem VdT.early (hv : Verd b g l ok late R) (hr : Row U t R) (hL : Lies U D 29 Zvd) (hD : X.heap.size ≤ D) (ht : X.heap.size ≤ t) (hne : t ≠ D) (hb : Below X.heap.size X U) :
    VdT X b g l n (.pointer (some ⟨D, 0, none⟩)) (.int .i64 0) (((U.setCell ⟨D, 0, none⟩ (.bool ok)).setCell ⟨D, 1, none⟩ (.int .i64 late)).setCell ⟨D, 2, none⟩ (.slice (some ⟨t, 0, none⟩) n n)) :=
  ⟨D, ok, late, R, t, rfl, rfl, ((hL.here 0 _).here 1 _).here 2 _,
    ((Lies.there hr (a := ⟨D, 0, none⟩) hne _).there (a := ⟨D, 1, none⟩) hne _).there (a := ⟨D, 2, none⟩) hne _, hv, hD, ht, hne,
    ((hb.setCell (p := ⟨D, 0, none⟩) hD _).setCell (p := ⟨D, 1, none⟩) hD _).setCell (p := ⟨D, 2, none⟩) hD _⟩
theorem early_below (hD : X.heap.size ≤ D) (hb : Below X.heap.size X U) (u v x : Value) : Below X.heap.size X (((U.setCell ⟨D, 0, none⟩ u).setCell ⟨D, 1, none⟩ v).setCell ⟨D, 2, none⟩ x) :=
  ((hb.setCell (p := ⟨D, 0, none⟩) hD _).setCell (p := ⟨D, 1, none⟩) hD _).setCell (p := ⟨D, 2, none⟩) hD _
theorem below_d0 (X : World) : Below X.heap.size X X.drew := below_drewN (Below.refl _ _) 1
/-- What a call that began behind the variable's making leaves of it. -/
theorem early_lies (hb : Below (X.alloc (.cells Zvd 29)).drew.heap.size (X.alloc (.cells Zvd 29)).drew U) : Lies U X.heap.size 29 Zvd := by
  have h0 : Lies (X.alloc (.cells Zvd 29)).drew X.heap.size 29 Zvd := Lies.drew (Lies.made _ _ _)
  exact h0.below hb h0.lt
theorem early_ge (ht : (X.alloc (.cells Zvd 29)).drew.heap.size ≤ t) : X.heap.size ≤ t ∧ t ≠ X.heap.size := by
  have : (X.alloc (.cells Zvd 29)).drew.heap.size = X.heap.size + 1 := by simp
  omega
theorem early_from (hb : Below (X.alloc (.cells Zvd 29)).drew.heap.size (X.alloc (.cells Zvd 29)).drew U) : Below X.heap.size X U :=
  (below_d1 X _).trans (hb.mono (below_d1 X _).size)
theorem late_from (hb : Below X.drew.heap.size X.drew U) : Below X.heap.size X U := (below_d0 X).trans hb
end
end Go.Proofs.Ytklnokhabomnfaa
